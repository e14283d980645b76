/-
  Contract of a table's prolonged.
-/
import Derived.Test.YtiolmcnngpaapaaLa
import Derived.Test.YtiolmcnngpaapaaSt
import Derived.StillTailTactics
import Derived.Lib.MinMax
import Derived.Deep.DeepCutAuto
namespace Go.Proofs.Ytiolmcnngpaapaa
open Go.RowKit Go.Shelf Cy

theorem keyE_has {D : DataW Unit} {p : Int} {L : List Arc} (h : MapIs D p L) {f t : Int} (hf : Fits f) (ht : Fits t) {c : Int} (hat : ∀ zd, D.atKey (keyE f t) zd = .lit (.int .i64 c)) : great p L f t = some c := by
  have h1 := Maps.has_true_of_atKey hat
  rw [h.has f t hf ht] at h1
  cases e : great p L f t with
  | none => rw [e] at h1; cases h1
  | some d =>
    have h2 := h.at_ f t d hf ht e (.lit (.int .i64 0))
    rw [hat] at h2; injection h2 with h2; injection h2 with _ h2; rw [h2]
/-- What the table is when some entries of the map are still tn come. -/
structure Prol (n : Nat) (p : Int) (L : List Arc) (T f : Nat → Nat → Int) (left : Lit → Bool) : Prop where
  done : ∀ (u : Nat) (t : Nat) c, u < n → t < n → great p L u t = some c → left (keyE u t) = false → ∀ j, j < n → c + T t j ≤ f u j
  att : ∀ i j, i < n → j < n → f i j = (-1099511627776) ∨ ∃ (t : Nat) (c : Int), t < n ∧ great p L i t = some c ∧ f i j = c + T t j
  low : ∀ i j, (-1099511627776) ≤ f i j
theorem fits_n {n u : Nat} (hn : n ≤ 32) (h : u < n) : Fits (u : Int) := by unfold Fits; omega
theorem Prol.start {n : Nat} {p : Int} {L : List Arc} {T : Nat → Nat → Int} {D : DataW Unit} (hn : n ≤ 32) (h : MapIs D p L) : Prol n p L T (fun _ _ => (-1099511627776)) (Maps.has D) :=
  ⟨fun u t c hu ht hg hl => (by rw [h.has _ _ (fits_n hn hu) (fits_n hn ht), hg] at hl; cases hl), fun i j _ _ => Or.inl rfl, fun i j => Int.le_refl _⟩
theorem Prol.step {n : Nat} {p : Int} {L : List Arc} {T f : Nat → Nat → Int} {left : Lit → Bool} (hn : n ≤ 32) (h : Prol n p L T f left) {fr tn : Nat} {c : Int} (hf : fr < n) (ht : tn < n) (hg : great p L fr tn = some c) :
    Prol n p L T (fun i j => if i = fr ∧ j < n then max (f i j) (c + T tn j) else f i j) (fun z => left z && !z.sameKey (keyE fr tn)) := by
  refine ⟨fun u t d hu ht2 hg2 hl j hj => ?_, fun i j hi hj => ?_, fun i j => ?_⟩
  · simp only [Bool.and_eq_false_iff, Bool.not_eq_false'] at hl
    by_cases e : u = fr ∧ t = tn
    · obtain ⟨rfl, rfl⟩ := e
      rw [hg] at hg2; injection hg2 with hg2; subst hg2
      rw [if_pos ⟨rfl, hj⟩]; exact Int.le_max_right _ _
    · have h1 := h.done u t d hu ht2 hg2 (by
        rcases hl with hl | hl
        · exact hl
        · exfalso
          have := keyE_inj (fits_n hn hu) (fits_n hn ht2) (fits_n hn hf) (fits_n hn ht) (WideAt.sameKey_eq hl)
          exact e ⟨by omega, by omega⟩) j hj
      split
      · exact Int.le_trans h1 (Int.le_max_left _ _)
      · exact h1
  · by_cases e : i = fr
    · subst e
      rw [if_pos ⟨rfl, hj⟩]
      rcases Int.le_total (f i j) (c + T tn j) with hm | hm
      · exact .inr ⟨tn, c, ht, hg, Int.max_eq_right hm⟩
      · rw [Int.max_eq_left hm]; exact h.att i j hi hj
    · rw [if_neg (fun h => e h.1)]; exact h.att i j hi hj
  · have := h.low i j
    show _ ≤ (if _ then _ else _)
    split
    · exact Int.le_trans this (Int.le_max_left _ _)
    · exact this
theorem Prol.fin {n k : Nat} {p : Int} {L : List Arc} {f : Nat → Nat → Int} {left : Lit → Bool} (hG : Grd n p L) (h : Prol n p L (Cy.T p L k) f left) (hl : ∀ z, left z = false) {i j : Nat} (hi : i < n) (hj : j < n) : f i j = Cy.T p L (k + 1) i j := by
  have ge : (-1099511627776) ≤ Cy.T p L (k + 1) i j := by rw [Cy.T]; exact foldT_ge _ _ _ _
  apply Int.le_antisymm
  · rcases h.att i j hi hj with e | ⟨t, c, ht, hg, e⟩
    · rw [e]; exact ge
    · obtain ⟨⟨a, ha, h1, h2, h3⟩, -⟩ := (great_spec p i t L).1 c hg
      have := T_succ_ge (p := p) (k := k) ha j
      rw [show a.f.toNat = i by omega, show a.t.toNat = t by omega] at this
      omega
  · rcases T_succ_is (p := p) (l := L) (k := k) i j with e | ⟨a, ha, h1, h2⟩
    · rw [e]; exact h.low i j
    · have hb := hG a ha
      cases hg : great p L (i : Int) (a.t.toNat : Int) with
      | none => exact absurd ⟨show a.f = (i : Int) by omega, show a.t = (a.t.toNat : Int) by omega⟩ ((great_spec p i a.t.toNat L).2 hg a ha)
      | some c =>
        have h3 := ((great_spec p i a.t.toNat L).1 c hg).2 a ha (by omega) (by omega)
        have h4 := h.done i a.t.toNat c hi (by omega) hg (hl _) j hj
        omega
/-- After k columns of one entry. -/
def part1 (f T : Nat → Nat → Int) (fr tn : Nat) (c : Int) (k : Nat) : Nat → Nat → Int := fun i j => if i = fr ∧ j < k then max (f i j) (c + T tn j) else f i j
set_option maxRecDepth 100000 in
set_option maxHeartbeats 4000000 in
theorem prolonged_any (n : Nat) (hn1 : 1 ≤ n) (hn : n ≤ 32) (p : Int) (L : List Arc) (hG : Grd n p L) (k : Nat) (hk : k ≤ 100) (B gt : Nat) (rt : Nat → Nat) (b nm : Nat) (D : DataW Unit) (w : World) (hT : TabAt w B gt n rt (Cy.T p L k)) (hM : OwnMap w b nm D) (hD : MapIs D p L) :
    Calls Try.prog 87 #[rowV gt n, .map (some b)] w (TabPost n (Cy.T p L (k + 1)) w) := by
  have HE := Lib.hid (emptyTable_any n hn1 hn w)
  have HT := Lib.hid hT; have HM := Lib.hid hM; have HD := Lib.hid hD; have HG := Lib.hid hG
  have hbl := hM.lt
  have n1 : (n : Int) ≤ 32 := by omega
  clear hT hM hD hG
  go_enter Try.func87, Try.ntmps87
  go_wp2_with fail
  refine HE.out.mono ?_
  rintro _ w1 ⟨g, r, rfl, hTb, hB1⟩
  have HTb := Lib.hid hTb; have HB1 := Lib.hid hB1
  have HM1 := Lib.hid (HM.out.kept (grown_of_below hB1) (by simp))
  have hs1 := hB1.size
  clear hTb hB1 HE
  go_wp2_with (at_range; refine wpList_range_own _ rfl (.tmp 13) 116 rfl 99 3 endsLaw Try.underlying116 (plainElem Try.prog 3) b nm D rfl HM1.out ?_; intro w0 hrg0 hg0 hs0)
  go_frame
  have HR0 := Lib.hid hrg0
  have HB0 := Lib.hid (HB1.out.grown hg0 HB1.out.size (fun j hj => by cases hj))
  have HT0 := Lib.hid (HTb.out.below (show Below w1.heap.size w1 w0 from (Below.refl _ _).grown hg0 (Nat.le_refl _) (fun j hj => by cases hj)))
  have hw1 := hs0
  clear hrg0 hg0 hs0 HM1
  go_loopw [26] (fun _ wr => ∃ (left : Lit → Bool) (cnt : Nat) (f : Nat → Nat → Int), Hid (wr.ranges Try.prog 99 (plainElem Try.prog 3) b w1.heap.size nm D left cnt) ∧ Hid (TabAt wr w.heap.size g n r f) ∧ Hid (Prol n p L (Cy.T p L k) f left) ∧ Hid (Below w.heap.size w wr)) (fun _ wr => wr.rangeLeft b w1.heap.size)
  case atStart => exact ⟨_, _, _, HR0, HT0, Lib.hid (Prol.start hn HD.out), HB0⟩
  case round =>
    clear HR0 HT0 HB0 HTb HB1
    obtain ⟨left, cnt, f, HR, HTb, HP, HB⟩ := hrel
    go_wp2_with (at_next; refine wpList_next_ranges _ rfl (.tmp 14) rfl 99 endsLaw (plainElem Try.prog 3) (fun x : Int × Int => pairV x.1 x.2) (fun c : Int => Value.int .i64 c) (fun key kl hkey => (let ⟨f, t, e, _⟩ := keyOf_ends_inv hkey; ⟨(f, t), e⟩)) (fun v y hv => (let ⟨c, e, _⟩ := plainElem_int_inv Try.underlying3 hv; ⟨c, e⟩)) b w1.heap.size nm D left cnt rfl HR.out ?_ ?_)
    · intro hc0 hl0
      have HF := Lib.hid (fun i j hi hj => HP.out.fin HG.out hl0 (i := i) (j := j) hi hj)
      clear hl0 hc0
      go_wp2_with fail
      go_ret
      exact ⟨g, r, rfl, HTb.out.congr (fun i j hi hj => HF.out i j hi hj), HB.out⟩
    · intro xf xt c kl y1 y2 w2 cnt2 hkey hlk hv hat hrg2 hlt2 hg2 hs2 hen
      obtain ⟨xf', xt', hx, rfl, hff, hft⟩ := keyOf_ends_inv hkey
      obtain ⟨rfl, rfl⟩ : xf = xf' ∧ xt = xt' := by simpa using hx
      obtain ⟨c', hc', he, hwc⟩ := plainElem_int_inv Try.underlying3 hv
      obtain rfl : c = c' := by injection hc'
      injection he with he1 he2
      subst he1
      have hgr := keyE_has HD.out hff hft hat
      obtain ⟨⟨x, hxa, hx1, hx2, hx3⟩, -⟩ := (great_spec p xf xt L).1 c hgr
      have hxb := HG.out x hxa
      have hcb : -3000000 ≤ c ∧ c ≤ 3000000 := by omega
      obtain ⟨uf, rfl⟩ := Int.eq_ofNat_of_zero_le (show 0 ≤ xf by omega)
      obtain ⟨ut, rfl⟩ := Int.eq_ofNat_of_zero_le (show 0 ≤ xt by omega)
      have huf : uf < n := by omega
      have hut : ut < n := by omega
      have HP2 := Lib.hid (HP.out.step hn huf hut hgr)
      have HR2 := Lib.hid hrg2
      have HTb2 := Lib.hid (HTb.out.ks (KS.of_grown (S := fun _ => False) hg2 (fun j e => by injection e with e; subst e; obtain ⟨o, h1, h2⟩ := HR.out.iter_walk; exact ⟨o, h1, Obj.not_cells_of_walk h2⟩)) (fun h => h) (fun _ _ _ h => h))
      have HB2 := Lib.hid (HB.out.grown hg2 HB.out.size (fun j e => by injection e with e; omega))
      have hm2 := hlt2
      have HLe := Lib.hid HR.out.left_eq
      clear hkey hv hat hx hxa hx1 hx2 hx3 hxb hff hft hgr hlk hrg2 hg2 HR HTb HP HB hlt2 hwc
      obtain ⟨w3, hw3⟩ : ∃ V, w2.alloc (.cells #[.int .i64 (uf : Int), .int .i64 (ut : Int)] 99) = V := ⟨_, rfl⟩
      have hb3 : Below w2.heap.size w2 w3 := by rw [← hw3]; exact below_new _ _
      have HR3 := Lib.hid (show w3.ranges Try.prog 99 (plainElem Try.prog 3) b w1.heap.size nm D (fun z => left z && !z.sameKey (keyE (uf : Int) (ut : Int))) cnt2 from by rw [← hw3]; exact HR2.out.alloc _)
      have HTb3 := Lib.hid (HTb2.out.below hb3)
      have HE3 := Lib.hid (show w3.heap[w2.heap.size]? = some (.cells #[.int .i64 (uf : Int), .int .i64 (ut : Int)] 99) from by rw [← hw3]; exact heap_alloc_new _ _)
      have HB3 := Lib.hid (below_step HB2.out hb3)
      have c0 := ((HT.out.below HB3.out).cells hut).1
      have e0 := box_cell HE3.out 0 (.int .i64 (uf : Int)) rfl
      have e1 := box_cell HE3.out 1 (.int .i64 (ut : Int)) rfl
      have q1 : (ut : Int) < (n : Int) := by omega
      have q2 : (uf : Int) < (n : Int) := by omega
      have HS2 := Lib.hid hs2
      have HW3 := Lib.hid hw3
      have hsz : w.heap.size < w2.heap.size := by have := HB2.out.size; have := HR2.out.lt; omega
      clear hs2 hb3 HR2 HTb2 HB2 hw3
      go_upto_region 5 with (fail)
      rw [HW3.out]
      clear HW3 hen
      go_wp2_with fail
      clear c0 e0 e1
      go_loopw [26] (fun i v => ∃ (m : Nat), m ≤ n ∧ i = .int .i64 (m : Int) ∧ Hid (v.ranges Try.prog 99 (plainElem Try.prog 3) b w1.heap.size nm D (fun z => left z && !z.sameKey (keyE (uf : Int) (ut : Int))) cnt2) ∧ Hid (TabAt v w.heap.size g n r (part1 f (Cy.T p L k) uf ut c m)) ∧ Hid (v.heap[w2.heap.size]? = some (.cells #[.int .i64 (uf : Int), .int .i64 (ut : Int)] 99)) ∧ Hid (Below w.heap.size w v)) (fun i _ => n - (intOf i).toNat)
      case atStart => exact ⟨0, Nat.zero_le _, rfl, HR3, Lib.hid (HTb3.out.congr (fun i j _ _ => by unfold part1; rw [if_neg (by omega)])), HE3, HB3⟩
      case round =>
        clear HR3 HTb3 HE3 HB3
        rename World => v
        obtain ⟨m, hm, rfl, HR, HTb, HE, HB⟩ := hrel
        by_cases hlt : m < n
        · have m1 : (m : Int) < (n : Int) := by omega
          have m0 : (0 : Int) ≤ (m : Int) := by omega
          obtain ⟨ct0, -⟩ := ((HT.out.below HB.out).cells hut).2 m hlt
          obtain ⟨d0, hd⟩ := HTb.out.cells huf
          obtain ⟨d1, z1⟩ := hd m hlt
          have e0 := box_cell HE.out 0 (.int .i64 (uf : Int)) rfl
          have e1 := box_cell HE.out 1 (.int .i64 (ut : Int)) rfl
          have htb := T_bd HG.out (k := k) (i := ut) (j := m)
          have hlr := lt_of_block (HTb.out.row uf huf huf)
          have hlow := HTb.out.low.2 uf huf huf
          have HSet := Lib.hid (show ∀ x : Int, x = max (part1 f (Cy.T p L k) uf ut c m uf m) (c + Cy.T p L k ut m) → TabAt (v.setCell ⟨r uf, m, none⟩ (.int .i64 x)) w.heap.size g n r (part1 f (Cy.T p L k) uf ut c (m + 1)) from fun x hx =>
            (HTb.out.set huf (j := m) x).congr (fun i j hi hj => by
              unfold part1 at hx ⊢
              by_cases e : i = uf ∧ j = m
              · obtain ⟨rfl, rfl⟩ := e
                rw [if_pos ⟨rfl, rfl⟩, if_pos ⟨rfl, by omega⟩, hx, if_neg (by omega)]
              · rw [if_neg e]
                by_cases e2 : i = uf ∧ j < m
                · rw [if_pos e2, if_pos (by omega)]
                · rw [if_neg e2, if_neg (by omega)]))
          have HRn := Lib.hid (HTb.out.ne huf huf)
          clear hd
          generalize hF : part1 f (Cy.T p L k) uf ut c m uf m = F at *
          generalize hV : Cy.T p L k ut m = V at *
          clear hF hV
          have w0 : IntKind.i64.wrap (c + V) = c + V := IntWalk.i64_in _ (by omega)
          go_upto_region 8 with (fail)
          go_still_tail 19, (by kernel_rfl)
          go_wp2_with fail
          have hgr := grown_set (w := v) (r uf) m (.int .i64 (max F (c + V)))
          have hrow := HTb.out.row uf huf huf
          have hnb : some b ≠ some (r uf) := fun e => by
            injection e with e
            obtain ⟨es, clock, since, seen, c0, hb, -⟩ := HR.out
            unfold IntRow at hrow; rw [← e, hb] at hrow; cases hrow
          have hnr : some w1.heap.size ≠ some (r uf) := fun e => by
            injection e with e
            obtain ⟨o, ho, hw⟩ := HR.out.iter_walk
            unfold IntRow at hrow; rw [← e, ho] at hrow; injection hrow with hrow; subst hrow; cases hw
          have HRn2 := Lib.hid (show ((v.setCell ⟨r uf, m, none⟩ (.int .i64 (max F (c + V)))).drew).ranges Try.prog 99 (plainElem Try.prog 3) b w1.heap.size nm D (fun z => left z && !z.sameKey (keyE (uf : Int) (ut : Int))) cnt2 from by have h5 := HR.out.kept hgr hnb hnr; exact h5)
          have HTn := Lib.hid (show TabAt (v.setCell ⟨r uf, m, none⟩ (.int .i64 (max F (c + V)))).drew w.heap.size g n r (part1 f (Cy.T p L k) uf ut c (m + 1)) from by have h5 := HSet.out _ rfl; exact ⟨h5.tab, h5.row, h5.low, h5.inj⟩)
          have HEn := Lib.hid (show (v.setCell ⟨r uf, m, none⟩ (.int .i64 (max F (c + V)))).drew.heap[w2.heap.size]? = some (.cells #[.int .i64 (uf : Int), .int .i64 (ut : Int)] 99) from
            (hgr.block _ (lt_of_block HE.out) (fun e => by
              injection e with e
              have := HE.out; unfold IntRow at hrow; rw [e, hrow] at this; injection this with this; injection this with _ this; exact absurd this (by decide))).trans HE.out)
          have HBn := Lib.hid (show Below w.heap.size w (v.setCell ⟨r uf, m, none⟩ (.int .i64 (max F (c + V)))).drew from (HB.out.setCell hlow (.int .i64 (max F (c + V))) (p := ⟨r uf, m, none⟩)).drew)
          clear hgr hrow hnb hnr HSet
          go_roundw
          case rel => exact ⟨m + 1, hlt, by go_num, HRn2, HTn, HEn, HBn⟩
          case measure => simp [intOf]; omega
        · obtain rfl : m = n := by omega
          have m1 : ¬ (m : Int) < (m : Int) := by omega
          go_wp2_with fail
          go_roundw
          case rel => exact ⟨_, cnt2, _, HR, HTb, HP2, HB⟩
          case measure => rw [HR.out.left_eq, HLe.out]; omega
end Go.Proofs.Ytiolmcnngpaapaa

