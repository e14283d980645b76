/-
  Contracts of slices.DeleteFunc (at bookings of an owner) and Free.
-/
import Derived.Test.YtngpkipblcihaaaDel
namespace Go.Proofs.Ytngpkipblcihaaa
open Go.RowKit Go.Shelf

/-- What DeleteFunc leaves. -/
def DelPost (B : Nat) (v : Value) (l : List Kal.Bk) (o : Int) (w : World) (e : Ending) (w' : World) : Prop :=
  ∃ v', e = .returned v' ∧ BkOwn w' B v' (l.filter (fun b => !ofO o b)) ∧ Ch (fun i => v.ownBlock = some i) w w' ∧ ∀ i, v'.ownBlock = some i → v.ownBlock = some i
theorem DelPost.same {B : Nat} {v : Value} {l : List Kal.Bk} {o : Int} {w w' : World} (h : BkOwn w B v l) (hi : idxO l o = none) (hb : Below w.heap.size w w') : DelPost B v l o w (.returned v) w' := by
  have e : l.filter (fun b => !ofO o b) = l := List.filter_eq_self.2 (fun x hx => by have := List.findIdx?_eq_none_iff.1 hi x hx; simp [this])
  exact ⟨v, rfl, by rw [e]; exact own_below h hb, Ch.ofBelow hb, fun _ h => h⟩
theorem zero_booking : ∀ w : World, (zeroValue 57).run Try.prog w = .ok (.agg #[.int .i64 0, .int .i64 0, .int .i64 0, .int .i64 0]) w := fun w => by kernel_rfl
theorem zero_one (n : Nat) : ∀ u ∈ (Builtin.zeroCells (Value.agg #[.int .i64 0, .int .i64 0, .int .i64 0, .int .i64 0]).cells n).toList, u.oneCell' = true := by
  intro u hu
  simp [Builtin.zeroCells, Value.cells] at hu
  obtain ⟨a, _, rfl⟩ := hu
  rcases (show a % 4 = 0 ∨ a % 4 = 1 ∨ a % 4 = 2 ∨ a % 4 = 3 by omega) with h | h | h | h <;> rw [h] <;> rfl
set_option maxRecDepth 100000 in
set_option maxHeartbeats 2000000 in
theorem deleteFunc_some (g cap : Nat) (l : List Kal.Bk) (o : Int) (O B i0 : Nat) (w : World) (h : BkOwn w B (.slice (some ⟨g, 0, none⟩) l.length cap) l) (ho : w.cell? ⟨O, 0, none⟩ = some (.int .i64 o)) (hO : O ≠ g) (hl : l.length ≤ 1000000) (hi : idxO l o = some i0) :
    Calls Try.prog 37 #[.slice (some ⟨g, 0, none⟩) l.length cap, .func (.func 38) #[] #[.pointer (some ⟨O, 0, none⟩)]] w (DelPost B (.slice (some ⟨g, 0, none⟩) l.length cap) l o w) := by
  have eg : ∀ args w, (callFunc 38 args).run Try.prog w = .ok (.enter 38 args) w := enters_of Try.func38 (by kernel_rfl) rfl
  have hcap : l.length ≤ cap ∧ cap ≤ maxLen := by
    obtain ⟨a, m, e, h1, h2, _⟩ := own_slice h
    injection e with _ _ e; subst e; exact ⟨h1, h2⟩
  obtain ⟨hc1, hc2⟩ := hcap
  unfold maxLen at hc2
  obtain ⟨a, m, e, ha⟩ := h.form
  injection e with e1 _ e2; subst e1; subst e2
  have HI := indexFunc_any l (some ⟨g, 0, none⟩) cap o O w ha ho hl
  rw [hi] at HI
  have HI := Lib.hid HI
  have HD := Lib.hid (DelSt.start hi)
  have hlt0 : i0 < l.length := (DelSt.start hi).len.2
  have H := Lib.hid h; have HOc := Lib.hid ho
  have HOlt := Lib.hid (World.block_lt_of_cell? w _ ho)
  clear h ho hi ha
  unfold placeZ at HI
  have hne : ((i0 : Int) == -1) = false := by rw [beq_eq_false_iff_ne]; omega
  go_enter Try.func37, Try.ntmps37
  go_wp2_with fail
  refine HI.out.mono ?_; rintro e w1 ⟨rfl, g1⟩
  have C1 := Lib.hid (Ch.ofBelow (S := fun k => k = g) g1)
  have O1 := Lib.hid (own_below H.out g1)
  clear g1
  go_wp2_with fail
  go_loopw [5, 6] (fun iv jv wr => ∃ (i j : Nat) (R : List Kal.Bk), iv = .int .i64 (i : Int) ∧ jv = .int .i64 (j : Int) ∧ Hid (DelSt l o j R i) ∧ Hid (wr.ownsRow B 57 4 (.slice (some ⟨g, 0, none⟩) l.length cap) l.length (bkRow R)) ∧ Hid (Ch (fun k => k = g) w wr)) (fun _ jv _ => l.length - (intOf jv).toNat)
  case atStart => exact ⟨i0, i0 + 1, l, rfl, by go_num, HD, O1, C1⟩
  case round =>
    obtain ⟨i, j, R, rfl, rfl, HS, HR, HC⟩ := hrel
    have hlen := HS.out.len
    obtain ⟨hRl, hil⟩ := hlen
    by_cases hj : j < l.length
    · have HX := Lib.hid (HS.out.at hj)
      have hown : BkOwn wr B (.slice (some ⟨g, 0, none⟩) R.length cap) R := by unfold BkOwn; rw [hRl]; exact HR.out
      obtain ⟨a', m', e', ha⟩ := hown.form
      injection e' with e1 _ e2; subst e1; subst e2
      obtain ⟨b', off, e3, hb, hcs⟩ := ha.at (by omega)
      injection e3 with e3; injection e3 with e3 e4; subst e3; subst e4
      obtain ⟨x0, x1, x2, x3⟩ := hcs j (by omega)
      have hRj : R[j]'(by omega) = l[j] := by have := HX.out; rw [List.getElem?_eq_getElem (by omega)] at this; exact Option.some.inj this
      rw [hRj] at x0 x1 x2 x3
      simp only [Nat.zero_add] at x0 x1 x2 x3
      have HG := Lib.hid (fun h => HS.out.gone hj h); have HT := Lib.hid (fun h => HS.out.stays hj h)
      have HOwn := Lib.hid hown; have HRl := Lib.hid hRl
      have i0' : (0 : Int) ≤ (i : Int) := by omega
      have i1 : (i : Int) < (l.length : Int) := by omega
      have j0 : (0 : Int) ≤ (j : Int) := by omega
      have j1 : (j : Int) < (l.length : Int) := by omega
      clear hcs hRj hown hRl ha
      generalize l[j] = x at *
      have HF := Lib.hid (show ∀ v : World, Below wr.heap.size wr v → Calls Try.prog 38 #[bkV x, .pointer (some ⟨O, 0, none⟩)] v fun e w' => e = .returned (.bool (ofO o x)) ∧ Below v.heap.size v w' from fun v hv => by
        have hk := HC.out.block O HOlt.out hO
        exact Free1_any x o O v (cell_below hv ((World.cell?_of_block (a := ⟨O, 0, none⟩) hk).trans HOc.out)))
      obtain ⟨V, hV⟩ : ∃ V, ofO o x = V := ⟨_, rfl⟩
      rw [hV] at HF HG HT
      clear hV
      go_wp2_with fail
      refine (HF.out _ (below_new _ _)).mono ?_; rintro e w2 ⟨rfl, g2⟩
      have G2 := Lib.hid (below_step (below_new wr _) g2)
      have hbx := Lib.hid ((g2.block wr.heap.size (by simp)).trans (heap_alloc_new wr _))
      clear g2
      cases V with
      | true =>
        have HS2 := Lib.hid (HG.out rfl)
        have HR2 := Lib.hid (own_below HR.out G2.out)
        have HC2 := Lib.hid (HC.out.trans (Ch.ofBelow (S := fun k => k = g) G2.out) (fun _ _ h => h))
        go_wp2_with fail
        go_roundw
        case rel => exact ⟨i, j + 1, R, rfl, by go_num, HS2, HR2, HC2⟩
        case measure => simp [intOf]; omega
      | false =>
        have HS2 := Lib.hid (HT.out rfl)
        have hown2 : BkOwn w2 B (.slice (some ⟨g, 0, none⟩) R.length cap) R := own_below HOwn.out G2.out
        have hput := own_put hown2 i (by rw [HRl.out]; exact hil) x
        obtain ⟨a', m', e', ha⟩ := hown2.form
        injection e' with e1 _ e2; subst e1; subst e2
        obtain ⟨b', off, e3, hb2, hcs⟩ := ha.at (by have := HRl.out; omega)
        injection e3 with e3; injection e3 with e3 e4; subst e3; subst e4
        obtain ⟨y0, y1, y2, y3⟩ := hcs i (by have := HRl.out; omega)
        simp only [Nat.zero_add] at y0 y1 y2 y3
        obtain ⟨cs, hgb⟩ := own_block hown2 (k := g) rfl
        have z := fun k => box_fz hgb k
        unfold BkOwn at hput
        rw [List.length_set, HRl.out] at hput
        have HPut := Lib.hid hput
        have HC2 := Lib.hid (HC.out.trans (Ch.ofBelow (S := fun k => k = g) G2.out) (fun _ _ h => h))
        have q0 := box_cell hbx.out 0 _ rfl; have q1 := box_cell hbx.out 1 _ rfl; have q2 := box_cell hbx.out 2 _ rfl; have q3 := box_cell hbx.out 3 _ rfl
        clear hcs hgb hown2 hput ha x0 x1 x2 x3
        generalize (R[i]'(by have := HRl.out; omega)) = y at *
        go_wp2_with fail
        go_roundw
        case rel =>
          have s1 := fun (w : World) k u => Ch.grown (S := fun k => k = g) (grown_set (w := w) g k u) (fun k hk => by injection hk with hk; exact hk.symm)
          exact ⟨i + 1, j + 1, R.set i x, by go_num, by go_num, HS2, HPut, Lib.hid ((((HC2.out.trans (s1 _ _ _) (fun _ _ h => h)).trans (s1 _ _ _) (fun _ _ h => h)).trans (s1 _ _ _) (fun _ _ h => h)).trans (s1 _ _ _) (fun _ _ h => h))⟩
        case measure => simp [intOf]; omega
    · have hfin := HS.out.fin hj
      have hi1 : (i : Int) ≤ (l.length : Int) := by omega
      have i0' : (0 : Int) ≤ (i : Int) := by omega
      have hic : ¬ cap = i := by omega
      have hj' : ¬ (j : Int) < (l.length : Int) := by omega
      obtain ⟨e1, h0 | ⟨g', cap', cur, e, h2, h3, h4, h5, h6, h7⟩⟩ := HR.out
      · omega
      injection e with e _ e2; injection e with e; injection e with e; subst e; subst e2
      obtain ⟨W2, hcl, hgw, cur', hc', hs', ht'⟩ := run_clear_rows (P := Try.prog) wr 59 0 57 g (i * 4) (l.length - i) (cap - i) cur 57 _ Try.underlying59 zero_booking h3 (by omega) (by show i * 4 + (l.length - i) * 4 ≤ _; rw [h6]; omega)
        (zero_one _)
      have HC' := Lib.hid hc'; have HS' := Lib.hid hs'; have HT' := Lib.hid ht'; have HGW := Lib.hid hgw
      have H6 := Lib.hid h6; have H7 := Lib.hid h7; have HFin := Lib.hid hfin
      clear hc' hs' ht' hgw h6 h7 hfin e1 h3
      go_wp2_with fail
      go_ret
      refine ⟨_, rfl, ?_, ?_, fun _ h => h⟩
      · unfold BkOwn
        rw [HFin.out.2]
        refine ⟨by rw [bkRow_length, HFin.out.2], .inr ⟨g, cap, cur', rfl, h2, HC'.out, by omega, h5, by rw [HS'.out, H6.out], ?_⟩⟩
        rw [HT'.out, ← HFin.out.1, ← bkRow_take, ← H7.out, List.take_take]
        congr 1; omega
      · exact (HC.out.trans (Ch.grown (S := fun k => k = g) HGW.out (fun k hk => by injection hk with hk; exact hk.symm)) (fun _ _ h => h)).mono (fun k hk => by rw [hk]; rfl)
set_option maxRecDepth 100000 in
theorem deleteFunc_none (v : Value) (l : List Kal.Bk) (o : Int) (O B : Nat) (w : World) (h : BkOwn w B v l) (ho : w.cell? ⟨O, 0, none⟩ = some (.int .i64 o)) (hl : l.length ≤ 1000000) (hi : idxO l o = none) :
    Calls Try.prog 37 #[v, .func (.func 38) #[] #[.pointer (some ⟨O, 0, none⟩)]] w (DelPost B v l o w) := by
  obtain ⟨a, m, e, ha⟩ := h.form
  subst e
  have HI := indexFunc_any l a m o O w ha ho hl
  rw [hi] at HI
  have HI := Lib.hid HI
  unfold placeZ at HI
  have H := Lib.hid h; have Hi := Lib.hid hi
  clear h ho hi ha
  go_enter Try.func37, Try.ntmps37
  go_wp2_with fail
  refine HI.out.mono ?_; rintro e w1 ⟨rfl, g1⟩
  go_wp2_with fail
  go_ret
  exact DelPost.same H.out Hi.out g1
theorem deleteFunc_any (v : Value) (l : List Kal.Bk) (o : Int) (O B : Nat) (w : World) (h : BkOwn w B v l) (ho : w.cell? ⟨O, 0, none⟩ = some (.int .i64 o)) (hO : v.ownBlock ≠ some O) (hl : l.length ≤ 1000000) :
    Calls Try.prog 37 #[v, .func (.func 38) #[] #[.pointer (some ⟨O, 0, none⟩)]] w (DelPost B v l o w) := by
  cases hi : idxO l o with
  | none => exact deleteFunc_none v l o O B w h ho hl hi
  | some i =>
    rcases h.2 with ⟨rfl, h0⟩ | ⟨g, cap, cur, rfl, _⟩
    · have := (DelSt.start hi).len.2; omega
    · exact deleteFunc_some g cap l o O B i w h ho (fun e => hO (by rw [e]; rfl)) hl hi

/-- The first k lists without an owner's bookings. -/
def dropTo (K : Kal.Kal) (o : Int) (k : Nat) : Kal.Kal := fun j => if j < k then (K j).filter (fun b => !ofO o b) else K j
theorem dropTo_ok {K : Kal.Kal} (h : Kal.Ok K) (o : Int) (k : Nat) : Kal.Ok (dropTo K o k) := by
  refine ⟨fun i hi => ?_, fun i hi b hb => ?_⟩
  · unfold dropTo; split
    · exact (h.srt i hi).filter _
    · exact h.srt i hi
  · unfold dropTo at hb; split at hb
    · exact h.mem i hi b (List.mem_filter.1 hb).1
    · exact h.mem i hi b hb
/-- How many bookings an owner has. -/
def countO (K : Kal.Kal) (o : Int) : Int := (Kal.all K).length - (Kal.all (Kal.drop K o)).length
theorem Moved.congr {B : Nat} {c c' : CalP} {K K' : Kal.Kal} {w w' : World} (h : Moved B c c' K w w') (e : ∀ i, i < 60 → K' i = K i) : Moved B c c' K' w w' := ⟨h.at_.congr e, h.same, h.ch, h.owns⟩
theorem Free_nil (o : Int) (w : World) : Calls Try.prog 20 #[.pointer none, .int .i64 o] w fun e w' => e = .returned (.int .i64 0) ∧ Below w.heap.size w w' := by
  go_enter Try.func20, Try.ntmps20
  go_wp2_with fail
  refine (isNil_nil _).mono ?_; rintro _ w1 ⟨rfl, rfl⟩
  go_wp2_with fail
  go_ret
  exact ⟨rfl, below_new _ _⟩
/-- What Free leaves. -/
def FreePost (B : Nat) (c : CalP) (K : Kal.Kal) (o : Int) (w : World) (e : Ending) (w' : World) : Prop := ∃ c', e = .returned (.int .i64 (countO K o)) ∧ Moved B c c' (Kal.drop K o) w w'
set_option maxRecDepth 100000 in
set_option maxHeartbeats 2000000 in
theorem Free_any {B : Nat} {c : CalP} {K : Kal.Kal} {w : World} (o : Int) (h : CalAt B c K w) : Calls Try.prog 20 #[c.ptr, .int .i64 o] w (FreePost B c K o w) := by
  have hb0 := below_new w (.cells #[.int .i64 o] 3)
  have H1 := Lib.hid (h.below hb0)
  have HN := Lib.hid (isNil_no H1.out)
  have HL := Lib.hid (Len_any H1.out)
  have hc := H1.out.cells.1
  have HO := Lib.hid (box_cell (heap_alloc_new w (.cells #[.int .i64 o] 3)) 0 (.int .i64 o) rfl)
  have HOwn := Lib.hid (show ∀ k, c.owns k → k < w.heap.size from fun k hk => (h.lt k hk).2)
  have HM0 := Lib.hid (Moved.refl h hb0)
  have hlen := Kal.upTo_len h.ok 60 (by omega)
  have HA : Hid ((Kal.all K).length = (Kal.upTo K 60).length) := Lib.hid rfl
  clear h hb0
  go_enter Try.func20, Try.ntmps20
  go_wp2_with fail
  refine HN.out.mono ?_; rintro _ w1 ⟨rfl, rfl⟩
  go_wp2_with fail
  refine HL.out.mono ?_; rintro _ w1 ⟨rfl, rfl⟩
  go_wp2_with fail
  generalize hw1 : w.alloc (.cells #[.int .i64 o] 3) = w1 at *
  have hs1 : w1.heap.size = w.heap.size + 1 := by rw [← hw1]; simp
  have HS1 := Lib.hid hs1
  clear hw1 hs1
  go_loopw [17] (fun i wr => ∃ (k : Nat) (d : CalP), k ≤ 60 ∧ i = .int .i64 (k : Int) ∧ Hid (Moved B c d (dropTo K o k) w1 wr)) (fun i _ => 60 - (intOf i).toNat)
  case atStart => exact ⟨0, c, by omega, rfl, Lib.hid ((Moved.refl H1.out (Below.refl _ _)).congr (fun i _ => by simp [dropTo]))⟩
  case round =>
    obtain ⟨k, d, hk, rfl, HM⟩ := hrel
    by_cases hlt : k < 60
    · have d60 : decide ((k : Int) < 60) = true := decide_eq_true (by omega)
      have k0 : (0 : Int) ≤ (k : Int) := by omega
      have k1 : (k : Int) < 60 := by omega
      obtain ⟨a, m, e1, hr⟩ := HM.out.at_.row hlt
      have eK : dropTo K o k k = K k := by simp [dropTo]
      rw [eK] at e1
      have dC := HM.out.same.1; have dT := HM.out.same.2
      have hc := HM.out.at_.cells.1
      rw [dC, dT] at hc
      have hv := (HM.out.at_.cells.2 k hlt).1
      rw [e1, dT] at hv
      have HE := Lib.hid e1; have HEK := Lib.hid eK
      have hle : (K k).length ≤ 1000000 := by have := HM.out.at_.ok.len hlt; rwa [eK] at this
      have HOr := Lib.hid (show wr.cell? ⟨w.heap.size, 0, none⟩ = some (.int .i64 o) from
        (World.cell?_of_block (a := ⟨w.heap.size, 0, none⟩) (HM.out.ch.block w.heap.size (by have := HS1.out; omega) (fun e => by have := HOwn.out _ e; omega))).trans HO.out)
      have HNO := Lib.hid (show (d.V k).ownBlock ≠ some w.heap.size from fun e => by
        rcases HM.out.owns _ (.inr (.inr ⟨k, hlt, e⟩)) with h | h
        · have := HOwn.out _ h; omega
        · have := HS1.out; omega)
      have HC := Lib.hid (show ∀ v : World, v.heap = wr.heap → Calls Try.prog 37 #[.slice a (K k).length m, .func (.func 38) #[] #[.pointer (some ⟨w.heap.size, 0, none⟩)]] v (DelPost B (d.V k) (K k) o v) from fun v hv => by
        have h1 := (HM.out.at_.rows k hlt).of_heap hv
        rw [HEK.out] at h1
        have := deleteFunc_any (d.V k) (K k) o w.heap.size B v h1 (by unfold World.cell?; rw [hv]; exact HOr.out) HNO.out hle
        rw [HE.out] at this ⊢
        exact this)
      have HS0 := Lib.hid (show ∀ v v1 : World, v.heap = wr.heap → Ch (fun j => (d.V k).ownBlock = some j) v v1 → v1.cell? ⟨c.C, 0, none⟩ = some (.pointer (some ⟨c.T, 0, none⟩)) ∧ v1.cell? ⟨c.T, k, none⟩ = some (d.V k) ∧ v1.frozen? ⟨c.T, k, none⟩ = false from fun v v1 hv hc => by
        have h1 := HM.out.at_.of_heap hv
        have h2 := (hc.block d.C (lt_of_block h1.box) (fun e => (h1.row_ne hlt e).1 rfl)).trans h1.box
        have h3 := (hc.block d.T (lt_of_block h1.tab) (fun e => (h1.row_ne hlt e).2 rfl)).trans h1.tab
        have h4 := HM.out.same
        rw [h4.1, h4.2] at h2; rw [h4.2] at h3
        exact ⟨box_cell h2 0 _ rfl, box_cell h3 k _ (tabCells_at _ _ hlt), box_fz h3 k⟩)
      have HSS := Lib.hid (show ∀ (v1 : World) (x : Value), v1.cell? ⟨c.C, 0, none⟩ = some (.pointer (some ⟨c.T, 0, none⟩)) → (v1.setCell ⟨c.T, k, none⟩ x).cell? ⟨c.C, 0, none⟩ = some (.pointer (some ⟨c.T, 0, none⟩)) from fun v1 x hv =>
        (World.cell?_of_block (a := ⟨c.C, 0, none⟩) (Below.heap_setCell _ _ _ _ H1.out.ne)).trans hv)
      clear e1 eK hr dC dT
      go_wp2_with fail
      go_quiet (fail)
      go_wp2_with fail
      go_region_held3 (fun v => v.cell? ⟨c.C, 0, none⟩ = some (.pointer (some ⟨c.T, 0, none⟩)))
        (first | exact (HSS.out _ _ (HS0.out _ _ (by rfl) c3).1) | exact (HS0.out _ _ (by rfl) c3).1 | exact (HS0.out _ _ (by rfl) (Ch.refl _ _)).1)
        (first | (go_at_call 37; refine (HC.out _ (by rfl)).mono ?_; rintro e v1 ⟨v', rfl, o3, c3, w3⟩; obtain ⟨a5, m5, rfl, -⟩ := o3.form; have hT := (HS0.out _ _ (by rfl) c3).2; obtain ⟨hT1, hT2⟩ := hT))
      have hM := HM.out.trans (HM.out.at_.store (K' := dropTo K o (k + 1)) (x := .slice a5 ((K k).filter (fun b => !ofO o b)).length m5) (w2 := v1) hlt
        (fun j _ hj => by unfold dropTo; by_cases h : j < k; (rw [if_pos h, if_pos (by omega)]); (rw [if_neg h, if_neg (by omega)])) (dropTo_ok H1.out.ok o (k + 1))
        (by rw [show dropTo K o (k + 1) k = (K k).filter (fun b => !ofO o b) by simp [dropTo]]; exact o3) (show Ch _ wr v1 from ⟨c3.os, c3.tape, c3.output, c3.size, c3.block⟩) (fun i e => .inl (w3 i e)))
      rw [HM.out.same.2] at hM
      have HM2 := Lib.hid hM
      clear hM hT1 hT2 o3 c3 w3
      go_wp2_with fail
      go_roundw
      case rel => exact ⟨k + 1, _, hlt, by go_num, HM2⟩
      case measure => simp [intOf]; omega
    · obtain rfl : k = 60 := by omega
      have hM := HM.out.congr (K' := Kal.drop K o) (fun i hi => by unfold dropTo; rw [if_pos hi]; rfl)
      have HM2 := Lib.hid hM
      have hL := Len_any hM.at_
      unfold CalP.ptr at hL
      rw [hM.same.1] at hL
      have HL2 := Lib.hid hL
      have hl2 := Kal.upTo_len hM.at_.ok 60 (by omega)
      have HR := Lib.hid (show countO K o = ((Kal.all K).length : Int) - ((Kal.all (Kal.drop K o)).length : Int) from rfl)
      have hA1 : (Kal.all K).length ≤ 60000000 := by rw [HA.out]; omega
      have hA2 : (Kal.all (Kal.drop K o)).length ≤ 60000000 := hl2
      clear hM hL hl2
      generalize (Kal.all K).length = x at *
      generalize (Kal.all (Kal.drop K o)).length = y at *
      go_wp2_with fail
      refine HL2.out.mono ?_; rintro e w2 ⟨rfl, rfl⟩
      go_wp2_with fail
      go_ret
      exact ⟨d, ret_int HR.out.symm, (HM0.out.congr (K' := K) (fun _ _ => rfl)).trans HM2.out⟩
end Go.Proofs.Ytngpkipblcihaaa

