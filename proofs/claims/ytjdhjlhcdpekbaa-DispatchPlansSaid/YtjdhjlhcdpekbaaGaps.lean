/-
  The iterator of the gaps: for every loop body that keeps the cells that it met.
-/
import Derived.Test.YtjdhjlhcdpekbaaFree
import Derived.RangeFuncNested
import Derived.RangeFuncBound
import Derived.RangeFuncCalls
import Derived.RangeFuncLeaves
import Derived.RangeFuncBox
import Derived.Shelf.RegionOpen
import Derived.OwnWalkIn
import Derived.TacticsInMore
import Derived.LoopNIn
import Derived.LoopIn
namespace Go.Proofs.Ytjdhjlhcdpekbaa
open Go.RowKit Go.Shelf
attribute [local go_sem] Oper.semAt_some

/-- Every block of cells is kept. -/
structure KC (W W' : World) : Prop where
  size : W.heap.size ≤ W'.heap.size
  cells : ∀ (k : Nat) (o : Obj), W.heap[k]? = some o → o.isCells = true → W'.heap[k]? = some o
theorem KC.refl (W : World) : KC W W := ⟨Nat.le_refl _, fun _ _ h _ => h⟩
theorem KC.trans {A B C : World} (h : KC A B) (k : KC B C) : KC A C := ⟨Nat.le_trans h.size k.size, fun i o hi ho => k.cells i o (h.cells i o hi ho) ho⟩
theorem KC.ofBelow {W W' : World} (h : Below W.heap.size W W') : KC W W' := ⟨h.size, fun k _ hk _ => (h.block k (lt_of_block hk)).trans hk⟩
theorem cell_obj {W : World} {p : Addr} {v : Value} (h : W.cell? p = some v) : ∃ o : Obj, W.heap[p.block]? = some o ∧ o.isCells = true := by
  unfold World.cell? at h
  cases ho : W.heap[p.block]? with
  | none => rw [ho] at h; cases h
  | some o =>
    rw [ho] at h
    cases o with
    | cells cs t fr => exact ⟨_, rfl, rfl⟩
    | _ => simp at h
theorem KC.cell {W W' : World} (h : KC W W') {p : Addr} {v : Value} (hc : W.cell? p = some v) : W'.cell? p = some v := by
  obtain ⟨o, h1, h2⟩ := cell_obj hc
  exact (World.cell?_of_block ((h.cells _ o h1 h2).trans h1.symm)).trans hc
theorem BkA.kc {W W' : World} {a : Option Addr} {c : Nat} {l : List Kal.Bk} (h : BkA W a c l) (hk : KC W W') : BkA W' a c l := by
  refine ⟨h.1, h.2.1, fun i hi => ?_⟩
  obtain ⟨b, off, rfl, h1, h2, h3, h4, h5⟩ := h.2.2 i hi
  exact ⟨b, off, rfl, Nat.lt_of_lt_of_le h1 hk.size, hk.cell h2, hk.cell h3, hk.cell h4, hk.cell h5⟩
theorem gapsF_len : ∀ (l : List Kal.Bk) (t : Int), (Kal.gapsF t l).length ≤ l.length + 1
  | [], t => by unfold Kal.gapsF; split <;> simp
  | b :: l, t => by
    have := gapsF_len l b.e
    unfold Kal.gapsF
    rw [List.length_append]
    split <;> simp <;> omega
theorem grown_of_below {W W' : World} (h : Below W.heap.size W W') : W.grownBy W' none := ⟨h.os, h.tape, h.output, h.size, fun k hk _ => h.block k hk⟩
/-- What the iterator has given at the k-th booking. -/
def GapSt (D : List Kal.Bk) (t : Int) (k : Nat) (start : Int) (pre : List (Int × Int)) : Prop := k ≤ D.length ∧ pre ++ Kal.gapsF start (D.drop k) = Kal.gapsF t D
theorem GapSt.start (D : List Kal.Bk) (t : Int) : GapSt D t 0 t [] := ⟨Nat.zero_le _, by simp⟩
theorem GapSt.next {D : List Kal.Bk} {t s : Int} {k : Nat} {pre : List (Int × Int)} (h : GapSt D t k s pre) (hk : k < D.length) :
    (s < D[k].s → GapSt D t (k + 1) D[k].e (pre ++ [(s, D[k].s)]) ∧ pre ++ [(s, D[k].s)] <+: Kal.gapsF t D) ∧ (¬ s < D[k].s → GapSt D t (k + 1) D[k].e pre) := by
  obtain ⟨_, h⟩ := h
  rw [List.drop_eq_getElem_cons hk, Kal.gapsF] at h
  refine ⟨fun hs => ?_, fun hs => ?_⟩
  · rw [if_pos hs, ← List.append_assoc] at h
    exact ⟨⟨hk, h⟩, ⟨_, h⟩⟩
  · rw [if_neg hs, List.nil_append] at h
    exact ⟨hk, h⟩
theorem GapSt.fin {D : List Kal.Bk} {t s : Int} {k : Nat} {pre : List (Int × Int)} (h : GapSt D t k s pre) (hk : ¬ k < D.length) : (s < 1000000 → pre ++ [(s, 1000000)] = Kal.gapsF t D) ∧ (¬ s < 1000000 → pre = Kal.gapsF t D) := by
  obtain ⟨_, h⟩ := h
  rw [List.drop_of_length_le (by omega), Kal.gapsF] at h
  exact ⟨fun hs => by rw [if_pos hs] at h; exact h, fun hs => by rw [if_neg hs] at h; simpa using h⟩
theorem GapSt.len {D : List Kal.Bk} {t s : Int} {k : Nat} {pre : List (Int × Int)} (h : GapSt D t k s pre) : pre.length ≤ D.length + 1 := by
  have := congrArg List.length h.2
  have := gapsF_len D t
  rw [List.length_append] at *; omega

theorem BkA.drop {w : World} {a : Option Addr} {c : Nat} {l : List Kal.Bk} (h : BkA w a c l) (k : Nat) (hk : k ≤ l.length) : BkA w (if c = k then a else Option.map (fun x => x.add (k * 4)) a) (c - k) (l.drop k) := by
  have h1 := h.1; have h2 := h.2.1
  refine ⟨by rw [List.length_drop]; omega, by unfold maxLen at *; omega, fun i hi => ?_⟩
  rw [List.length_drop] at hi
  obtain ⟨b, off, rfl, h3, h4, h5, h6, h7⟩ := h.2.2 (k + i) (by omega)
  refine ⟨b, off + k * 4, ?_, h3, ?_⟩
  · rw [if_neg (by omega)]
    have : (⟨b, off, none⟩ : Addr).add (k * 4) = ⟨b, off + k * 4, none⟩ := by unfold Addr.add; split <;> simp_all
    simp only [Option.map_some, this]
  · rw [List.getElem_drop, show off + k * 4 + i * 4 = off + (k + i) * 4 by omega]
    exact ⟨h4, h5, h6, h7⟩
/-- A gap, within the bounds of times. -/
abbrev Gp : Type := { x : Int × Int // 0 ≤ x.1 ∧ x.1 < x.2 ∧ x.2 ≤ 1000000 }
/-- What a round may do. -/
def Rnd (n l N : Nat) (J Jx : List Gp → World → Prop) : Prop := ∀ pre (x : Gp) W1, J pre W1 → pre.length < N → YieldAt Fence.wide (n - 1) Try.prog l #[.int .i64 x.1.1, .int .i64 x.1.2] W1 fun e W' =>
      (e = .returned (.bool true) ∧ J (pre ++ [x]) W' ∧ KC W1 W') ∨ (e = .returned (.bool false) ∧ Jx (pre ++ [x]) W')
/-- What the iterator leaves. -/
def GapPost (J Jx : List Gp → World → Prop) (G : List (Int × Int)) (e : Ending) (W' : World) : Prop := (∃ v, e = .returned v) ∧ ((∃ ys, ys.map (·.1) = G ∧ J ys W') ∨ (∃ pre, pre.map (·.1) <+: G ∧ Jx pre W'))
set_option maxRecDepth 100000 in
set_option maxHeartbeats 2000000 in
theorem gaps1_in (n : Nat) (hn : 1 ≤ n) (l Bi Bs : Nat) (L : List Kal.Bk) (a : Option Addr) (cap : Nat) (t : Int) (W : World) (J Jx : List Gp → World → Prop) (hJ : AbidesFrom W.heap.size J) (hY : Rnd n l (L.length + 2) J Jx)
    (hBi : W.cell? ⟨Bi, 0, none⟩ = some (.int .i64 t)) (hBs : W.cell? ⟨Bs, 0, none⟩ = some (.slice a L.length cap)) (hA : BkA W a cap L) (hs : Kal.Srt L) (hl : L.length ≤ 1000000) (ht : 0 ≤ t) (hbd : ∀ b ∈ L, 0 ≤ b.s ∧ b.e ≤ 1000000) (h0 : J [] W) :
    CallsIn Fence.wide n Try.prog 88 #[.func (.yield l) #[] #[], .pointer (some ⟨Bi, 0, none⟩), .pointer (some ⟨Bs, 0, none⟩)] W (GapPost J Jx (Kal.gapsF t (L.drop (Kal.fb L t)))) := by
  refine callsIn_wide.2 ?_
  have hk := Kal.fb_le L t
  have HFB := Lib.hid (show ∀ v : World, v.heap = W.heap → Calls Try.prog 60 #[.slice a L.length cap, .int .i64 t] v fun e w' => e = .returned (.int .i64 (Kal.fb L t : Int)) ∧ Below v.heap.size v w' from fun v hv => firstBehind_any L a cap t v (by unfold BkA World.cell? at *; rw [hv]; exact hA) hs hl)
  have HA := Lib.hid hA; have HY := Lib.hid hY; have HJ := Lib.hid hJ; have H0 := Lib.hid h0
  have HBD := Lib.hid (show ∀ b ∈ L.drop (Kal.fb L t), 0 ≤ b.s ∧ b.s < b.e ∧ b.e ≤ 1000000 from fun b hb => ⟨(hbd b (List.mem_of_mem_drop hb)).1, hs.2 b (List.mem_of_mem_drop hb), (hbd b (List.mem_of_mem_drop hb)).2⟩)
  have hcap : L.length ≤ cap ∧ cap ≤ maxLen := ⟨hA.1, hA.2.1⟩
  obtain ⟨hc1, hc2⟩ := hcap
  unfold maxLen at hc2
  have HC := Lib.hid (show ∀ v v1 : World, v.heap = W.heap → Below v.heap.size v v1 → v1.cell? ⟨Bi, 0, none⟩ = some (.int .i64 t) ∧ v1.cell? ⟨Bs, 0, none⟩ = some (.slice a L.length cap) from fun v v1 hv g =>
    ⟨cell_below g (by unfold World.cell? at *; rw [hv]; exact hBi), cell_below g (by unfold World.cell? at *; rw [hv]; exact hBs)⟩)
  obtain ⟨D, hD⟩ : ∃ D, L.drop (Kal.fb L t) = D := ⟨_, rfl⟩
  rw [hD] at HBD ⊢
  have HD := Lib.hid hD
  have hDl : D.length = L.length - Kal.fb L t := by rw [← hD, List.length_drop]
  have HDl := Lib.hid hDl
  clear hA hY hJ h0 hs hD hDl hbd
  generalize Kal.fb L t = k at *
  have k0 : (0 : Int) ≤ (k : Int) := by omega
  have k1 : (k : Int) ≤ (L.length : Int) := by omega
  have k2 : (k : Int) ≤ (cap : Int) := by omega
  go_enter Try.func88, Try.ntmps88
  go_wp2_with fail
  go_region_held3 (fun v => v.cell? ⟨Bi, 0, none⟩ = some (.int .i64 t) ∧ v.cell? ⟨Bs, 0, none⟩ = some (.slice a L.length cap))
    (first | exact HC.out _ _ (by rfl) g3 | exact HC.out _ _ (by rfl) (Below.refl _ _))
    (first | (go_at_call 60; refine (HFB.out _ (by rfl)).mono ?_; rintro e v1 ⟨rfl, g3⟩))
  have HA2 := Lib.hid (show BkA v1 (if cap = k then a else Option.map (fun x => x.add (k * 4)) a) (cap - k) D by
    have := (HA.out.drop k hk)
    rw [HD.out] at this
    exact this.below (show Below W.heap.size W v1 from ⟨g3.os, g3.tape, g3.output, g3.size, g3.block⟩))
  have HG := Lib.hid (show Below W.heap.size W v1 from ⟨g3.os, g3.tape, g3.output, g3.size, g3.block⟩)
  clear g3
  generalize (if cap = k then a else Option.map (fun x => x.add (k * 4)) a) = a2 at *
  generalize cap - k = c2 at *
  rw [← HDl.out]
  have hDl : D.length ≤ 1000000 := by have := HDl.out; omega
  go_wp2_with fail
  refine (wpIn_wide (n := n)).1 ?_
  gi_loopw [4, 14] (fun sv iv wr => ∃ (i : Nat) (s : Int) (pre : List Gp), sv = .int .i64 s ∧ iv = .int .i64 (i : Int) ∧ Hid (GapSt D t i s (pre.map (·.1)) ∧ 0 ≤ s) ∧ Hid (J pre wr) ∧ Hid (KC v1 wr)) (fun _ iv _ => D.length - (intOf iv).toNat)
  case atStart => exact ⟨0, t, [], rfl, rfl, Lib.hid ⟨GapSt.start D t, ht⟩, Lib.hid (HJ.out _ _ _ none H0.out (grown_of_below HG.out) (fun r e => by cases e)), Lib.hid (KC.refl _)⟩
  case round =>
    obtain ⟨i, s, pre, rfl, rfl, HS, HJs, HK⟩ := hrel
    by_cases hi : i < D.length
    · obtain ⟨b0, off, rfl, hb0, hcs⟩ := (HA2.out.kc HK.out).at (by omega)
      obtain ⟨x0, x1, x2, x3⟩ := hcs i hi
      have HN := Lib.hid (HS.out.1.next hi)
      have HBi := Lib.hid (HBD.out D[i] (List.getElem_mem hi))
      have i0 : (0 : Int) ≤ (i : Int) := by omega
      have i1 : (i : Int) < (D.length : Int) := by omega
      clear hcs
      generalize D[i] = x at *
      by_cases hsx : s < x.s
      · have HG1 := Lib.hid (HN.out.1 hsx)
        have HJ1 := Lib.hid (HJ.out _ _ _ none HJs.out (grown_of_below (below_new wr (bkObj x))) (fun r e => by cases e))
        have hgp : 0 ≤ s ∧ s < x.s ∧ x.s ≤ 1000000 := ⟨HS.out.2, hsx, by have := HBi.out; omega⟩
        have HY1 := Lib.hid (HY.out pre ⟨(s, x.s), hgp⟩ (wr.alloc (bkObj x)) HJ1.out (by have := HS.out.1.len; have := HDl.out; rw [List.length_map] at *; omega))
        obtain ⟨fn, tmps, assign, body, hy, hR⟩ := HY1.out
        dsimp only at hy
        have y2 := Lib.hid (box_cell (heap_alloc_new wr (bkObj x)) 2 (.int .i64 x.e) rfl)
        gi_wp2
        refine hR.mono ?_
        rintro e W3 (⟨rfl, hJ3, hk3⟩ | ⟨rfl, hJx3⟩)
        · have z2 := hk3.cell y2.out
          have HJ3 := Lib.hid hJ3
          have HK3 := Lib.hid ((HK.out.trans (KC.ofBelow (below_new wr (bkObj x)))).trans hk3)
          clear hJ3 hk3
          gi_wp2
          go_roundw
          case rel => exact ⟨i + 1, x.e, pre ++ [⟨(s, x.s), hgp⟩], rfl, by go_num, Lib.hid ⟨by rw [List.map_append]; exact HG1.out.1, by have := HBi.out; omega⟩, HJ3, HK3⟩
          case measure => simp [intOf]; omega
        · have HJ3 := Lib.hid hJx3
          clear hJx3
          gi_wp2
          refine bodyPost_ret (results_none rfl _ _ _) rfl ?_
          exact ⟨⟨_, rfl⟩, .inr ⟨_, by rw [List.map_append]; exact HG1.out.2, HJ3.out⟩⟩
      · have HG1 := Lib.hid (HN.out.2 hsx)
        have HJ1 := Lib.hid (HJ.out _ _ _ none HJs.out (grown_of_below (below_new wr (bkObj x))) (fun r e => by cases e))
        have HK3 := Lib.hid (HK.out.trans (KC.ofBelow (below_new wr (bkObj x))))
        gi_wp2
        refine ⟨fun _ h => (by cases h), ?_⟩
        gi_wp2
        go_roundw
        case rel => exact ⟨i + 1, x.e, pre, rfl, by go_num, Lib.hid ⟨HG1.out, by have := HBi.out; omega⟩, HJ1, HK3⟩
        case measure => simp [intOf]; omega
    · have HF := Lib.hid (HS.out.1.fin hi)
      have i1 : ¬ (i : Int) < (D.length : Int) := by omega
      by_cases hsM : s < 1000000
      · have HE := Lib.hid (HF.out.1 hsM)
        have hgp : 0 ≤ s ∧ s < 1000000 ∧ (1000000 : Int) ≤ 1000000 := ⟨HS.out.2, hsM, Int.le_refl _⟩
        have HY1 := Lib.hid (HY.out pre ⟨(s, 1000000), hgp⟩ wr HJs.out (by have := HS.out.1.len; have := HDl.out; rw [List.length_map] at *; omega))
        obtain ⟨fn, tmps, assign, body, hy, hR⟩ := HY1.out
        dsimp only at hy
        gi_wp2
        refine (wpIn_wide (n := n)).1 ?_
        gi_wp2
        refine hR.mono ?_
        rintro e W3 (⟨rfl, hJ3, hk3⟩ | ⟨rfl, hJx3⟩)
        · have HJ3 := Lib.hid hJ3
          clear hJ3 hk3
          gi_wp2
          refine bodyPost_ret (results_none rfl _ _ _) rfl ?_
          exact ⟨⟨_, rfl⟩, .inl ⟨_, by rw [List.map_append]; exact HE.out, HJ3.out⟩⟩
        · have HJ3 := Lib.hid hJx3
          clear hJx3
          gi_wp2
          refine bodyPost_ret (results_none rfl _ _ _) rfl ?_
          exact ⟨⟨_, rfl⟩, .inr ⟨_, by rw [List.map_append]; exact (by rw [← HE.out]; exact List.prefix_refl _), HJ3.out⟩⟩
      · have HE := Lib.hid (HF.out.2 hsM)
        gi_wp2
        go_wp2_with fail
        go_end0
        exact ⟨⟨_, rfl⟩, .inl ⟨_, HE.out, HJs.out⟩⟩
end Go.Proofs.Ytjdhjlhcdpekbaa

