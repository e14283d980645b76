/-
  The contract of First.
-/
import Derived.Test.YtjdhjlhcdpekbaaGaps
namespace Go.Proofs.Ytjdhjlhcdpekbaa
open Go.RowKit Go.Shelf
attribute [local go_sem] Oper.semAt_some

theorem KC.of_grown {A B : World} {row : Option Nat} (hg : A.grownBy B row) (hr : ∀ r, row = some r → ∃ o : Obj, A.heap[r]? = some o ∧ o.isCells = false) : KC A B :=
  ⟨hg.size, fun k o hk hc => (hg.block k (lt_of_block hk) (fun e => by
    obtain ⟨o', h1, h2⟩ := hr k e.symm
    rw [hk] at h1; injection h1 with h1; rw [h1, h2] at hc; cases hc)).trans hk⟩
theorem KC.putObj (W : World) (l : Nat) (o o' : Obj) (h : W.heap[l]? = some o) (hc : o.isCells = false) : KC W (W.putObj l o') :=
  KC.of_grown (grownBy_putObj' W l o') (fun r e => by cases e; exact ⟨o, h, hc⟩)
theorem gaps_any (a : Option Addr) (n c : Nat) (t : Int) (w : World) : Calls Try.prog 70 #[.slice a n c, .int .i64 t] w fun e w' => e = .returned (.func (.func 88) #[] #[.pointer (some ⟨w.heap.size + 1, 0, none⟩), .pointer (some ⟨w.heap.size, 0, none⟩)]) ∧ w' = (w.alloc (.cells #[.slice a n c] 31)).alloc (.cells #[.int .i64 t] 3) := by
  have hmf : ∀ (fn : Fn) (first cap : Array Value) (w : World), (Instr.makeFunc fn first cap).run Try.prog w = .ok (.func fn first cap) w := fun _ _ _ _ => rfl
  go_enter Try.func70, Try.ntmps70
  go_wp2_with fail
  go_ret
  exact ⟨rfl, rfl⟩
/-- The gaps as a sequence. -/
theorem gaps_stops (n : Nat) (hn : 1 ≤ n) (Bi Bs : Nat) (L : List Kal.Bk) (a : Option Addr) (cap : Nat) (t : Int) (w : World) (hBi : w.cell? ⟨Bi, 0, none⟩ = some (.int .i64 t)) (hBs : w.cell? ⟨Bs, 0, none⟩ = some (.slice a L.length cap)) (hA : BkA w a cap L) (hs : Kal.Srt L) (hl : L.length ≤ 1000000) (ht : 0 ≤ t) (hbd : ∀ b ∈ L, 0 ≤ b.s ∧ b.e ≤ 1000000) :
    SeqStopsK Fence.wide n Try.prog 88 #[.pointer (some ⟨Bi, 0, none⟩), .pointer (some ⟨Bs, 0, none⟩)] (fun x : Gp => #[Value.int .i64 x.1.1, .int .i64 x.1.2]) KC (fun ys => ys.map (·.1) = Kal.gapsF t (L.drop (Kal.fb L t))) (fun pre => pre.map (·.1) <+: Kal.gapsF t (L.drop (Kal.fb L t))) (L.length + 2) w :=
  fun l J Jx W hW hJ _ hY h0 => gaps1_in n hn l Bi Bs L a cap t W J Jx hJ hY (cell_below hW hBi) (cell_below hW hBs) (hA.below hW) hs hl ht hbd h0

theorem find_none (L : List (Int × Int)) (n : Int) (h : ∀ x ∈ L, Kal.wide n x = false) : L.find? (Kal.wide n) = none := List.find?_eq_none.2 (fun x hx => by simp [h x hx])
theorem find_some (p : List (Int × Int)) (n : Int) (x : Int × Int) (hp : ∀ y ∈ p, Kal.wide n y = false) (hx : Kal.wide n x = true) (G : List (Int × Int)) (h : p ++ [x] <+: G) : G.find? (Kal.wide n) = some x := by
  obtain ⟨r, rfl⟩ := h
  rw [List.append_assoc, List.find?_append, find_none p n hp, List.singleton_append, List.find?_cons_of_pos hx]
  rfl
/-- The three boxes of First. -/
structure RB3 (w : World) (n x : Int) (b : Bool) (W : World) : Prop where
  len : W.heap[w.heap.size]? = some (.cells #[.int .i64 n] 3)
  num : W.heap[w.heap.size + 1]? = some (.cells #[.int .i64 x] 3)
  yes : W.heap[w.heap.size + 2]? = some (.cells #[.bool b] 4)
theorem RB3.below {w : World} {n x : Int} {b : Bool} {W W' : World} (h : RB3 w n x b W) (hb : Below W.heap.size W W') : RB3 w n x b W' :=
  ⟨(hb.block _ (lt_of_block h.len)).trans h.len, (hb.block _ (lt_of_block h.num)).trans h.num, (hb.block _ (lt_of_block h.yes)).trans h.yes⟩
theorem RB3.kc {w : World} {n x : Int} {b : Bool} {W W' : World} (h : RB3 w n x b W) (hk : KC W W') : RB3 w n x b W' := ⟨hk.cells _ _ h.len rfl, hk.cells _ _ h.num rfl, hk.cells _ _ h.yes rfl⟩
/-- Between two rounds: nothing wide enough has come. -/
def FI (w : World) (n : Int) (pre : List Gp) (W : World) : Prop := RB3 w n 0 false W ∧ Below w.heap.size w W ∧ ∀ x ∈ pre, Kal.wide n x.1 = false
/-- The round has found one. -/
def FX (w : World) (n : Int) (pre : List Gp) (W : World) : Prop := ∃ p x, pre = p ++ [x] ∧ (∀ y ∈ p, Kal.wide n y.1 = false) ∧ Kal.wide n x.1 = true ∧ RB3 w n x.1.1 true W ∧ Below w.heap.size w W
theorem FI_own {w : World} {n : Int} {B : Nat} (hB : w.heap.size ≤ B) : OwnFrom B (FI w n) := fun _ _ _ _ hs hg hr =>
  ⟨hs.1.kc (KC.of_grown hg (fun r e => (hr r e).2)), hs.2.1.grown hg (hs.2.1.size) (fun k e => Nat.le_trans hB (hr k e).1), hs.2.2⟩
theorem FX_own {w : World} {n : Int} {B : Nat} (hB : w.heap.size ≤ B) (c : Code) : OwnFrom B (fun pre W => c = .ret ∧ FX w n pre W) := fun _ _ _ _ hs hg hr => by
  obtain ⟨e0, p, x, e1, h1, h2, h3, h4⟩ := hs
  exact ⟨e0, p, x, e1, h1, h2, h3.kc (KC.of_grown hg (fun r e => (hr r e).2)), h4.grown hg h4.size (fun k e => Nat.le_trans hB (hr k e).1)⟩
/-- What First answers. -/
def firstV (r : Option Int) : Value := .tuple #[.int .i64 (r.getD 0), .bool r.isSome]
def FirstPost (r : Option Int) (w : World) (e : Ending) (w' : World) : Prop := e = .returned (firstV r) ∧ Below w.heap.size w w'
/-- First returns what lies in its two boxes. -/
theorem first_end {w V : World} {n g f : Int} {r : Option Int} {L : List Kal.Bk} {D : Nat} {us : Array Value} (h8 : us[8]? = some (.pointer (some ⟨w.heap.size + 1, 0, none⟩))) (h9 : us[9]? = some (.pointer (some ⟨w.heap.size + 1 + 1, 0, none⟩))) (hg : max f 0 = g) (hr : Kal.first L g n = r) (h : RB3 w n (r.getD 0) r.isSome V) (hb : Below w.heap.size w V) (hD : w.heap.size ≤ D) (hK : V.heap[D]? = some (.deferred (some []))) :
    LeavesInM Fence.wide 6 Try.prog Try.f48 us (FirstPost (Kal.first L (max f 0) n) w) [] FrameMode.returning (V.putObj D (.deferred none)) := by
  have hk := h.kc (KC.putObj V D _ (.deferred none) hK rfl)
  have z1 := box_cell hk.num 0 _ rfl
  have z2 := box_cell hk.yes 0 _ rfl
  refine ⟨firstV r, by simp [results, Try.results48, go_sem, h8, h9, z1, z2, firstV], ?_⟩
  rw [hg, hr]
  exact ⟨rfl, hb.trans (belowK_b (w := w) (Nat.le_refl _) V D _ _ hD hK rfl rfl)⟩
set_option maxRecDepth 100000 in
set_option maxHeartbeats 2000000 in
theorem First_yes {B : Nat} {c : CalP} {K : Kal.Kal} {w : World} (i : Nat) (f n : Int) (h : CalAt B c K w) (hi : i < 60) (hf : Fits f) (hn : 1 ≤ n) (hn2 : n ≤ 9223372036854775807) :
    Calls Try.prog 48 #[c.ptr, .int .i64 (i : Int), .int .i64 f, .int .i64 n] w (FirstPost (Kal.first (K i) (max f 0) n) w) := by
  obtain ⟨f1, f2⟩ := hf
  obtain ⟨W3, hW3⟩ : ∃ V, ((w.alloc (.cells #[.int .i64 n] 3)).alloc (.cells #[.int .i64 0] 3)).alloc (.cells #[.bool false] 4) = V := ⟨_, rfl⟩
  have hb3 : Below w.heap.size w W3 := by rw [← hW3]; exact (((Below.refl _ w).alloc (Nat.le_refl _) _).alloc (by simp) _).alloc (by simp; omega) _
  have H3 := Lib.hid (h.below hb3)
  have HN := Lib.hid (isNil_no H3.out)
  have HT := isTool_any (i : Int) W3
  rw [show Kal.isTool (i : Int) = true by unfold Kal.isTool; simp; omega] at HT
  have HT := Lib.hid HT
  have hc := H3.out.cells.1
  obtain ⟨a, m, e1, hr⟩ := H3.out.row hi
  have hv := (H3.out.cells.2 i hi).1
  rw [e1] at hv
  have HR := Lib.hid hr
  have i0 : (0 : Int) ≤ (i : Int) := by omega
  have i1 : (i : Int) < 60 := by omega
  have n1 : decide (n < 1) = false := decide_eq_false (by omega)
  have HB3 := Lib.hid hb3
  have RB := Lib.hid (show RB3 w n 0 false W3 from by
    rw [← hW3]
    refine ⟨?_, ?_, ?_⟩
    · exact (Below.heap_alloc _ _ _ (by simp; omega)).trans ((Below.heap_alloc _ _ _ (by simp)).trans (heap_alloc_new w _))
    · refine (Below.heap_alloc _ _ _ (by simp)).trans ?_
      have := heap_alloc_new (w.alloc (.cells #[.int .i64 n] 3)) (.cells #[.int .i64 0] 3)
      rwa [World.size_alloc] at this
    · have := heap_alloc_new ((w.alloc (.cells #[.int .i64 n] 3)).alloc (.cells #[.int .i64 0] 3)) (.cells #[.bool false] 4)
      rwa [World.size_alloc, World.size_alloc] at this)
  have x0 : W3.cell? ⟨w.heap.size, 0, none⟩ = some (.int .i64 n) := by rw [← hW3]; exact cell_below (below_step (below_new _ _) (below_new _ _)) (box_cell (heap_alloc_new w _) 0 _ rfl)
  clear h hb3 e1 hr
  refine (callsIn_wide (n := 6)).1 ?_
  refine callsIn_of_wp_marks Try.func48 rfl trivial ?_ rfl
  simp only [Try.ntmps48, List.size_toArray, List.length_cons, List.length_nil, Nat.reduceAdd, Nat.reduceSub, Array.replicate_succ, Array.replicate_zero, List.push_toArray, List.append_toArray, List.nil_append, List.cons_append]
  gi_wp2_with fail
  refine ⟨trivial, (callsIn_wide.2 HN.out).mono ?_⟩; rintro e w' ⟨rfl, rfl⟩
  gi_wp2_with fail
  refine ⟨trivial, (callsIn_wide.2 HT.out).mono ?_⟩; rintro e w' ⟨rfl, rfl⟩
  clear hW3
  gi_wp2_with fail
  · have HG : Hid (max f 0 = 0) := Lib.hid (by omega)
    rw [HG.out]
    refine ⟨trivial, (callsIn_wide.2 (gaps_any a (K i).length m (0) W3)).mono ?_⟩; rintro e w' ⟨rfl, rfl⟩
    obtain ⟨W5, hW5⟩ : ∃ V, (W3.alloc (.cells #[.slice a (K i).length m] 31)).alloc (.cells #[.int .i64 (0)] 3) = V := ⟨_, rfl⟩
    have hb5 : Below W3.heap.size W3 W5 := by rw [← hW5]; exact ((Below.refl _ W3).alloc (Nat.le_refl _) _).alloc (by simp) _
    have q1 : W5.cell? ⟨W3.heap.size + 1, 0, none⟩ = some (.int .i64 (0)) := by
      have := heap_alloc_new (W3.alloc (.cells #[.slice a (K i).length m] 31)) (.cells #[.int .i64 (0)] 3)
      rw [World.size_alloc, hW5] at this
      exact box_cell this 0 _ rfl
    have q0 : W5.cell? ⟨W3.heap.size, 0, none⟩ = some (.slice a (K i).length m) := by
      rw [← hW5]; exact cell_below (below_new _ _) (box_cell (heap_alloc_new W3 _) 0 _ rfl)
    rw [hW5]
    have HRB := RB.out.below hb5
    have HI0 := Lib.hid (show FI w n [] W5 from ⟨HRB, below_step HB3.out hb5, fun x hx => by cases hx⟩)
    have HS := Lib.hid (gaps_stops 5 (by omega) (W3.heap.size + 1) W3.heap.size (K i) a m (0) W5 q1 q0 (HR.out.below hb5) (H3.out.ok.srt i hi) (H3.out.ok.len hi) (by omega) (fun b hb => by have := Kal.okB_iff.1 (H3.out.ok.mem i hi b hb).1; exact ⟨this.2.1, this.2.2.2.1⟩))
    have hz5 : w.heap.size ≤ W5.heap.size := (below_step HB3.out hb5).size
    clear hW5 q0 q1 hb5 HRB x0 hv hc
    gi_wp2_with fail
    refine wpIn_rangeFunc_ownF rfl (by omega) (gf := 88) (lb := #[.pointer (some ⟨W3.heap.size + 1, 0, none⟩), .pointer (some ⟨W3.heap.size, 0, none⟩)]) rfl trivial (enters_of Try.func88 (by kernel_rfl) rfl)
      HS.out KC.trans (fun W l o o' _ h hc _ => KC.putObj W l o o' h hc) (Below.refl _ _) (fun _ => rfl) (FI w n) (fun c pre W => c = .ret ∧ FX w n pre W) (FI_own hz5) (fun c => FX_own hz5 c) HI0.out
      (fun x : Gp => { tmps := #[c.ptr, .int .i64 (i : Int), .int .i64 f, .int .i64 n, undef, undef, undef, .pointer (some ⟨w.heap.size, 0, none⟩), .pointer (some ⟨w.heap.size + 1, 0, none⟩), .pointer (some ⟨w.heap.size + 1 + 1, 0, none⟩), .int .i64 x.1.1, .int .i64 x.1.2, c.ptr, .bool false, .bool false, .int .i64 (i : Int), .bool true, .bool false, .bool false, .bool false, .int .i64 n, .bool false, .bool false, c.ptr, .pointer (some ⟨c.C, 0, none⟩), .pointer (some ⟨c.C, 0, none⟩), .pointer (some ⟨c.T, 0, none⟩), .int .i64 (i : Int), .pointer (some ⟨c.T, 0, none⟩), .pointer (some ⟨c.T, i, none⟩), .slice a (K i).length m, .int .i64 f, .int .i64 (0), .func (.func 88) #[] #[.pointer (some ⟨W3.heap.size + 1, 0, none⟩), .pointer (some ⟨W3.heap.size, 0, none⟩)], .int .i64 x.1.1, .int .i64 x.1.2, undef, undef, undef, undef, undef, undef], defers := [] }) ?assign ?body ?done ?stop
    case assign =>
      intro l x W K hK
      gi_wp2
      exact hK
    case body =>
      rintro l pre x W hI _
      obtain ⟨hRB, hBW, hN⟩ := hI
      obtain ⟨⟨u, v⟩, v1, v2, v3⟩ := x
      simp only at v1 v2 v3
      have z0 := box_cell hRB.len 0 _ rfl; have z1 := box_cell hRB.num 0 _ rfl; have z2 := box_cell hRB.yes 0 _ rfl
      have y1 := box_fz hRB.num 0; have y2 := box_fz hRB.yes 0
      have HRB2 := Lib.hid hRB; have HBW := Lib.hid hBW; have HN2 := Lib.hid hN
      have hs1 := lt_of_block hRB.yes
      clear hRB hBW hN
      by_cases hw : n ≤ v - u
      · have HW := Lib.hid (show Kal.wide n (u, v) = true by unfold Kal.wide; simpa using hw)
        gi_wp2
        refine ⟨(KeepsOthers.setCell _ _ _).trans (KeepsOthers.setCell _ _ _), rfl, pre, ⟨(u, v), v1, v2, v3⟩, rfl, HN2.out, HW.out, ?_, (HBW.out.setCell (p := ⟨w.heap.size + 1, 0, none⟩) (by simp) _).setCell (p := ⟨w.heap.size + 1 + 1, 0, none⟩) (by simp; omega) _⟩
        refine ⟨?_, ?_, ?_⟩
        · exact (Below.heap_setCell _ _ _ _ (by simp; omega)).trans ((Below.heap_setCell _ _ _ _ (by simp)).trans HRB2.out.len)
        · exact (Below.heap_setCell _ _ _ _ (by simp)).trans (block_set HRB2.out.num _)
        · exact block_set ((Below.heap_setCell _ _ _ _ (by simp)).trans HRB2.out.yes) _
      · have HW := Lib.hid (show Kal.wide n (u, v) = false by unfold Kal.wide; simpa using hw)
        have hw' : decide (n ≤ v - u) = false := decide_eq_false hw
        gi_wp2
        exact ⟨KeepsOthers.refl _, KC.refl _, HRB2.out, HBW.out, fun x hx => by
          rcases List.mem_append.1 hx with hx | hx
          · exact HN2.out x hx
          · rw [List.mem_singleton.1 hx]; exact HW.out⟩
    case done =>
      rintro D ys W hD hS hI hK
      obtain ⟨hRB, hBW, hN⟩ := hI
      have z1 := box_cell hRB.num 0 _ rfl; have z2 := box_cell hRB.yes 0 _ rfl
      have y1 := box_fz hRB.num 0; have y2 := box_fz hRB.yes 0
      have HF := Lib.hid (find_none (ys.map (·.1)) n (fun x hx => by obtain ⟨y, hy, rfl⟩ := List.mem_map.1 hx; exact hN y hy))
      rw [hS] at HF
      have HR0 : Hid (Kal.first (K i) (0) n = none) := Lib.hid (by unfold Kal.first; rw [HF.out]; rfl)
      have hs1 := lt_of_block hRB.yes
      have HRB2 := Lib.hid hRB; have HBW := Lib.hid hBW
      clear hRB hBW hN hS HF
      gi_wp2_with fail
      have hK2 := ((KeepsOthers.setCell W ⟨w.heap.size + 1, 0, none⟩ (.int .i64 0)).trans (KeepsOthers.setCell _ ⟨w.heap.size + 1 + 1, 0, none⟩ (.bool false))).same D _ hK rfl
      refine ⟨by simp, .inl ⟨_, _, rfl, run_takeDeferred hK2, ?_⟩⟩
      obtain ⟨V, hV⟩ : ∃ V, ((W.setCell ⟨w.heap.size + 1, 0, none⟩ (.int .i64 0)).setCell ⟨w.heap.size + 1 + 1, 0, none⟩ (.bool false)) = V := ⟨_, rfl⟩
      have hRV : RB3 w n 0 false V := by
        rw [← hV]
        refine ⟨?_, ?_, ?_⟩
        · exact (Below.heap_setCell _ _ _ _ (by simp; omega)).trans ((Below.heap_setCell _ _ _ _ (by simp)).trans HRB2.out.len)
        · exact (Below.heap_setCell _ _ _ _ (by simp)).trans (block_set HRB2.out.num _)
        · exact block_set ((Below.heap_setCell _ _ _ _ (by simp)).trans HRB2.out.yes) _
      have hBV : Below w.heap.size w V := by rw [← hV]; exact (HBW.out.setCell (p := ⟨w.heap.size + 1, 0, none⟩) (by simp) _).setCell (p := ⟨w.heap.size + 1 + 1, 0, none⟩) (by simp; omega) _
      rw [hV] at hK2 ⊢
      exact first_end (by rfl) (by rfl) HG.out HR0.out hRV hBV (Nat.le_trans hz5 hD) hK2
    case stop =>
      rintro D c pre W hD hS ⟨rfl, p, x, rfl, hp, hx, hRB, hBW⟩ hK
      have HF := Lib.hid (find_some (p.map (·.1)) n x.1 (fun y hy => by obtain ⟨z, hz, rfl⟩ := List.mem_map.1 hy; exact hp z hz) hx (Kal.gapsF (0) ((K i).drop (Kal.fb (K i) (0)))) (by simpa using hS))
      have HR0 : Hid (Kal.first (K i) (0) n = some x.1.1) := Lib.hid (by unfold Kal.first; rw [HF.out]; rfl)
      gi_wp2_with fail
      refine ⟨by simp, .inl ⟨_, _, rfl, run_takeDeferred hK, ?_⟩⟩
      exact first_end (by rfl) (by rfl) HG.out HR0.out hRB hBW (Nat.le_trans hz5 hD) hK
  · have HG : Hid (max f 0 = f) := Lib.hid (by omega)
    rw [HG.out]
    refine ⟨trivial, (callsIn_wide.2 (gaps_any a (K i).length m (f) W3)).mono ?_⟩; rintro e w' ⟨rfl, rfl⟩
    obtain ⟨W5, hW5⟩ : ∃ V, (W3.alloc (.cells #[.slice a (K i).length m] 31)).alloc (.cells #[.int .i64 (f)] 3) = V := ⟨_, rfl⟩
    have hb5 : Below W3.heap.size W3 W5 := by rw [← hW5]; exact ((Below.refl _ W3).alloc (Nat.le_refl _) _).alloc (by simp) _
    have q1 : W5.cell? ⟨W3.heap.size + 1, 0, none⟩ = some (.int .i64 (f)) := by
      have := heap_alloc_new (W3.alloc (.cells #[.slice a (K i).length m] 31)) (.cells #[.int .i64 (f)] 3)
      rw [World.size_alloc, hW5] at this
      exact box_cell this 0 _ rfl
    have q0 : W5.cell? ⟨W3.heap.size, 0, none⟩ = some (.slice a (K i).length m) := by
      rw [← hW5]; exact cell_below (below_new _ _) (box_cell (heap_alloc_new W3 _) 0 _ rfl)
    rw [hW5]
    have HRB := RB.out.below hb5
    have HI0 := Lib.hid (show FI w n [] W5 from ⟨HRB, below_step HB3.out hb5, fun x hx => by cases hx⟩)
    have HS := Lib.hid (gaps_stops 5 (by omega) (W3.heap.size + 1) W3.heap.size (K i) a m (f) W5 q1 q0 (HR.out.below hb5) (H3.out.ok.srt i hi) (H3.out.ok.len hi) (by omega) (fun b hb => by have := Kal.okB_iff.1 (H3.out.ok.mem i hi b hb).1; exact ⟨this.2.1, this.2.2.2.1⟩))
    have hz5 : w.heap.size ≤ W5.heap.size := (below_step HB3.out hb5).size
    clear hW5 q0 q1 hb5 HRB x0 hv hc
    gi_wp2_with fail
    refine wpIn_rangeFunc_ownF rfl (by omega) (gf := 88) (lb := #[.pointer (some ⟨W3.heap.size + 1, 0, none⟩), .pointer (some ⟨W3.heap.size, 0, none⟩)]) rfl trivial (enters_of Try.func88 (by kernel_rfl) rfl)
      HS.out KC.trans (fun W l o o' _ h hc _ => KC.putObj W l o o' h hc) (Below.refl _ _) (fun _ => rfl) (FI w n) (fun c pre W => c = .ret ∧ FX w n pre W) (FI_own hz5) (fun c => FX_own hz5 c) HI0.out
      (fun x : Gp => { tmps := #[c.ptr, .int .i64 (i : Int), .int .i64 f, .int .i64 n, undef, undef, undef, .pointer (some ⟨w.heap.size, 0, none⟩), .pointer (some ⟨w.heap.size + 1, 0, none⟩), .pointer (some ⟨w.heap.size + 1 + 1, 0, none⟩), .int .i64 x.1.1, .int .i64 x.1.2, c.ptr, .bool false, .bool false, .int .i64 (i : Int), .bool true, .bool false, .bool false, .bool false, .int .i64 n, .bool false, .bool false, c.ptr, .pointer (some ⟨c.C, 0, none⟩), .pointer (some ⟨c.C, 0, none⟩), .pointer (some ⟨c.T, 0, none⟩), .int .i64 (i : Int), .pointer (some ⟨c.T, 0, none⟩), .pointer (some ⟨c.T, i, none⟩), .slice a (K i).length m, .int .i64 f, .int .i64 (f), .func (.func 88) #[] #[.pointer (some ⟨W3.heap.size + 1, 0, none⟩), .pointer (some ⟨W3.heap.size, 0, none⟩)], .int .i64 x.1.1, .int .i64 x.1.2, undef, undef, undef, undef, undef, undef], defers := [] }) ?assign ?body ?done ?stop
    case assign =>
      intro l x W K hK
      gi_wp2
      exact hK
    case body =>
      rintro l pre x W hI _
      obtain ⟨hRB, hBW, hN⟩ := hI
      obtain ⟨⟨u, v⟩, v1, v2, v3⟩ := x
      simp only at v1 v2 v3
      have z0 := box_cell hRB.len 0 _ rfl; have z1 := box_cell hRB.num 0 _ rfl; have z2 := box_cell hRB.yes 0 _ rfl
      have y1 := box_fz hRB.num 0; have y2 := box_fz hRB.yes 0
      have HRB2 := Lib.hid hRB; have HBW := Lib.hid hBW; have HN2 := Lib.hid hN
      have hs1 := lt_of_block hRB.yes
      clear hRB hBW hN
      by_cases hw : n ≤ v - u
      · have HW := Lib.hid (show Kal.wide n (u, v) = true by unfold Kal.wide; simpa using hw)
        gi_wp2
        refine ⟨(KeepsOthers.setCell _ _ _).trans (KeepsOthers.setCell _ _ _), rfl, pre, ⟨(u, v), v1, v2, v3⟩, rfl, HN2.out, HW.out, ?_, (HBW.out.setCell (p := ⟨w.heap.size + 1, 0, none⟩) (by simp) _).setCell (p := ⟨w.heap.size + 1 + 1, 0, none⟩) (by simp; omega) _⟩
        refine ⟨?_, ?_, ?_⟩
        · exact (Below.heap_setCell _ _ _ _ (by simp; omega)).trans ((Below.heap_setCell _ _ _ _ (by simp)).trans HRB2.out.len)
        · exact (Below.heap_setCell _ _ _ _ (by simp)).trans (block_set HRB2.out.num _)
        · exact block_set ((Below.heap_setCell _ _ _ _ (by simp)).trans HRB2.out.yes) _
      · have HW := Lib.hid (show Kal.wide n (u, v) = false by unfold Kal.wide; simpa using hw)
        have hw' : decide (n ≤ v - u) = false := decide_eq_false hw
        gi_wp2
        exact ⟨KeepsOthers.refl _, KC.refl _, HRB2.out, HBW.out, fun x hx => by
          rcases List.mem_append.1 hx with hx | hx
          · exact HN2.out x hx
          · rw [List.mem_singleton.1 hx]; exact HW.out⟩
    case done =>
      rintro D ys W hD hS hI hK
      obtain ⟨hRB, hBW, hN⟩ := hI
      have z1 := box_cell hRB.num 0 _ rfl; have z2 := box_cell hRB.yes 0 _ rfl
      have y1 := box_fz hRB.num 0; have y2 := box_fz hRB.yes 0
      have HF := Lib.hid (find_none (ys.map (·.1)) n (fun x hx => by obtain ⟨y, hy, rfl⟩ := List.mem_map.1 hx; exact hN y hy))
      rw [hS] at HF
      have HR0 : Hid (Kal.first (K i) (f) n = none) := Lib.hid (by unfold Kal.first; rw [HF.out]; rfl)
      have hs1 := lt_of_block hRB.yes
      have HRB2 := Lib.hid hRB; have HBW := Lib.hid hBW
      clear hRB hBW hN hS HF
      gi_wp2_with fail
      have hK2 := ((KeepsOthers.setCell W ⟨w.heap.size + 1, 0, none⟩ (.int .i64 0)).trans (KeepsOthers.setCell _ ⟨w.heap.size + 1 + 1, 0, none⟩ (.bool false))).same D _ hK rfl
      refine ⟨by simp, .inl ⟨_, _, rfl, run_takeDeferred hK2, ?_⟩⟩
      obtain ⟨V, hV⟩ : ∃ V, ((W.setCell ⟨w.heap.size + 1, 0, none⟩ (.int .i64 0)).setCell ⟨w.heap.size + 1 + 1, 0, none⟩ (.bool false)) = V := ⟨_, rfl⟩
      have hRV : RB3 w n 0 false V := by
        rw [← hV]
        refine ⟨?_, ?_, ?_⟩
        · exact (Below.heap_setCell _ _ _ _ (by simp; omega)).trans ((Below.heap_setCell _ _ _ _ (by simp)).trans HRB2.out.len)
        · exact (Below.heap_setCell _ _ _ _ (by simp)).trans (block_set HRB2.out.num _)
        · exact block_set ((Below.heap_setCell _ _ _ _ (by simp)).trans HRB2.out.yes) _
      have hBV : Below w.heap.size w V := by rw [← hV]; exact (HBW.out.setCell (p := ⟨w.heap.size + 1, 0, none⟩) (by simp) _).setCell (p := ⟨w.heap.size + 1 + 1, 0, none⟩) (by simp; omega) _
      rw [hV] at hK2 ⊢
      exact first_end (by rfl) (by rfl) HG.out HR0.out hRV hBV (Nat.le_trans hz5 hD) hK2
    case stop =>
      rintro D c pre W hD hS ⟨rfl, p, x, rfl, hp, hx, hRB, hBW⟩ hK
      have HF := Lib.hid (find_some (p.map (·.1)) n x.1 (fun y hy => by obtain ⟨z, hz, rfl⟩ := List.mem_map.1 hy; exact hp z hz) hx (Kal.gapsF (f) ((K i).drop (Kal.fb (K i) (f)))) (by simpa using hS))
      have HR0 : Hid (Kal.first (K i) (f) n = some x.1.1) := Lib.hid (by unfold Kal.first; rw [HF.out]; rfl)
      gi_wp2_with fail
      refine ⟨by simp, .inl ⟨_, _, rfl, run_takeDeferred hK, ?_⟩⟩
      exact first_end (by rfl) (by rfl) HG.out HR0.out hRB hBW (Nat.le_trans hz5 hD) hK
end Go.Proofs.Ytjdhjlhcdpekbaa

