/-
  Cut at '/', and Parse: the fraction whose text it is, or ErrRatio.
-/
import Derived.Test.YtkkhmgcjaehnkaaGreatDoorLibs
namespace Go.Proofs.YtkkhmgcjaehnkaaGreatDoor
open Go.RowKit Go.Shelf

theorem toList_iff {x y : ByteArray} : x.toList = y.toList ↔ x = y := by
  rw [Lib.toList_data, Lib.toList_data]
  exact ⟨fun h => ByteArray.ext (Array.toList_inj.1 h), fun h => by rw [h]⟩
theorem cut_len (l : List UInt8) : (Lib.cut l [47]).1.length ≤ l.length ∧ (Lib.cut l [47]).2.1.length ≤ l.length := by
  unfold Lib.cut; split <;> simp <;> omega
def overB (s : ByteArray) : ByteArray := ⟨(Lib.cut s.data.toList [47]).1.toArray⟩
def underB (s : ByteArray) : ByteArray := ⟨(Lib.cut s.data.toList [47]).2.1.toArray⟩
def hasB (s : ByteArray) : Bool := (Lib.cut s.data.toList [47]).2.2
theorem overB_list (s : ByteArray) : (overB s).data.toList = (Lib.cut s.data.toList [47]).1 := rfl
theorem underB_list (s : ByteArray) : (underB s).data.toList = (Lib.cut s.data.toList [47]).2.1 := rfl
theorem overB_size {s : ByteArray} (h : s.size ≤ 1000) : (overB s).size ≤ 1000 := by
  have := (cut_len s.data.toList).1
  show (Lib.cut s.data.toList [47]).1.toArray.size ≤ 1000
  rw [List.size_toArray]; have h' : s.data.toList.length = s.size := by simp
  omega
theorem underB_size {s : ByteArray} (h : s.size ≤ 1000) : (underB s).size ≤ 1000 := by
  have := (cut_len s.data.toList).2
  show (Lib.cut s.data.toList [47]).2.1.toArray.size ≤ 1000
  rw [List.size_toArray]; have h' : s.data.toList.length = s.size := by simp
  omega

set_option maxRecDepth 100000 in
set_option maxHeartbeats 1000000 in
theorem sliteCut_any (s : ByteArray) (w : World) (hs : s.size ≤ 1000) :
    Calls Tryz.prog 53 #[.string s, .string ⟨#[47]⟩] w fun e w' => e = .returned (.tuple #[.string (overB s), .string (underB s), .bool (hasB s)]) ∧ ∃ k, w' = w.drewN k := by
  have hix := fun w => Tryz.stringslite_Index_one s 47 w
  rw [← Lib.index_one] at hix
  have HI := Lib.hid hix
  clear hix
  unfold overB underB hasB
  rcases Lib.indexB_cases s ⟨#[47]⟩ with h | ⟨i, h, hroom⟩
  · obtain ⟨e1, e2, e3⟩ := Lib.cutB_miss s ⟨#[47]⟩ h
    have h' : Lib.index s.data.toList [47] = -1 := h
    have HI' : ∀ w, Calls Tryz.prog 58 #[.string s, .string ⟨#[47]⟩] w fun e w' => e = .returned (.int .i64 (-1)) ∧ w' = w := fun w => by rw [← h']; exact HI.out w
    have HJ := Lib.hid HI'
    clear HI' h h'
    show Calls _ _ _ _ fun e w' => e = .returned (.tuple #[.string ⟨(Lib.cut s.data.toList (⟨#[47]⟩ : ByteArray).data.toList).1.toArray⟩, .string ⟨(Lib.cut s.data.toList (⟨#[47]⟩ : ByteArray).data.toList).2.1.toArray⟩, .bool (Lib.cut s.data.toList (⟨#[47]⟩ : ByteArray).data.toList).2.2]) ∧ ∃ k, w' = w.drewN k
    rw [e1, e2, e3]
    clear e1 e2 e3
    go_enter Tryz.func53, Tryz.ntmps53
    go_wp2_with fail
    refine (HJ.out _).mono ?_; rintro e w' ⟨rfl, rfl⟩
    go_wp2_with fail
    go_ret3
    exact ⟨rfl, 0, rfl⟩
  · obtain ⟨e1, e2, e3⟩ := Lib.cutB_hit s ⟨#[47]⟩ i h
    have h' : Lib.index s.data.toList [47] = i := h
    have HI' : ∀ w, Calls Tryz.prog 58 #[.string s, .string ⟨#[47]⟩] w fun e w' => e = .returned (.int .i64 (i : Int)) ∧ w' = w := fun w => by rw [← h']; exact HI.out w
    have HJ := Lib.hid HI'
    have c0 : i + 1 ≤ s.size := hroom
    have c1 : (0 : Int) ≤ ↑i := by omega
    have c2 : (↑i : Int) ≤ ↑s.size := by omega
    have c3 : (0 : Int) ≤ ↑i + 1 := by omega
    have c4 : (↑i + 1 : Int) ≤ ↑s.size := by omega
    have c5 : (↑s.size : Int) ≤ 1000 := by omega
    clear HI' h h' hroom c0
    show Calls _ _ _ _ fun e w' => e = .returned (.tuple #[.string ⟨(Lib.cut s.data.toList (⟨#[47]⟩ : ByteArray).data.toList).1.toArray⟩, .string ⟨(Lib.cut s.data.toList (⟨#[47]⟩ : ByteArray).data.toList).2.1.toArray⟩, .bool (Lib.cut s.data.toList (⟨#[47]⟩ : ByteArray).data.toList).2.2]) ∧ ∃ k, w' = w.drewN k
    rw [e1, e2, e3]
    have HE : Hid (s.extract (i + (⟨#[47]⟩ : ByteArray).size) s.size = s.extract (i + 1) s.size) := Lib.hid rfl
    rw [HE.out]
    clear e1 e2 e3 HE
    go_enter Tryz.func53, Tryz.ntmps53
    go_wp2_with fail
    refine (HJ.out _).mono ?_; rintro e w' ⟨rfl, rfl⟩
    go_wp2_with fail
    go_quiet (fail)
    go_wp2_with fail
    go_ret3
    exact ⟨rfl, _, rfl⟩

theorem stringsCut_any (s : ByteArray) (w : World) (hs : s.size ≤ 1000) :
    Calls Tryz.prog 47 #[.string s, .string ⟨#[47]⟩] w fun e w' => e = .returned (.tuple #[.string (overB s), .string (underB s), .bool (hasB s)]) ∧ ∃ k, w' = w.drewN k := by
  have h := fun w => sliteCut_any s w hs
  have HI := Lib.hid h
  clear h hs
  go_enter Tryz.func47, Tryz.ntmps47
  go_wp2_with fail
  refine (HI.out _).mono ?_; rintro e w' ⟨rfl, k, rfl⟩
  go_wp2_with fail
  go_ret3
  exact ⟨rfl, k, rfl⟩

/-- What stays in Parse's closure once the fraction lies in block B. -/
structure ParseAt (W : World) (a : Addr) (A : Nat) (s : ByteArray) (B : Nat) (n d : Int) (w' : World) : Prop where
  box : BoxAt w' B n d
  str : w'.cell? ⟨A, 0, none⟩ = some (.string s)
  res : BoxAt w' W.heap.size 0 0
  fr : ∀ o, w'.frozen? ⟨W.heap.size, o, none⟩ = false
  tab : Tab a w'
  bel : Below W.heap.size W w'
theorem ParseAt.step {W : World} {a : Addr} {A : Nat} {s : ByteArray} {B : Nat} {n d : Int} {w1 w2 : World} (h : ParseAt W a A s B n d w1) (hb : Below w1.heap.size w1 w2) : ParseAt W a A s B n d w2 :=
  ⟨h.box.below hb, cell_below hb h.str, h.res.below hb, fun o => (hb.frozen (p := ⟨W.heap.size, o, none⟩) h.res.1).trans (h.fr o), h.tab.below hb, below_step h.bel hb⟩
/-- What stays before that. -/
structure CutAt (W : World) (a : Addr) (A : Nat) (s : ByteArray) (w' : World) : Prop where
  lt : A < W.heap.size
  str : w'.cell? ⟨A, 0, none⟩ = some (.string s)
  res : BoxAt w' W.heap.size 0 0
  fr : ∀ o, w'.frozen? ⟨W.heap.size, o, none⟩ = false
  tab : Tab a w'
  bel : Below W.heap.size W w'
theorem CutAt.step {W : World} {a : Addr} {A : Nat} {s : ByteArray} {w1 w2 : World} (h : CutAt W a A s w1) (hb : Below w1.heap.size w1 w2) : CutAt W a A s w2 :=
  ⟨h.lt, cell_below hb h.str, h.res.below hb, fun o => (hb.frozen (p := ⟨W.heap.size, o, none⟩) h.res.1).trans (h.fr o), h.tab.below hb, below_step h.bel hb⟩
theorem CutAt.new {W : World} {a : Addr} {A : Nat} {s : ByteArray} (hA : A < W.heap.size) (hs : W.cell? ⟨A, 0, none⟩ = some (.string s)) (ht : Tab a W) : CutAt W a A s (W.alloc (.cells #[.int .i64 0, .int .i64 0] 25)) :=
  ⟨hA, cell_below (below_new _ _) hs, BoxAt.new W 0 0, fun o => by simp [go_sem], ht.below (below_new _ _), below_new _ _⟩
/-- The fraction n / 1 in a new block. -/
theorem CutAt.made {W : World} {a : Addr} {A : Nat} {s : ByteArray} {w1 : World} (h : CutAt W a A s w1) (n : Int) : ParseAt W a A s w1.heap.size n 1 (w1.alloc (.cells #[.int .i64 n, .int .i64 1] 25)) :=
  ⟨BoxAt.new w1 n 1, cell_below (below_new _ _) h.str, h.res.below (below_new _ _), (h.step (below_new w1 _)).fr, h.tab.below (below_new _ _), below_step h.bel (below_new _ _)⟩
/-- Its denominator written. -/
theorem CutAt.set {W : World} {a : Addr} {A : Nat} {s : ByteArray} {w1 w3 : World} {n : Int} (h : CutAt W a A s w1) (hb : Below (w1.alloc (.cells #[.int .i64 n, .int .i64 1] 25)).heap.size (w1.alloc (.cells #[.int .i64 n, .int .i64 1] 25)) w3) (d : Int) :
    ParseAt W a A s w1.heap.size n d (w3.setCell ⟨w1.heap.size, 1, none⟩ (.int .i64 d)) := by
  have p := (h.made n).step hb
  have hB : Below w1.heap.size w1 (w3.setCell ⟨w1.heap.size, 1, none⟩ (.int .i64 d)) := (below_step (below_new w1 _) hb).setCell (Nat.le_refl _) _
  have k := h.step hB
  exact ⟨⟨by simpa using p.box.1, by rw [World.cell?_setCell_other _ _ _ _ (by intro e; injection e with e1 e2; omega)]; exact p.box.2.1, by simp [go_sem, p.box.2.2]⟩, k.str, k.res, k.fr, k.tab, k.bel⟩
/-- What it holds of the block's two cells. -/
theorem CutAt.cells {W : World} {a : Addr} {A : Nat} {s : ByteArray} {w1 w3 : World} {n : Int} (_ : CutAt W a A s w1) (hb : Below (w1.alloc (.cells #[.int .i64 n, .int .i64 1] 25)).heap.size (w1.alloc (.cells #[.int .i64 n, .int .i64 1] 25)) w3) :
    w3.cell? ⟨w1.heap.size, 0, none⟩ = some (.int .i64 n) ∧ w3.cell? ⟨w1.heap.size, 1, none⟩ = some (.int .i64 1) ∧ w3.frozen? ⟨w1.heap.size, 1, none⟩ = false :=
  ⟨((BoxAt.new w1 n 1).below hb).2.1, ((BoxAt.new w1 n 1).below hb).2.2, (hb.frozen (p := ⟨w1.heap.size, 1, none⟩) (by simp)).trans (by simp [go_sem])⟩

set_option maxRecDepth 100000 in
set_option maxHeartbeats 1000000 in
theorem Parse1_over (A : Nat) (s : ByteArray) (a : Addr) (W : World) (hA : A < W.heap.size) (hstr : W.cell? ⟨A, 0, none⟩ = some (.string s)) (ht : Tab a W) (hs : s.size ≤ 1000) (h : ∀ v, Lib.atoiAll (Lib.cut s.data.toList [47]).1 ≠ .ok v) :
    Calls Tryz.prog 46 #[.pointer (some ⟨A, 0, none⟩)] W fun e W' => e = raised a ∧ Below W.heap.size W W' := by
  have hcut := fun w => stringsCut_any s w hs
  have R0 := Lib.hid (CutAt.new hA hstr ht)
  have HC := Lib.hid hcut
  have hn := fun w ht => number_no (overB s) w a ht (overB_size hs) h
  have HN := Lib.hid hn
  clear hn h hs
  clear hcut hA hstr ht
  have x0 := R0.out.str
  go_enter Tryz.func46, Tryz.ntmps46
  go_wp2_with fail
  refine (HC.out _).mono ?_; rintro e w1 ⟨rfl, k, rfl⟩
  have R1 := Lib.hid (R0.out.step (below_drewN (Below.refl _ _) k))
  clear x0
  go_wp2_with fail
  refine (HN.out _ R1.out.tab).mono ?_; rintro e w2 ⟨rfl, g2⟩
  have R2 := R1.out.step g2
  go_wp2_with fail
  exact ⟨rfl, rfl, R2.bel⟩

set_option maxRecDepth 100000 in
set_option maxHeartbeats 1000000 in
theorem Parse1_under (A : Nat) (s : ByteArray) (a : Addr) (W : World) (hA : A < W.heap.size) (hstr : W.cell? ⟨A, 0, none⟩ = some (.string s)) (ht : Tab a W) (hs : s.size ≤ 1000) (n : Int) (h1 : Lib.atoiAll (Lib.cut s.data.toList [47]).1 = .ok n) (hh : hasB s = true) (h : ∀ v, Lib.atoiAll (Lib.cut s.data.toList [47]).2.1 ≠ .ok v) :
    Calls Tryz.prog 46 #[.pointer (some ⟨A, 0, none⟩)] W fun e W' => e = raised a ∧ Below W.heap.size W W' := by
  have hcut := fun w => stringsCut_any s w hs
  have R0 := Lib.hid (CutAt.new hA hstr ht)
  have HC := Lib.hid hcut
  have hn := fun w => number_yes (overB s) n w (overB_size hs) h1
  have hm := fun w ht => number_no (underB s) w a ht (underB_size hs) h
  have HN := Lib.hid hn; have HM := Lib.hid hm
  rw [hh] at hcut
  have HC := Lib.hid hcut
  clear hn hm h h1 hs hh
  clear hcut hA hstr ht
  have x0 := R0.out.str
  go_enter Tryz.func46, Tryz.ntmps46
  go_wp2_with fail
  refine (HC.out _).mono ?_; rintro e w1 ⟨rfl, k, rfl⟩
  have R1 := Lib.hid (R0.out.step (below_drewN (Below.refl _ _) k))
  clear x0
  go_wp2_with fail
  refine (HN.out _).mono ?_; rintro e w2 ⟨rfl, g2⟩
  have R2 := Lib.hid (R1.out.step g2)
  go_wp2_with fail
  have P2 := R2.out.made n
  refine (HM.out _ P2.tab).mono ?_; rintro e w3 ⟨rfl, g3⟩
  have P3 := P2.step g3
  go_wp2_with fail
  exact ⟨rfl, rfl, P3.bel⟩

set_option maxRecDepth 100000 in
set_option maxHeartbeats 1000000 in
theorem Parse1_bad_plain (A : Nat) (s : ByteArray) (a : Addr) (W : World) (hA : A < W.heap.size) (hstr : W.cell? ⟨A, 0, none⟩ = some (.string s)) (ht : Tab a W) (hs : s.size ≤ 1000) (n : Int) (h1 : Lib.atoiAll (Lib.cut s.data.toList [47]).1 = .ok n) (hh : hasB s = false) (fn : Fits n ∧ Fits 1) (h : ¬ Ra.Ok n 1) :
    Calls Tryz.prog 46 #[.pointer (some ⟨A, 0, none⟩)] W fun e W' => e = raised a ∧ Below W.heap.size W W' := by
  have hcut := fun w => stringsCut_any s w hs
  have R0 := Lib.hid (CutAt.new hA hstr ht)
  have HC := Lib.hid hcut
  have hn := fun w => number_yes (overB s) n w (overB_size hs) h1
  have HN := Lib.hid hn
  rw [hh] at hcut
  have HC := Lib.hid hcut
  have hk := fun w hN => check_no n 1 w fn.1.1 fn.1.2 fn.2.1 fn.2.2 a hN h
  have HK := Lib.hid hk
  clear hk fn h
  clear hn h1 hs hh
  clear hcut hA hstr ht
  have x0 := R0.out.str
  go_enter Tryz.func46, Tryz.ntmps46
  go_wp2_with fail
  refine (HC.out _).mono ?_; rintro e w1 ⟨rfl, k, rfl⟩
  have R1 := Lib.hid (R0.out.step (below_drewN (Below.refl _ _) k))
  clear x0
  go_wp2_with fail
  refine (HN.out _).mono ?_; rintro e w2 ⟨rfl, g2⟩
  have R2 := Lib.hid (R1.out.step g2)
  go_wp2_with fail
  have P := R2.out.made n
  generalize hWc : w2.alloc (.cells #[.int .i64 n, .int .i64 1] 25) = Wc at *
  clear hWc
  have PP := Lib.hid P
  have z0 := P.box.2.1; have z1 := P.box.2.2
  clear P
  go_wp2_with fail
  clear z0 z1
  refine (HK.out _ PP.out.tab.err).mono ?_; rintro e w5 ⟨rfl, g5⟩
  have P5 := PP.out.step g5
  go_wp2_with fail
  exact ⟨rfl, rfl, P5.bel⟩

set_option maxRecDepth 100000 in
set_option maxHeartbeats 1000000 in
theorem Parse1_bad_slash (A : Nat) (s : ByteArray) (a : Addr) (W : World) (hA : A < W.heap.size) (hstr : W.cell? ⟨A, 0, none⟩ = some (.string s)) (ht : Tab a W) (hs : s.size ≤ 1000) (n d : Int) (h1 : Lib.atoiAll (Lib.cut s.data.toList [47]).1 = .ok n) (hh : hasB s = true) (h2 : Lib.atoiAll (Lib.cut s.data.toList [47]).2.1 = .ok d) (fn : Fits n ∧ Fits d) (h : ¬ Ra.Ok n d) :
    Calls Tryz.prog 46 #[.pointer (some ⟨A, 0, none⟩)] W fun e W' => e = raised a ∧ Below W.heap.size W W' := by
  have hcut := fun w => stringsCut_any s w hs
  have R0 := Lib.hid (CutAt.new hA hstr ht)
  have HC := Lib.hid hcut
  have hn := fun w => number_yes (overB s) n w (overB_size hs) h1
  have hm := fun w => number_yes (underB s) d w (underB_size hs) h2
  have HN := Lib.hid hn; have HM := Lib.hid hm
  rw [hh] at hcut
  have HC := Lib.hid hcut
  have hk := fun w hN => check_no n d w fn.1.1 fn.1.2 fn.2.1 fn.2.2 a hN h
  have HK := Lib.hid hk
  clear hk fn h
  clear hn hm h1 h2 hs hh
  clear hcut hA hstr ht
  have x0 := R0.out.str
  go_enter Tryz.func46, Tryz.ntmps46
  go_wp2_with fail
  refine (HC.out _).mono ?_; rintro e w1 ⟨rfl, k, rfl⟩
  have R1 := Lib.hid (R0.out.step (below_drewN (Below.refl _ _) k))
  clear x0
  go_wp2_with fail
  refine (HN.out _).mono ?_; rintro e w2 ⟨rfl, g2⟩
  have R2 := Lib.hid (R1.out.step g2)
  go_wp2_with fail
  refine (HM.out _).mono ?_; rintro e w3 ⟨rfl, g3⟩
  obtain ⟨y0, y1, y2⟩ := R2.out.cells g3
  have PP := Lib.hid (R2.out.set g3 d)
  go_wp2_with fail
  clear y0 y1 y2
  refine (HK.out _ PP.out.tab.err).mono ?_; rintro e w5 ⟨rfl, g5⟩
  have P5 := PP.out.step g5
  go_wp2_with fail
  exact ⟨rfl, rfl, P5.bel⟩

set_option maxRecDepth 100000 in
set_option maxHeartbeats 1000000 in
theorem Parse1_other_plain (A : Nat) (s : ByteArray) (a : Addr) (W : World) (hA : A < W.heap.size) (hstr : W.cell? ⟨A, 0, none⟩ = some (.string s)) (ht : Tab a W) (hs : s.size ≤ 1000) (n : Int) (h1 : Lib.atoiAll (Lib.cut s.data.toList [47]).1 = .ok n) (hh : hasB s = false) (ho : Ra.Ok n 1) (h : Ra.txt n 1 ≠ s.data.toList) :
    Calls Tryz.prog 46 #[.pointer (some ⟨A, 0, none⟩)] W fun e W' => e = raised a ∧ Below W.heap.size W W' := by
  have hcut := fun w => stringsCut_any s w hs
  have R0 := Lib.hid (CutAt.new hA hstr ht)
  have HC := Lib.hid hcut
  have hn := fun w => number_yes (overB s) n w (overB_size hs) h1
  have HN := Lib.hid hn
  rw [hh] at hcut
  have HC := Lib.hid hcut
  have hk := fun w => check_yes n 1 w ho
  have tx := fun w ht => text_any n 1 w a ht ho
  have hne : ((txtB n 1).toList == s.toList) = false := by
    rw [beq_eq_false_iff_ne]; intro e; apply h; rw [← toList_iff.1 e]; rfl
  have hne2 : ((txtB n 1).toList != s.toList) = true := by rw [bne, hne]; rfl
  have HK := Lib.hid hk; have TX := Lib.hid tx
  clear hk tx ho h
  clear hn h1 hs hh
  clear hcut hA hstr ht
  have x0 := R0.out.str
  go_enter Tryz.func46, Tryz.ntmps46
  go_wp2_with fail
  refine (HC.out _).mono ?_; rintro e w1 ⟨rfl, k, rfl⟩
  have R1 := Lib.hid (R0.out.step (below_drewN (Below.refl _ _) k))
  clear x0
  go_wp2_with fail
  refine (HN.out _).mono ?_; rintro e w2 ⟨rfl, g2⟩
  have R2 := Lib.hid (R1.out.step g2)
  go_wp2_with fail
  have P := R2.out.made n
  generalize hWc : w2.alloc (.cells #[.int .i64 n, .int .i64 1] 25) = Wc at *
  clear hWc
  have PP := Lib.hid P
  have z0 := P.box.2.1; have z1 := P.box.2.2
  clear P
  go_wp2_with fail
  clear z0 z1
  refine (HK.out _).mono ?_; rintro e w5 ⟨rfl, g5⟩
  have P5 := PP.out.step g5
  have z0 := P5.box.2.1; have z1 := P5.box.2.2; have z2 := P5.str
  have HS : Hid (∀ w1 w2', (w1.cell? ⟨w2.heap.size, 0, none⟩ = some (.int .i64 n) ∧ w1.cell? ⟨w2.heap.size, 1, none⟩ = some (.int .i64 1) ∧ w1.cell? ⟨A, 0, none⟩ = some (.string s) ∧ ParseAt W a A s w2.heap.size n 1 w1) → Below w1.heap.size w1 w2' →
      (w2'.cell? ⟨w2.heap.size, 0, none⟩ = some (.int .i64 n) ∧ w2'.cell? ⟨w2.heap.size, 1, none⟩ = some (.int .i64 1) ∧ w2'.cell? ⟨A, 0, none⟩ = some (.string s) ∧ ParseAt W a A s w2.heap.size n 1 w2')) :=
    Lib.hid fun w1 w2' ⟨_, _, _, hp⟩ hb => ⟨(hp.step hb).box.2.1, (hp.step hb).box.2.2, (hp.step hb).str, hp.step hb⟩
  have HU : Hid (∀ w1, (w1.cell? ⟨w2.heap.size, 0, none⟩ = some (.int .i64 n) ∧ w1.cell? ⟨w2.heap.size, 1, none⟩ = some (.int .i64 1) ∧ w1.cell? ⟨A, 0, none⟩ = some (.string s) ∧ ParseAt W a A s w2.heap.size n 1 w1) → Tab a w1) := Lib.hid fun w1 hh => hh.2.2.2.tab
  have H0 : Hid (w5.cell? ⟨w2.heap.size, 0, none⟩ = some (.int .i64 n) ∧ w5.cell? ⟨w2.heap.size, 1, none⟩ = some (.int .i64 1) ∧ w5.cell? ⟨A, 0, none⟩ = some (.string s) ∧ ParseAt W a A s w2.heap.size n 1 w5) := Lib.hid ⟨z0, z1, z2, P5⟩
  go_wp2_with fail
  go_region_held3 (fun w' => w'.cell? ⟨w2.heap.size, 0, none⟩ = some (.int .i64 n) ∧ w'.cell? ⟨w2.heap.size, 1, none⟩ = some (.int .i64 1) ∧ w'.cell? ⟨A, 0, none⟩ = some (.string s) ∧ ParseAt W a A s w2.heap.size n 1 w') (first | exact HS.out _ _ H0.out (Below.refl _ _).drew | exact HS.out _ _ (by assumption) hb4)
    ((go_at_call 45; ((with_reducible refine (TX.out _ ?_).mono ?_); (exact HU.out _ (by assumption)); rintro e w4 ⟨rfl, hb4⟩)))
  all_goals
    rename_i hh4
    have P6 := hh4.2.2.2
    clear z0 z1 z2 hh4
    have hc := P6.tab.err.2
    go_wp2_with fail
    exact ⟨rfl, rfl, P6.bel⟩

set_option maxRecDepth 100000 in
set_option maxHeartbeats 1000000 in
theorem Parse1_other_slash (A : Nat) (s : ByteArray) (a : Addr) (W : World) (hA : A < W.heap.size) (hstr : W.cell? ⟨A, 0, none⟩ = some (.string s)) (ht : Tab a W) (hs : s.size ≤ 1000) (n d : Int) (h1 : Lib.atoiAll (Lib.cut s.data.toList [47]).1 = .ok n) (hh : hasB s = true) (h2 : Lib.atoiAll (Lib.cut s.data.toList [47]).2.1 = .ok d) (ho : Ra.Ok n d) (h : Ra.txt n d ≠ s.data.toList) :
    Calls Tryz.prog 46 #[.pointer (some ⟨A, 0, none⟩)] W fun e W' => e = raised a ∧ Below W.heap.size W W' := by
  have hcut := fun w => stringsCut_any s w hs
  have R0 := Lib.hid (CutAt.new hA hstr ht)
  have HC := Lib.hid hcut
  have hn := fun w => number_yes (overB s) n w (overB_size hs) h1
  have hm := fun w => number_yes (underB s) d w (underB_size hs) h2
  have HN := Lib.hid hn; have HM := Lib.hid hm
  rw [hh] at hcut
  have HC := Lib.hid hcut
  have hk := fun w => check_yes n d w ho
  have tx := fun w ht => text_any n d w a ht ho
  have hne : ((txtB n d).toList == s.toList) = false := by
    rw [beq_eq_false_iff_ne]; intro e; apply h; rw [← toList_iff.1 e]; rfl
  have hne2 : ((txtB n d).toList != s.toList) = true := by rw [bne, hne]; rfl
  have HK := Lib.hid hk; have TX := Lib.hid tx
  clear hk tx ho h
  clear hn hm h1 h2 hs hh
  clear hcut hA hstr ht
  have x0 := R0.out.str
  go_enter Tryz.func46, Tryz.ntmps46
  go_wp2_with fail
  refine (HC.out _).mono ?_; rintro e w1 ⟨rfl, k, rfl⟩
  have R1 := Lib.hid (R0.out.step (below_drewN (Below.refl _ _) k))
  clear x0
  go_wp2_with fail
  refine (HN.out _).mono ?_; rintro e w2 ⟨rfl, g2⟩
  have R2 := Lib.hid (R1.out.step g2)
  go_wp2_with fail
  refine (HM.out _).mono ?_; rintro e w3 ⟨rfl, g3⟩
  obtain ⟨y0, y1, y2⟩ := R2.out.cells g3
  have PP := Lib.hid (R2.out.set g3 d)
  go_wp2_with fail
  clear y0 y1 y2
  refine (HK.out _).mono ?_; rintro e w5 ⟨rfl, g5⟩
  have P5 := PP.out.step g5
  have z0 := P5.box.2.1; have z1 := P5.box.2.2; have z2 := P5.str
  have HS : Hid (∀ w1 w2', (w1.cell? ⟨w2.heap.size, 0, none⟩ = some (.int .i64 n) ∧ w1.cell? ⟨w2.heap.size, 1, none⟩ = some (.int .i64 d) ∧ w1.cell? ⟨A, 0, none⟩ = some (.string s) ∧ ParseAt W a A s w2.heap.size n d w1) → Below w1.heap.size w1 w2' →
      (w2'.cell? ⟨w2.heap.size, 0, none⟩ = some (.int .i64 n) ∧ w2'.cell? ⟨w2.heap.size, 1, none⟩ = some (.int .i64 d) ∧ w2'.cell? ⟨A, 0, none⟩ = some (.string s) ∧ ParseAt W a A s w2.heap.size n d w2')) :=
    Lib.hid fun w1 w2' ⟨_, _, _, hp⟩ hb => ⟨(hp.step hb).box.2.1, (hp.step hb).box.2.2, (hp.step hb).str, hp.step hb⟩
  have HU : Hid (∀ w1, (w1.cell? ⟨w2.heap.size, 0, none⟩ = some (.int .i64 n) ∧ w1.cell? ⟨w2.heap.size, 1, none⟩ = some (.int .i64 d) ∧ w1.cell? ⟨A, 0, none⟩ = some (.string s) ∧ ParseAt W a A s w2.heap.size n d w1) → Tab a w1) := Lib.hid fun w1 hh => hh.2.2.2.tab
  have H0 : Hid (w5.cell? ⟨w2.heap.size, 0, none⟩ = some (.int .i64 n) ∧ w5.cell? ⟨w2.heap.size, 1, none⟩ = some (.int .i64 d) ∧ w5.cell? ⟨A, 0, none⟩ = some (.string s) ∧ ParseAt W a A s w2.heap.size n d w5) := Lib.hid ⟨z0, z1, z2, P5⟩
  go_wp2_with fail
  go_region_held3 (fun w' => w'.cell? ⟨w2.heap.size, 0, none⟩ = some (.int .i64 n) ∧ w'.cell? ⟨w2.heap.size, 1, none⟩ = some (.int .i64 d) ∧ w'.cell? ⟨A, 0, none⟩ = some (.string s) ∧ ParseAt W a A s w2.heap.size n d w') (first | exact HS.out _ _ H0.out (Below.refl _ _).drew | exact HS.out _ _ (by assumption) hb4)
    ((go_at_call 45; ((with_reducible refine (TX.out _ ?_).mono ?_); (exact HU.out _ (by assumption)); rintro e w4 ⟨rfl, hb4⟩)))
  all_goals
    rename_i hh4
    have P6 := hh4.2.2.2
    clear z0 z1 z2 hh4
    have hc := P6.tab.err.2
    go_wp2_with fail
    exact ⟨rfl, rfl, P6.bel⟩

set_option maxRecDepth 100000 in
set_option maxHeartbeats 1000000 in
theorem Parse1_yes_plain (A : Nat) (s : ByteArray) (a : Addr) (W : World) (hA : A < W.heap.size) (hstr : W.cell? ⟨A, 0, none⟩ = some (.string s)) (ht : Tab a W) (hs : s.size ≤ 1000) (n : Int) (h1 : Lib.atoiAll (Lib.cut s.data.toList [47]).1 = .ok n) (hh : hasB s = false) (ho : Ra.Ok n 1) (h : Ra.txt n 1 = s.data.toList) :
    Calls Tryz.prog 46 #[.pointer (some ⟨A, 0, none⟩)] W fun e W' => e = .returned (ratV n 1) ∧ Below W.heap.size W W' := by
  have hcut := fun w => stringsCut_any s w hs
  have R0 := Lib.hid (CutAt.new hA hstr ht)
  have HC := Lib.hid hcut
  have hn := fun w => number_yes (overB s) n w (overB_size hs) h1
  have HN := Lib.hid hn
  rw [hh] at hcut
  have HC := Lib.hid hcut
  have hk := fun w => check_yes n 1 w ho
  have hte : txtB n 1 = s := by unfold txtB; rw [h]
  have tx := fun w ht => text_any n 1 w a ht ho
  rw [hte] at tx
  have hne : (s.toList == s.toList) = true := beq_self_eq_true _
  have hne2 : (s.toList != s.toList) = false := by rw [bne, hne]; rfl
  have HK := Lib.hid hk; have TX := Lib.hid tx
  clear hk tx ho h hte
  clear hn h1 hs hh
  clear hcut hA hstr ht
  have x0 := R0.out.str
  go_enter Tryz.func46, Tryz.ntmps46
  go_wp2_with fail
  refine (HC.out _).mono ?_; rintro e w1 ⟨rfl, k, rfl⟩
  have R1 := Lib.hid (R0.out.step (below_drewN (Below.refl _ _) k))
  clear x0
  go_wp2_with fail
  refine (HN.out _).mono ?_; rintro e w2 ⟨rfl, g2⟩
  have R2 := Lib.hid (R1.out.step g2)
  go_wp2_with fail
  have P := R2.out.made n
  generalize hWc : w2.alloc (.cells #[.int .i64 n, .int .i64 1] 25) = Wc at *
  clear hWc
  have PP := Lib.hid P
  have z0 := P.box.2.1; have z1 := P.box.2.2
  clear P
  go_wp2_with fail
  clear z0 z1
  refine (HK.out _).mono ?_; rintro e w5 ⟨rfl, g5⟩
  have P5 := PP.out.step g5
  have z0 := P5.box.2.1; have z1 := P5.box.2.2; have z2 := P5.str
  have HS : Hid (∀ w1 w2', (w1.cell? ⟨w2.heap.size, 0, none⟩ = some (.int .i64 n) ∧ w1.cell? ⟨w2.heap.size, 1, none⟩ = some (.int .i64 1) ∧ w1.cell? ⟨A, 0, none⟩ = some (.string s) ∧ ParseAt W a A s w2.heap.size n 1 w1) → Below w1.heap.size w1 w2' →
      (w2'.cell? ⟨w2.heap.size, 0, none⟩ = some (.int .i64 n) ∧ w2'.cell? ⟨w2.heap.size, 1, none⟩ = some (.int .i64 1) ∧ w2'.cell? ⟨A, 0, none⟩ = some (.string s) ∧ ParseAt W a A s w2.heap.size n 1 w2')) :=
    Lib.hid fun w1 w2' ⟨_, _, _, hp⟩ hb => ⟨(hp.step hb).box.2.1, (hp.step hb).box.2.2, (hp.step hb).str, hp.step hb⟩
  have HU : Hid (∀ w1, (w1.cell? ⟨w2.heap.size, 0, none⟩ = some (.int .i64 n) ∧ w1.cell? ⟨w2.heap.size, 1, none⟩ = some (.int .i64 1) ∧ w1.cell? ⟨A, 0, none⟩ = some (.string s) ∧ ParseAt W a A s w2.heap.size n 1 w1) → Tab a w1) := Lib.hid fun w1 hh => hh.2.2.2.tab
  have H0 : Hid (w5.cell? ⟨w2.heap.size, 0, none⟩ = some (.int .i64 n) ∧ w5.cell? ⟨w2.heap.size, 1, none⟩ = some (.int .i64 1) ∧ w5.cell? ⟨A, 0, none⟩ = some (.string s) ∧ ParseAt W a A s w2.heap.size n 1 w5) := Lib.hid ⟨z0, z1, z2, P5⟩
  go_wp2_with fail
  go_region_held3 (fun w' => w'.cell? ⟨w2.heap.size, 0, none⟩ = some (.int .i64 n) ∧ w'.cell? ⟨w2.heap.size, 1, none⟩ = some (.int .i64 1) ∧ w'.cell? ⟨A, 0, none⟩ = some (.string s) ∧ ParseAt W a A s w2.heap.size n 1 w') (first | exact HS.out _ _ H0.out (Below.refl _ _).drew | exact HS.out _ _ (by assumption) hb4)
    ((go_at_call 45; ((with_reducible refine (TX.out _ ?_).mono ?_); (exact HU.out _ (by assumption)); rintro e w4 ⟨rfl, hb4⟩)))
  all_goals
    rename_i hh4
    have P6 := hh4.2.2.2
    clear z0 z1 z2 hh4
    have r2 := P6.res.2.1; have r3 := P6.res.2.2; have f0 := P6.fr 0; have f1 := P6.fr 1; have z0 := P6.box.2.1; have z1 := P6.box.2.2
    go_wp2_with fail
    refine bodyPost_ret (v := ratV n 1) (by simp [results, Tryz.results46, go_sem, r2, r3]) rfl ⟨rfl, ?_⟩
    exact (P6.bel.setCell (by simp) _).setCell (by simp) _

set_option maxRecDepth 100000 in
set_option maxHeartbeats 1000000 in
theorem Parse1_yes_slash (A : Nat) (s : ByteArray) (a : Addr) (W : World) (hA : A < W.heap.size) (hstr : W.cell? ⟨A, 0, none⟩ = some (.string s)) (ht : Tab a W) (hs : s.size ≤ 1000) (n d : Int) (h1 : Lib.atoiAll (Lib.cut s.data.toList [47]).1 = .ok n) (hh : hasB s = true) (h2 : Lib.atoiAll (Lib.cut s.data.toList [47]).2.1 = .ok d) (ho : Ra.Ok n d) (h : Ra.txt n d = s.data.toList) :
    Calls Tryz.prog 46 #[.pointer (some ⟨A, 0, none⟩)] W fun e W' => e = .returned (ratV n d) ∧ Below W.heap.size W W' := by
  have hcut := fun w => stringsCut_any s w hs
  have R0 := Lib.hid (CutAt.new hA hstr ht)
  have HC := Lib.hid hcut
  have hn := fun w => number_yes (overB s) n w (overB_size hs) h1
  have hm := fun w => number_yes (underB s) d w (underB_size hs) h2
  have HN := Lib.hid hn; have HM := Lib.hid hm
  rw [hh] at hcut
  have HC := Lib.hid hcut
  have hk := fun w => check_yes n d w ho
  have hte : txtB n d = s := by unfold txtB; rw [h]
  have tx := fun w ht => text_any n d w a ht ho
  rw [hte] at tx
  have hne : (s.toList == s.toList) = true := beq_self_eq_true _
  have hne2 : (s.toList != s.toList) = false := by rw [bne, hne]; rfl
  have HK := Lib.hid hk; have TX := Lib.hid tx
  clear hk tx ho h hte
  clear hn hm h1 h2 hs hh
  clear hcut hA hstr ht
  have x0 := R0.out.str
  go_enter Tryz.func46, Tryz.ntmps46
  go_wp2_with fail
  refine (HC.out _).mono ?_; rintro e w1 ⟨rfl, k, rfl⟩
  have R1 := Lib.hid (R0.out.step (below_drewN (Below.refl _ _) k))
  clear x0
  go_wp2_with fail
  refine (HN.out _).mono ?_; rintro e w2 ⟨rfl, g2⟩
  have R2 := Lib.hid (R1.out.step g2)
  go_wp2_with fail
  refine (HM.out _).mono ?_; rintro e w3 ⟨rfl, g3⟩
  obtain ⟨y0, y1, y2⟩ := R2.out.cells g3
  have PP := Lib.hid (R2.out.set g3 d)
  go_wp2_with fail
  clear y0 y1 y2
  refine (HK.out _).mono ?_; rintro e w5 ⟨rfl, g5⟩
  have P5 := PP.out.step g5
  have z0 := P5.box.2.1; have z1 := P5.box.2.2; have z2 := P5.str
  have HS : Hid (∀ w1 w2', (w1.cell? ⟨w2.heap.size, 0, none⟩ = some (.int .i64 n) ∧ w1.cell? ⟨w2.heap.size, 1, none⟩ = some (.int .i64 d) ∧ w1.cell? ⟨A, 0, none⟩ = some (.string s) ∧ ParseAt W a A s w2.heap.size n d w1) → Below w1.heap.size w1 w2' →
      (w2'.cell? ⟨w2.heap.size, 0, none⟩ = some (.int .i64 n) ∧ w2'.cell? ⟨w2.heap.size, 1, none⟩ = some (.int .i64 d) ∧ w2'.cell? ⟨A, 0, none⟩ = some (.string s) ∧ ParseAt W a A s w2.heap.size n d w2')) :=
    Lib.hid fun w1 w2' ⟨_, _, _, hp⟩ hb => ⟨(hp.step hb).box.2.1, (hp.step hb).box.2.2, (hp.step hb).str, hp.step hb⟩
  have HU : Hid (∀ w1, (w1.cell? ⟨w2.heap.size, 0, none⟩ = some (.int .i64 n) ∧ w1.cell? ⟨w2.heap.size, 1, none⟩ = some (.int .i64 d) ∧ w1.cell? ⟨A, 0, none⟩ = some (.string s) ∧ ParseAt W a A s w2.heap.size n d w1) → Tab a w1) := Lib.hid fun w1 hh => hh.2.2.2.tab
  have H0 : Hid (w5.cell? ⟨w2.heap.size, 0, none⟩ = some (.int .i64 n) ∧ w5.cell? ⟨w2.heap.size, 1, none⟩ = some (.int .i64 d) ∧ w5.cell? ⟨A, 0, none⟩ = some (.string s) ∧ ParseAt W a A s w2.heap.size n d w5) := Lib.hid ⟨z0, z1, z2, P5⟩
  go_wp2_with fail
  go_region_held3 (fun w' => w'.cell? ⟨w2.heap.size, 0, none⟩ = some (.int .i64 n) ∧ w'.cell? ⟨w2.heap.size, 1, none⟩ = some (.int .i64 d) ∧ w'.cell? ⟨A, 0, none⟩ = some (.string s) ∧ ParseAt W a A s w2.heap.size n d w') (first | exact HS.out _ _ H0.out (Below.refl _ _).drew | exact HS.out _ _ (by assumption) hb4)
    ((go_at_call 45; ((with_reducible refine (TX.out _ ?_).mono ?_); (exact HU.out _ (by assumption)); rintro e w4 ⟨rfl, hb4⟩)))
  all_goals
    rename_i hh4
    have P6 := hh4.2.2.2
    clear z0 z1 z2 hh4
    have r2 := P6.res.2.1; have r3 := P6.res.2.2; have f0 := P6.fr 0; have f1 := P6.fr 1; have z0 := P6.box.2.1; have z1 := P6.box.2.2
    go_wp2_with fail
    refine bodyPost_ret (v := ratV n d) (by simp [results, Tryz.results46, go_sem, r2, r3]) rfl ⟨rfl, ?_⟩
    exact (P6.bel.setCell (by simp) _).setCell (by simp) _

theorem Parse1_some (A : Nat) (s : ByteArray) (a : Addr) (W : World) (hA : A < W.heap.size) (hstr : W.cell? ⟨A, 0, none⟩ = some (.string s)) (ht : Tab a W) (hs : s.size ≤ 1000) (n d : Int) (h : Ra.parse s.data.toList = some (n, d)) :
    Calls Tryz.prog 46 #[.pointer (some ⟨A, 0, none⟩)] W fun e W' => e = .returned (ratV n d) ∧ Below W.heap.size W W' := by
  unfold Ra.parse Ra.secondN at h
  split at h
  case h_2 => cases h
  rename_i n' h1
  split at h
  case h_2 => cases h
  rename_i d' h2
  split at h
  case isFalse => cases h
  rename_i hok
  injection h with h; injection h with e1 e2; subst e1; subst e2
  split at h2
  · rename_i hh
    exact Parse1_yes_slash A s a W hA hstr ht hs n' d' h1 hh h2 hok.1 hok.2
  · rename_i hh
    injection h2 with h2; subst h2
    exact Parse1_yes_plain A s a W hA hstr ht hs n' h1 (by simpa [hasB] using hh) hok.1 hok.2
theorem Parse1_none (A : Nat) (s : ByteArray) (a : Addr) (W : World) (hA : A < W.heap.size) (hstr : W.cell? ⟨A, 0, none⟩ = some (.string s)) (ht : Tab a W) (hs : s.size ≤ 1000) (h : Ra.parse s.data.toList = none) :
    Calls Tryz.prog 46 #[.pointer (some ⟨A, 0, none⟩)] W fun e W' => e = raised a ∧ Below W.heap.size W W' := by
  rcases h1 : Lib.atoiAll (Lib.cut s.data.toList [47]).1 with n | _ | _
  · have b1 := Lib.atoiAll_bounds h1
    cases hh : hasB s with
    | false =>
      have e : Ra.secondN s.data.toList = .ok 1 := by unfold Ra.secondN; rw [if_neg (by unfold hasB at hh; rw [hh]; decide)]
      by_cases ho : Ra.Ok n 1
      · refine Parse1_other_plain A s a W hA hstr ht hs n h1 hh ho fun ht' => ?_
        have := Ra.parse_iff.2 ⟨ho, ht'⟩; rw [h] at this; cases this
      · exact Parse1_bad_plain A s a W hA hstr ht hs n h1 hh ⟨b1, by unfold Fits; omega⟩ ho
    | true =>
      rcases h2 : Lib.atoiAll (Lib.cut s.data.toList [47]).2.1 with d | _ | _
      · have b2 := Lib.atoiAll_bounds h2
        by_cases ho : Ra.Ok n d
        · refine Parse1_other_slash A s a W hA hstr ht hs n d h1 hh h2 ho fun ht' => ?_
          have := Ra.parse_iff.2 ⟨ho, ht'⟩; rw [h] at this; cases this
        · exact Parse1_bad_slash A s a W hA hstr ht hs n d h1 hh h2 ⟨b1, b2⟩ ho
      · exact Parse1_under A s a W hA hstr ht hs n h1 hh fun v e => by rw [h2] at e; cases e
      · exact Parse1_under A s a W hA hstr ht hs n h1 hh fun v e => by rw [h2] at e; cases e
  · exact Parse1_over A s a W hA hstr ht hs fun v e => by rw [h1] at e; cases e
  · exact Parse1_over A s a W hA hstr ht hs fun v e => by rw [h1] at e; cases e

set_option maxRecDepth 100000 in
set_option maxHeartbeats 400000 in
theorem Parse_any (s : ByteArray) (w : World) (a : Addr) (ht : Tab a w) (hs : s.size ≤ 1000) :
    Calls Tryz.prog 27 #[.string s] w fun e w' => e = .returned (ratRes (Ra.parse s.data.toList)) ∧ Below w.heap.size w w' := by
  have eK := enters_of Tryz.func46 (by kernel_rfl) rfl
  have hmf : ∀ (fn : Fn) (first cap : Array Value) (w : World), (Instr.makeFunc fn first cap).run Tryz.prog w = .ok (.func fn first cap) w := fun _ _ _ _ => rfl
  have l0 : Below w.heap.size w (w.alloc (.cells #[.string s] 9)) := below_new w _
  have l1 : Below w.heap.size w ((w.alloc (.cells #[.string s] 9)).alloc (.cells #[.int .i64 0, .int .i64 0] 25)) := below_step l0 (below_new _ _)
  have hx : ((w.alloc (.cells #[.string s] 9)).alloc (.cells #[.int .i64 0, .int .i64 0] 25)).cell? ⟨w.heap.size, 0, none⟩ = some (.string s) := cell_below (below_new _ _) (by simp [go_sem])
  have hlt : w.heap.size < ((w.alloc (.cells #[.string s] 9)).alloc (.cells #[.int .i64 0, .int .i64 0] 25)).heap.size := by simp; omega
  have ht2 := ht.below l1
  cases h : Ra.parse s.data.toList with
  | some x =>
    obtain ⟨p, q⟩ := x
    show Calls _ _ _ _ fun e w' => e = .returned (.tuple #[ratV p q, .int .i64 0]) ∧ Below w.heap.size w w'
    have hc : ∀ W, Below ((w.alloc (.cells #[.string s] 9)).alloc (.cells #[.int .i64 0, .int .i64 0] 25)).heap.size ((w.alloc (.cells #[.string s] 9)).alloc (.cells #[.int .i64 0, .int .i64 0] 25)) W →
        Calls Tryz.prog 46 #[.pointer (some ⟨w.heap.size, 0, none⟩)] W fun e W' => e = .returned (ratV p q) ∧ Below W.heap.size W W' := fun W hW =>
      Parse1_some _ s a W (Nat.lt_of_lt_of_le hlt hW.size) (cell_below hW hx) (ht2.below hW) hs p q h
    have HC := Lib.hid hc
    clear hc h ht ht2 hx hlt hs l0
    have HL := Lib.hid l1; clear l1
    go_enter Tryz.func27, Tryz.ntmps27
    go_wp2_with fail
    refine (attempt_yes 46 _ p q _ (eK _) HC.out).mono ?_; rintro e w1 ⟨rfl, g1⟩
    have l1 := below_step HL.out g1
    have r0 := (BoxAt.new _ 0 0).below g1
    have fr : ∀ o, w1.frozen? ⟨w.heap.size + 1, o, none⟩ = false := fun o => by
      rw [g1.frozen (p := ⟨w.heap.size + 1, o, none⟩) (by simp)]; simp [go_sem]
    obtain ⟨r1, r2, r3⟩ := r0
    simp only [World.size_alloc] at r1 r2 r3
    go_wp2_with fail
    refine bodyPost_ret (v := .tuple #[ratV p q, .int .i64 0]) (by simp [results, Tryz.results27, go_sem, r2, r3]) rfl ⟨rfl, ?_⟩
    exact (l1.setCell (by simp) _).setCell (by simp) _
  | none =>
    show Calls _ _ _ _ fun e w' => e = .returned (.tuple #[ratV 0 0, .int .i64 30]) ∧ Below w.heap.size w w'
    have hc : ∀ W, Below ((w.alloc (.cells #[.string s] 9)).alloc (.cells #[.int .i64 0, .int .i64 0] 25)).heap.size ((w.alloc (.cells #[.string s] 9)).alloc (.cells #[.int .i64 0, .int .i64 0] 25)) W →
        Calls Tryz.prog 46 #[.pointer (some ⟨w.heap.size, 0, none⟩)] W fun e W' => e = raised a ∧ Below W.heap.size W W' := fun W hW =>
      Parse1_none _ s a W (Nat.lt_of_lt_of_le hlt hW.size) (cell_below hW hx) (ht2.below hW) hs h
    have HC := Lib.hid hc
    have HN := Lib.hid ht2.err
    clear hc h ht ht2 hx hlt hs l0
    have HL := Lib.hid l1; clear l1
    go_enter Tryz.func27, Tryz.ntmps27
    go_wp2_with fail
    refine (attempt_no 46 _ a _ HN.out (eK _) HC.out).mono ?_; rintro e w1 ⟨rfl, g1⟩
    have l1 := below_step HL.out g1
    have r0 := (BoxAt.new _ 0 0).below g1
    have fr : ∀ o, w1.frozen? ⟨w.heap.size + 1, o, none⟩ = false := fun o => by
      rw [g1.frozen (p := ⟨w.heap.size + 1, o, none⟩) (by simp)]; simp [go_sem]
    obtain ⟨r1, r2, r3⟩ := r0
    simp only [World.size_alloc] at r1 r2 r3
    go_wp2_with fail
    refine bodyPost_ret (v := .tuple #[ratV 0 0, .int .i64 30]) (by simp [results, Tryz.results27, go_sem, r2, r3]) rfl ⟨rfl, ?_⟩
    exact (l1.setCell (by simp) _).setCell (by simp) _
end Go.Proofs.YtkkhmgcjaehnkaaGreatDoor
