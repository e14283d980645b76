/-
  The reader in memory; contracts of its word, skip, number and span.
-/
import Derived.Test.YtcaclijkkbhfhaaGreatDoorLibs
import Derived.OneCell
namespace Go.Proofs.YtcaclijkkbhfhaaGreatDoor
open Go.RowKit Go.Shelf

/-! ### a world with new blocks, and block R written -/
abbrev Only (R : Nat) (w w' : World) : Prop := w.grownBy w' (some R)
theorem Only.refl (R : Nat) (w : World) : Only R w w := ⟨rfl, rfl, rfl, Nat.le_refl _, fun _ _ _ => rfl⟩
theorem Only.trans {R : Nat} {a b c : World} (h : Only R a b) (k : Only R b c) : Only R a c :=
  ⟨k.os.trans h.os, k.tape.trans h.tape, k.output.trans h.output, Nat.le_trans h.size k.size, fun i hi hr => (k.block i (Nat.lt_of_lt_of_le hi h.size) hr).trans (h.block i hi hr)⟩
theorem Only.ofBelow {R : Nat} {w w' : World} (h : Below w.heap.size w w') : Only R w w' := ⟨h.os, h.tape, h.output, h.size, fun k hk _ => h.block k hk⟩
theorem Only.setCell {R : Nat} {a w : World} (h : Only R a w) (o : Nat) (u : Value) : Only R a (w.setCell ⟨R, o, none⟩ u) :=
  h.trans ⟨rfl, rfl, rfl, by simp [World.setCell], fun k _ hr => Below.heap_setCell _ _ _ _ (by intro e; exact hr (by rw [e]))⟩
theorem Only.below {R : Nat} {w w' : World} (h : Only R w w') {B : Nat} (hB : B ≤ w.heap.size) (hR : B ≤ R) : Below B w w' := ⟨h.os, h.tape, h.output, h.size, fun k hk => h.block k (by omega) (by intro e; injection e with e; omega)⟩
theorem Only.step {R : Nat} {a b c : World} (h : Only R a b) (k : Below b.heap.size b c) : Only R a c := h.trans (Only.ofBelow k)
theorem Only.cell {R : Nat} {w w' : World} (h : Only R w w') {p : Addr} {v : Value} (hc : w.cell? p = some v) (hp : p.block ≠ R) : w'.cell? p = some v := World.grownBy.cell h hc (by intro e; injection e with e; exact hp e)

/-! ### the reader -/
structure Rd where
  least : Int
  most : Int
  sv : Value
  wv : Value
  line : Int
  last : List UInt8
  r : Fl.Rest
abbrev rdCells (c : Rd) : Array Value := #[.int .i64 c.least, .int .i64 c.most, c.sv, c.wv, .int .i64 c.line, .string (bs c.last), .string (bs (c.r.getD [])), .bool c.r.isSome]
def RdAt (w : World) (R : Nat) (c : Rd) : Prop := w.heap[R]? = some (.cells (rdCells c) 76)
theorem RdAt.lt {w : World} {R : Nat} {c : Rd} (h : RdAt w R c) : R < w.heap.size := lt_of_block h
theorem RdAt.cell {w : World} {R : Nat} {c : Rd} (h : RdAt w R c) (o : Nat) (v : Value) (hv : (rdCells c)[o]? = some v) : w.cell? ⟨R, o, none⟩ = some v := by
  unfold RdAt at h; simp only [World.cell?, h]; exact hv
theorem RdAt.fz {w : World} {R : Nat} {c : Rd} (h : RdAt w R c) (o : Nat) : w.frozen? ⟨R, o, none⟩ = false := by unfold RdAt at h; simp [World.frozen?, h]
theorem RdAt.below {w w' : World} {R : Nat} {c : Rd} (h : RdAt w R c) (hb : Below w.heap.size w w') : RdAt w' R c := by
  unfold RdAt at *; rw [hb.block R (lt_of_block h)]; exact h
theorem block_set {w : World} {b o : Nat} {cs : Array Value} {t : TypeId} (h : w.heap[b]? = some (.cells cs t)) (u : Value) : (w.setCell ⟨b, o, none⟩ u).heap[b]? = some (.cells (cs.setIfInBounds o u) t) := by
  have hlt := lt_of_block h
  have h' : w.heap[b] = .cells cs t (0, 0) := by simpa [Array.getElem?_eq_getElem hlt] using h
  show (w.heap.modify b _)[b]? = _
  rw [Array.getElem?_eq_getElem (by simpa using hlt), Array.getElem_modify_self, h']
  rfl
theorem RdAt.set {w : World} {R : Nat} {c c' : Rd} (h : RdAt w R c) (o : Nat) (u : Value) (hc : (rdCells c).setIfInBounds o u = rdCells c') : RdAt (w.setCell ⟨R, o, none⟩ u) R c' := by
  unfold RdAt; rw [block_set h u, hc]

/-- What a word leaves. -/
def tailR (s : List UInt8) : Fl.Rest := if (Lib.cut s [32]).2.2 = true then some (Lib.cut s [32]).2.1 else none
theorem tailR_some (s : List UInt8) : (tailR s).isSome = (Lib.cut s [32]).2.2 := by unfold tailR; split <;> simp_all
theorem tailR_get (s : List UInt8) : (tailR s).getD [] = (Lib.cut s [32]).2.1 := by
  unfold tailR; split
  · rfl
  · rename_i h; unfold Lib.cut at h ⊢; split
    · rename_i h'; rw [if_pos h'] at h; simp at h
    · rfl
theorem tailR_len (s : List UInt8) : ((tailR s).getD []).length ≤ s.length := by
  rw [tailR_get]; unfold Lib.cut; split <;> simp
theorem cut_len1 (s sep : List UInt8) : (Lib.cut s sep).1.length ≤ s.length := by unfold Lib.cut; split <;> simp; omega
theorem cut_len2 (s sep : List UInt8) : (Lib.cut s sep).2.1.length ≤ s.length := by unfold Lib.cut; split <;> simp

/-- The call has raised the error, at the line where it stood. -/
def Fails (a : Addr) (R : Nat) (c : Rd) (w : World) (e : Ending) (w' : World) : Prop := e = raised a ∧ Only R w w' ∧ ∃ c', RdAt w' R c' ∧ c'.line = c.line
/-- The call has returned v, the reader reads as c'. -/
def Reads (R : Nat) (v : Value) (c' : Rd) (w : World) (e : Ending) (w' : World) : Prop := e = .returned v ∧ Only R w w' ∧ RdAt w' R c'
/-- The condition of the reader's methods. -/
structure RdOk (a : Addr) (R : Nat) (c : Rd) (w : World) : Prop where
  tab : Tab a w
  at_ : RdAt w R c
  ge : 7 ≤ R
  len : (c.r.getD []).length ≤ 1000000
theorem RdOk.only {a : Addr} {R : Nat} {c c' : Rd} {w w' : World} (h : RdOk a R c w) (ho : Only R w w') (h' : RdAt w' R c') (hl : (c'.r.getD []).length ≤ 1000000) : RdOk a R c' w' :=
  ⟨h.tab.grown h.ge ho, h', h.ge, hl⟩
theorem RdOk.below {a : Addr} {R : Nat} {c : Rd} {w w' : World} (h : RdOk a R c w) (hb : Below w.heap.size w w') : RdOk a R c w' := ⟨h.tab.below hb, h.at_.below hb, h.ge, h.len⟩

set_option maxRecDepth 100000 in
theorem word_none (c : Rd) (R : Nat) (a : Addr) (w : World) (h : RdOk a R c w) (hr : c.r = none) :
    Calls Tryz.prog 79 #[.pointer (some ⟨R, 0, none⟩)] w (Fails a R c w) := by
  have z := h.at_.cell 7 (.bool false) (by rw [rdCells, hr]; rfl)
  have H := Lib.hid h
  have HN := Lib.hid (fun w ht => require_no w a ht)
  clear h hr
  go_enter Tryz.func79, Tryz.ntmps79
  go_wp2_with fail
  refine (HN.out _ H.out.tab).mono ?_; rintro e w1 ⟨rfl, rfl⟩
  go_wp2_with fail
  exact ⟨rfl, rfl, Only.refl _ _, _, H.out.at_, rfl⟩

set_option maxRecDepth 100000 in
theorem word_some (c : Rd) (s : List UInt8) (R : Nat) (a : Addr) (w : World) (h : RdOk a R c w) (hr : c.r = some s) :
    Calls Tryz.prog 79 #[.pointer (some ⟨R, 0, none⟩)] w (Reads R (.string (bs (Lib.cut s [32]).1)) { c with r := tailR s } w) := by
  have z7 := h.at_.cell 7 (.bool true) (by rw [rdCells, hr]; rfl)
  have z6 := h.at_.cell 6 (.string (bs s)) (by rw [rdCells, hr]; rfl)
  have hl := h.len
  rw [hr] at hl
  have HC := Lib.hid (fun w ht => cut_any (bs s) (bs [32]) w a ht (by rw [bs_size]; exact hl))
  have H := Lib.hid h
  have hset : (((rdCells c).setIfInBounds 6 (.string (bs (Lib.cut s [32]).2.1))).setIfInBounds 7 (.bool (Lib.cut s [32]).2.2)) = rdCells { c with r := tailR s } := by
    unfold rdCells; simp [tailR_some, tailR_get]
  have HS := Lib.hid hset
  clear h hr hl hset
  unfold Reads
  go_enter Tryz.func79, Tryz.ntmps79
  go_wp2_with fail
  refine (require_yes _).mono ?_; rintro e w1 ⟨rfl, rfl⟩
  go_wp2_with fail
  refine (HC.out _ H.out.tab).mono ?_; rintro e w1 ⟨rfl, g1⟩
  have R1 := Lib.hid (H.out.at_.below g1)
  have f6 := R1.out.fz 6; have f7 := R1.out.fz 7
  have k6 := R1.out.cell 6 _ rfl; have k7 := R1.out.cell 7 _ rfl
  have G1 := Lib.hid g1
  clear g1 z6 z7
  go_wp2_with fail
  go_ret
  refine ⟨rfl, ((Only.ofBelow G1.out).setCell 6 _).setCell 7 _, ?_⟩
  unfold RdAt
  rw [block_set (block_set R1.out _) _, HS.out]

set_option maxRecDepth 100000 in
theorem skip_any (x : List UInt8) (c : Rd) (R : Nat) (a : Addr) (w : World) (h : RdOk a R c w) :
    Calls Tryz.prog 104 #[.pointer (some ⟨R, 0, none⟩), .string (bs x)] w
      (match c.r with | none => Fails a R c w | some s => if (Lib.cut s [32]).1 = x then Reads R (.tuple #[]) { c with r := tailR s } w else Fails a R c w) := by
  have H := Lib.hid h
  cases hr : c.r with
  | none =>
    have HW := Lib.hid (word_none c R a w h hr)
    clear h hr
    simp only
    unfold Fails at *
    go_enter Tryz.func104, Tryz.ntmps104
    go_wp2_with fail
    refine HW.out.mono ?_; rintro e w1 ⟨rfl, o1, c', r1, l1⟩
    go_wp2_with fail
    exact ⟨rfl, rfl, o1, c', r1, l1⟩
  | some s =>
    have HW := Lib.hid (word_some c s R a w h hr)
    have hl := h.len
    rw [hr] at hl
    have HL := Lib.hid (show ((tailR s).getD []).length ≤ 1000000 from Nat.le_trans (tailR_len s) hl)
    have HN := Lib.hid (fun w ht => require_no w a ht)
    simp only
    by_cases hx : (Lib.cut s [32]).1 = x
    · rw [if_pos hx]
      have e1 : ((Lib.cut s [32]).1 == x) = true := by rw [hx]; simp
      clear h hr hl hx
      unfold Reads at *
      go_enter Tryz.func104, Tryz.ntmps104
      go_wp2_with fail
      refine HW.out.mono ?_; rintro e w1 ⟨rfl, o1, r1⟩
      have O1 := Lib.hid o1; have R1 := Lib.hid r1; clear o1 r1
      go_wp2_with fail
      refine (require_yes _).mono ?_; rintro e w2 ⟨rfl, rfl⟩
      go_wp2_with fail
      go_end0
      exact ⟨rfl, O1.out, R1.out⟩
    · rw [if_neg hx]
      have e1 : ((Lib.cut s [32]).1 == x) = false := by simpa using hx
      clear h hr hl hx
      unfold Reads Fails at *
      go_enter Tryz.func104, Tryz.ntmps104
      go_wp2_with fail
      refine HW.out.mono ?_; rintro e w1 ⟨rfl, o1, r1⟩
      have O1 := Lib.hid o1; have R1 := Lib.hid r1; clear o1 r1
      go_wp2_with fail
      refine (HN.out _ (H.out.only O1.out R1.out HL.out).tab).mono ?_; rintro e w2 ⟨rfl, rfl⟩
      go_wp2_with fail
      exact ⟨rfl, rfl, O1.out, _, R1.out, rfl⟩

set_option maxRecDepth 100000 in
theorem rNumber_any (c : Rd) (R : Nat) (a : Addr) (w : World) (h : RdOk a R c w) :
    Calls Tryz.prog 103 #[.pointer (some ⟨R, 0, none⟩)] w
      (match c.r with | none => Fails a R c w | some s => match Fl.number (Lib.cut s [32]).1 with | none => Fails a R c w | some n => Reads R (.int .i64 n) { c with r := tailR s } w) := by
  have H := Lib.hid h
  cases hr : c.r with
  | none =>
    have HW := Lib.hid (word_none c R a w h hr)
    clear h hr
    simp only
    unfold Fails at *
    go_enter Tryz.func103, Tryz.ntmps103
    go_wp2_with fail
    refine HW.out.mono ?_; rintro e w1 ⟨rfl, o1, c', r1, l1⟩
    go_wp2_with fail
    exact ⟨rfl, rfl, o1, c', r1, l1⟩
  | some s =>
    have HW := Lib.hid (word_some c s R a w h hr)
    have hl := h.len
    rw [hr] at hl
    have HL := Lib.hid (show ((tailR s).getD []).length ≤ 1000000 from Nat.le_trans (tailR_len s) hl)
    have hl1 : (bs (Lib.cut s [32]).1).size ≤ 1000000 := by rw [bs_size]; exact Nat.le_trans (cut_len1 _ _) hl
    simp only
    cases hn : Fl.number (Lib.cut s [32]).1 with
    | some n =>
      have HN := Lib.hid (fun w ht => number_yes (bs (Lib.cut s [32]).1) n w a ht hl1 hn)
      clear h hr hl hl1 hn
      simp only
      unfold Reads at *
      go_enter Tryz.func103, Tryz.ntmps103
      go_wp2_with fail
      refine HW.out.mono ?_; rintro e w1 ⟨rfl, o1, r1⟩
      have O1 := Lib.hid o1; have R1 := Lib.hid r1; clear o1 r1
      go_wp2_with fail
      refine (HN.out _ (H.out.only O1.out R1.out HL.out).tab).mono ?_; rintro e w2 ⟨rfl, g2⟩
      have O2 := Lib.hid (O1.out.step g2); have R2 := Lib.hid (R1.out.below g2); clear g2
      go_wp2_with fail
      go_ret
      exact ⟨rfl, O2.out, R2.out⟩
    | none =>
      have HN := Lib.hid (fun w ht => number_no (bs (Lib.cut s [32]).1) w a ht hl1 hn)
      clear h hr hl hl1 hn
      simp only
      unfold Reads Fails at *
      go_enter Tryz.func103, Tryz.ntmps103
      go_wp2_with fail
      refine HW.out.mono ?_; rintro e w1 ⟨rfl, o1, r1⟩
      have O1 := Lib.hid o1; have R1 := Lib.hid r1; clear o1 r1
      go_wp2_with fail
      refine (HN.out _ (H.out.only O1.out R1.out HL.out).tab).mono ?_; rintro e w2 ⟨rfl, g2⟩
      have O2 := Lib.hid (O1.out.step g2); have R2 := Lib.hid (R1.out.below g2); clear g2
      go_wp2_with fail
      exact ⟨rfl, rfl, O2.out, _, R2.out, rfl⟩
end Go.Proofs.YtcaclijkkbhfhaaGreatDoor
