/-
  The comparison of two facts.
-/
import Derived.Test.YtnmjcjkjdbkpnaaDoorNu
namespace Go.Proofs.YtnmjcjkjdbkpnaaDoor
open Go.RowKit Go.Shelf Fc
theorem ba_beq (a b : ByteArray) : (a == b) = decide (a = b) := by
  rw [beq_toListBytes]
  by_cases h : a = b
  · subst h; simp
  · simp only [h, decide_false]
    rw [beq_eq_false_iff_ne]
    intro h2
    rw [ByteArray.toList_eq, ByteArray.toList_eq] at h2
    exact h (ByteArray.ext (Array.toList_inj.1 h2))
set_option maxRecDepth 100000 in
theorem factFields : (Tryd.prog.fieldsOf 23).toList.map (fun f => (f.name, f.type, f.offset)) = [("Kind", 3, 0), ("ID", 3, 1), ("Version", 3, 2), ("Day", 3, 3), ("Gone", 4, 4), ("Time", 3, 5), ("Until", 3, 6), ("Wafer", 3, 7), ("Other", 3, 8), ("Lot", 3, 9), ("Product", 3, 10), ("Tool", 3, 11), ("Chamber", 3, 12), ("Step", 3, 13), ("Recipe", 3, 14), ("Revision", 3, 15), ("Value", 3, 16), ("Parties", 3, 17), ("Text", 9, 18)] := by kernel_rfl
theorem eqF_int {d : Nat} {xs ys : Array Value} {f : Field} {fs : List Field} {n : String} {o : Nat} {a b : Int} {w : World} (hf : (f.name, f.type, f.offset) = (n, 3, o)) (hn : n ≠ "_") (hx : xs[o]? = some (.int .i64 a)) (hy : ys[o]? = some (.int .i64 b)) :
    (Op.eqFields (d + 1) xs ys (f :: fs)).run Tryd.prog w = if a = b then (Op.eqFields (d + 1) xs ys fs).run Tryd.prog w else .ok false w := by
  injection hf with h1 h2; injection h2 with h2 h3
  subst h1
  have hp : ∀ zs : Array Value, ∀ v : Value, zs[o]? = some v → (part f.type zs f.offset).run Tryd.prog w = .ok v w := fun zs v hv => by
    rw [h2, h3]; simp [part, isAgg, run_underlying Tryd.underlying3, hv]
  have he : (Op.equalIn (d + 1) f.type (.int .i64 a) (.int .i64 b)).run Tryd.prog w = .ok (a == b) w := by
    rw [h2]; simp [Op.equalIn, run_underlying Tryd.underlying3, Result.andThen]
  simp only [Op.eqFields]
  rw [if_pos hn]
  simp only [Sem.run_bind, hp xs _ hx, hp ys _ hy, he, Result.andThen_ok]
  by_cases h : a = b
  · rw [if_pos h]; simp [h]
  · rw [if_neg h]; simp [h]
theorem eqF_bool {d : Nat} {xs ys : Array Value} {f : Field} {fs : List Field} {n : String} {o : Nat} {a b : Bool} {w : World} (hf : (f.name, f.type, f.offset) = (n, 4, o)) (hn : n ≠ "_") (hx : xs[o]? = some (.bool a)) (hy : ys[o]? = some (.bool b)) :
    (Op.eqFields (d + 1) xs ys (f :: fs)).run Tryd.prog w = if a = b then (Op.eqFields (d + 1) xs ys fs).run Tryd.prog w else .ok false w := by
  injection hf with h1 h2; injection h2 with h2 h3
  subst h1
  have hp : ∀ zs : Array Value, ∀ v : Value, zs[o]? = some v → (part f.type zs f.offset).run Tryd.prog w = .ok v w := fun zs v hv => by
    rw [h2, h3]; simp [part, isAgg, run_underlying Tryd.underlying4, hv]
  have he : (Op.equalIn (d + 1) f.type (.bool a) (.bool b)).run Tryd.prog w = .ok (a == b) w := by
    rw [h2]; simp [Op.equalIn, run_underlying Tryd.underlying4, Result.andThen]
  simp only [Op.eqFields]
  rw [if_pos hn]
  simp only [Sem.run_bind, hp xs _ hx, hp ys _ hy, he, Result.andThen_ok]
  by_cases h : a = b
  · rw [if_pos h]; simp [h]
  · rw [if_neg h]; simp [h]
theorem eqF_str {d : Nat} {xs ys : Array Value} {f : Field} {fs : List Field} {n : String} {o : Nat} {a b : ByteArray} {w : World} (hf : (f.name, f.type, f.offset) = (n, 9, o)) (hn : n ≠ "_") (hx : xs[o]? = some (.string a)) (hy : ys[o]? = some (.string b)) :
    (Op.eqFields (d + 1) xs ys (f :: fs)).run Tryd.prog w = if a = b then (Op.eqFields (d + 1) xs ys fs).run Tryd.prog w else .ok false w := by
  injection hf with h1 h2; injection h2 with h2 h3
  subst h1
  have hp : ∀ zs : Array Value, ∀ v : Value, zs[o]? = some v → (part f.type zs f.offset).run Tryd.prog w = .ok v w := fun zs v hv => by
    rw [h2, h3]; simp [part, isAgg, run_underlying Tryd.underlying9, hv]
  have he : (Op.equalIn (d + 1) f.type (.string a) (.string b)).run Tryd.prog w = .ok (decide (a = b)) w := by
    rw [h2]; simp [Op.equalIn, run_underlying Tryd.underlying9, Result.andThen, ba_beq]
  simp only [Op.eqFields]
  rw [if_pos hn]
  simp only [Sem.run_bind, hp xs _ hx, hp ys _ hy, he, Result.andThen_ok]
  by_cases h : a = b
  · rw [if_pos h]; simp [h]
  · rw [if_neg h]; simp [h]
theorem eqF_all {d : Nat} {xs ys : Array Value} {w : World} : (Op.eqFields d xs ys []).run Tryd.prog w = .ok true w := rfl
set_option maxRecDepth 100000 in
theorem eq_fact (d : Nat) (A B : Fact) (w : World) : (Op.eqFields (d + 1) (factC A) (factC B) (Tryd.prog.fieldsOf 23).toList).run Tryd.prog w = .ok (decide (A = B)) w := by
  have hf := factFields
  generalize (Tryd.prog.fieldsOf 23).toList = fs at *
  have no : ∀ {p : Prop} [Decidable p], (A = B → p) → ¬ p → (.ok false w : Result Bool) = .ok (decide (A = B)) w := fun hp hn => by rw [decide_eq_false (fun e => hn (hp e))]
  obtain ⟨f0, fs, rfl, h0, hf⟩ := List.map_eq_cons_iff.1 hf
  rw [eqF_int h0 (by decide) (a := A.k) (b := B.k) rfl rfl]
  by_cases e0 : A.k = B.k
  case neg => rw [if_neg e0]; exact no (fun e => by rw [e]) e0
  rw [if_pos e0]
  obtain ⟨f1, fs, rfl, h1, hf⟩ := List.map_eq_cons_iff.1 hf
  rw [eqF_int h1 (by decide) (a := A.id) (b := B.id) rfl rfl]
  by_cases e1 : A.id = B.id
  case neg => rw [if_neg e1]; exact no (fun e => by rw [e]) e1
  rw [if_pos e1]
  obtain ⟨f2, fs, rfl, h2, hf⟩ := List.map_eq_cons_iff.1 hf
  rw [eqF_int h2 (by decide) (a := A.v) (b := B.v) rfl rfl]
  by_cases e2 : A.v = B.v
  case neg => rw [if_neg e2]; exact no (fun e => by rw [e]) e2
  rw [if_pos e2]
  obtain ⟨f3, fs, rfl, h3, hf⟩ := List.map_eq_cons_iff.1 hf
  rw [eqF_int h3 (by decide) (a := A.d) (b := B.d) rfl rfl]
  by_cases e3 : A.d = B.d
  case neg => rw [if_neg e3]; exact no (fun e => by rw [e]) e3
  rw [if_pos e3]
  obtain ⟨f4, fs, rfl, h4, hf⟩ := List.map_eq_cons_iff.1 hf
  rw [eqF_bool h4 (by decide) (a := A.gone) (b := B.gone) rfl rfl]
  by_cases e4 : A.gone = B.gone
  case neg => rw [if_neg e4]; exact no (fun e => by rw [e]) e4
  rw [if_pos e4]
  obtain ⟨f5, fs, rfl, h5, hf⟩ := List.map_eq_cons_iff.1 hf
  rw [eqF_int h5 (by decide) (a := A.ti) (b := B.ti) rfl rfl]
  by_cases e5 : A.ti = B.ti
  case neg => rw [if_neg e5]; exact no (fun e => by rw [e]) e5
  rw [if_pos e5]
  obtain ⟨f6, fs, rfl, h6, hf⟩ := List.map_eq_cons_iff.1 hf
  rw [eqF_int h6 (by decide) (a := A.un) (b := B.un) rfl rfl]
  by_cases e6 : A.un = B.un
  case neg => rw [if_neg e6]; exact no (fun e => by rw [e]) e6
  rw [if_pos e6]
  obtain ⟨f7, fs, rfl, h7, hf⟩ := List.map_eq_cons_iff.1 hf
  rw [eqF_int h7 (by decide) (a := A.w) (b := B.w) rfl rfl]
  by_cases e7 : A.w = B.w
  case neg => rw [if_neg e7]; exact no (fun e => by rw [e]) e7
  rw [if_pos e7]
  obtain ⟨f8, fs, rfl, h8, hf⟩ := List.map_eq_cons_iff.1 hf
  rw [eqF_int h8 (by decide) (a := A.ot) (b := B.ot) rfl rfl]
  by_cases e8 : A.ot = B.ot
  case neg => rw [if_neg e8]; exact no (fun e => by rw [e]) e8
  rw [if_pos e8]
  obtain ⟨f9, fs, rfl, h9, hf⟩ := List.map_eq_cons_iff.1 hf
  rw [eqF_int h9 (by decide) (a := A.lo) (b := B.lo) rfl rfl]
  by_cases e9 : A.lo = B.lo
  case neg => rw [if_neg e9]; exact no (fun e => by rw [e]) e9
  rw [if_pos e9]
  obtain ⟨f10, fs, rfl, h10, hf⟩ := List.map_eq_cons_iff.1 hf
  rw [eqF_int h10 (by decide) (a := A.pr) (b := B.pr) rfl rfl]
  by_cases e10 : A.pr = B.pr
  case neg => rw [if_neg e10]; exact no (fun e => by rw [e]) e10
  rw [if_pos e10]
  obtain ⟨f11, fs, rfl, h11, hf⟩ := List.map_eq_cons_iff.1 hf
  rw [eqF_int h11 (by decide) (a := A.tl) (b := B.tl) rfl rfl]
  by_cases e11 : A.tl = B.tl
  case neg => rw [if_neg e11]; exact no (fun e => by rw [e]) e11
  rw [if_pos e11]
  obtain ⟨f12, fs, rfl, h12, hf⟩ := List.map_eq_cons_iff.1 hf
  rw [eqF_int h12 (by decide) (a := A.ch) (b := B.ch) rfl rfl]
  by_cases e12 : A.ch = B.ch
  case neg => rw [if_neg e12]; exact no (fun e => by rw [e]) e12
  rw [if_pos e12]
  obtain ⟨f13, fs, rfl, h13, hf⟩ := List.map_eq_cons_iff.1 hf
  rw [eqF_int h13 (by decide) (a := A.st) (b := B.st) rfl rfl]
  by_cases e13 : A.st = B.st
  case neg => rw [if_neg e13]; exact no (fun e => by rw [e]) e13
  rw [if_pos e13]
  obtain ⟨f14, fs, rfl, h14, hf⟩ := List.map_eq_cons_iff.1 hf
  rw [eqF_int h14 (by decide) (a := A.rc) (b := B.rc) rfl rfl]
  by_cases e14 : A.rc = B.rc
  case neg => rw [if_neg e14]; exact no (fun e => by rw [e]) e14
  rw [if_pos e14]
  obtain ⟨f15, fs, rfl, h15, hf⟩ := List.map_eq_cons_iff.1 hf
  rw [eqF_int h15 (by decide) (a := A.rv) (b := B.rv) rfl rfl]
  by_cases e15 : A.rv = B.rv
  case neg => rw [if_neg e15]; exact no (fun e => by rw [e]) e15
  rw [if_pos e15]
  obtain ⟨f16, fs, rfl, h16, hf⟩ := List.map_eq_cons_iff.1 hf
  rw [eqF_int h16 (by decide) (a := A.va) (b := B.va) rfl rfl]
  by_cases e16 : A.va = B.va
  case neg => rw [if_neg e16]; exact no (fun e => by rw [e]) e16
  rw [if_pos e16]
  obtain ⟨f17, fs, rfl, h17, hf⟩ := List.map_eq_cons_iff.1 hf
  rw [eqF_int h17 (by decide) (a := A.pa) (b := B.pa) rfl rfl]
  by_cases e17 : A.pa = B.pa
  case neg => rw [if_neg e17]; exact no (fun e => by rw [e]) e17
  rw [if_pos e17]
  obtain ⟨f18, fs, rfl, h18, hf⟩ := List.map_eq_cons_iff.1 hf
  rw [eqF_str h18 (by decide) (a := A.tx) (b := B.tx) rfl rfl]
  by_cases e18 : A.tx = B.tx
  case neg => rw [if_neg e18]; exact no (fun e => by rw [e]) e18
  rw [if_pos e18]
  obtain rfl := List.map_eq_nil_iff.1 hf
  rw [eqF_all]
  have : A = B := by cases A; cases B; simp only at *; simp only [*]
  rw [decide_eq_true this]
theorem factInfo : (Tryd.prog.info? 23).map (·.size) = some 19 := by kernel_rfl
theorem run_loadFact {w : World} {b : Nat} {F : Fact} (h : w.heap[b]? = some (factObj F)) : (loadVar 23 ⟨b, 0, none⟩).run Tryd.prog w = .ok (factV F) w :=
  run_loadVar_row w b 23 23 (factC F) (0, 0) _ h Tryd.underlying23 rfl factInfo
section
variable {F : Fence} {n : Nat} {ops : Array Oper} {rest : List Oper} {o : Oper} {a : Act} {w : World} {Q : Exit → Act → World → Prop}
theorem wpListIn_load_fact (hgd : o.guard = none) (x : Operand) (ho : o.op = .load 23 x) (b : Nat) (hx : a.eval x = .pointer (some ⟨b, 0, none⟩)) (G : Fact) (h : w.heap[b]? = some (factObj G))
    (hK : wpListIn F n Tryd.prog ops Q rest (a.put o.dst (factV G)) w) : wpListIn F n Tryd.prog ops Q (o :: rest) a w := by
  refine wpListIn_plain hgd fun _ hK2 => ?_
  refine ⟨?_, ?_⟩
  · simp [Oper.about, ho]
  · rw [Oper.semAt_plain F _ _ (by rw [ho]; intro c hc; cases hc)]
    simp only [execOp, ho, hx, Instr.loadAt, Instr.sureAddr, Sem.run_bind, Sem.run_pure, Result.andThen_ok, run_loadFact h]
    exact hK2 _ _ hK
theorem wp_load_fact {K : Act → World → Prop} (x : Operand) (ho : o.op = .load 23 x) (b : Nat) (hx : a.eval x = .pointer (some ⟨b, 0, none⟩)) (G : Fact) (h : w.heap[b]? = some (factObj G))
    (hK : K (a.put o.dst (factV G)) w) : o.wp Tryd.prog a w K Q :=
  wp_load_row 23 x ho b hx 23 (factC G) (0, 0) _ h Tryd.underlying23 rfl factInfo hK
theorem wpList_load_fact (hgd : o.guard = none) (x : Operand) (ho : o.op = .load 23 x) (b : Nat) (hx : a.eval x = .pointer (some ⟨b, 0, none⟩)) (G : Fact) (h : w.heap[b]? = some (factObj G))
    (hK : wpList Tryd.prog ops Q rest (a.put o.dst (factV G)) w) : wpList Tryd.prog ops Q (o :: rest) a w :=
  wpList_load_row hgd 23 x ho b hx 23 (factC G) (0, 0) _ h Tryd.underlying23 rfl factInfo hK
end
theorem guardFact : Tryd.prog.eqGuardType Tryd.prog.depth 23 = false := by kernel_rfl
theorem run_factGuard (op : BinOp) (x y : Operand) (xs ys : Array Value) (w : World) : (eqGuard op 23 x y (.agg xs) (.agg ys)).run Tryd.prog w = .ok () w := run_eqGuard_agg w op 23 x y xs ys guardFact
theorem run_factEq (A B : Fact) (w : World) : (Go.binOp .eql 23 (factV A) (factV B)).run Tryd.prog w = .ok (.bool (decide (A = B))) w := by
  rw [run_eql_struct]
  have h := run_equalIn_struct w 9999 23 (factC A) (factC B) (P := Tryd.prog) (by kernel_rfl) (by kernel_rfl)
  have h2 := eq_fact 9998 A B w
  rw [show (10000 : Nat) = 9999 + 1 from rfl, h, h2]
  rfl
theorem run_factNe (A B : Fact) (w : World) : (Go.binOp .neq 23 (factV A) (factV B)).run Tryd.prog w = .ok (.bool (!decide (A = B))) w := by
  rw [run_neq_struct]
  have h := run_equalIn_struct w 9999 23 (factC A) (factC B) (P := Tryd.prog) (by kernel_rfl) (by kernel_rfl)
  have h2 := eq_fact 9998 A B w
  rw [show (10000 : Nat) = 9999 + 1 from rfl, h, h2]
  rfl
end Go.Proofs.YtnmjcjkjdbkpnaaDoor
