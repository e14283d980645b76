/-
  Contract of the reader's readStep (written by tools/l04_rstep.py).
-/
import Derived.Test.YtcaclijkkbhfhaaGreatDoorLoc
import Derived.Deep.RegionHeld3
import Derived.Deep.RegionLaw
namespace Go.Proofs.YtcaclijkkbhfhaaGreatDoor
open Go.RowKit Go.Shelf

def backOf (r : Fl.Rest) : Option ((Int × Int) × Fl.Rest) := match r with
  | none => some ((-1, 0), none)
  | some s => (skipOf Fl.wBack (some s)).bind fun r => (numOf r).bind fun p => (skipOf Fl.wLimit p.2).bind fun r => (numOf r).bind fun l => some ((p.1, l.1), l.2)
theorem back_eq (r : Fl.Rest) : Fl.readBack r = backOf r := by
  cases r with
  | none => rfl
  | some s => simp only [Fl.readBack, backOf, skip_eq, num_eq]
def stepOf (f : Fl.Flow) (r : Fl.Rest) : Option (Fl.Flow × Fl.Rest) :=
  (numOf r).bind fun p1 => if p1.1 = f.steps.length then
    (skipOf Fl.wRecipe p1.2).bind fun r2 => (numOf r2).bind fun p3 => (skipOf Fl.wTools p3.2).bind fun r4 => (wordOf r4).bind fun p5 => (Fl.numbers p5.1 8).bind fun tools =>
    (skipOf Fl.wTime p5.2).bind fun r6 => (twoOf r6).bind fun p7 => (skipOf Fl.wNext p7.2).bind fun r8 => (wordOf r8).bind fun p9 => (Fl.readNext p9.1).bind fun next =>
    (backOf p9.2).bind fun pb =>
      if Fl.vSteps 40 (f.steps ++ [⟨p3.1, tools, p7.1.1, p7.1.2, next, pb.1.1, pb.1.2⟩]) = true then some ({ f with steps := f.steps ++ [⟨p3.1, tools, p7.1.1, p7.1.2, next, pb.1.1, pb.1.2⟩] }, pb.2) else none
  else none
theorem step_eq (f : Fl.Flow) (r : Fl.Rest) : Fl.readStep f r = stepOf f r := by
  simp only [Fl.readStep, stepOf, num_eq, skip_eq, word_eq, two_eq, back_eq]
theorem box_cell {w : World} {b : Nat} {cs : Array Value} {t : TypeId} (h : w.heap[b]? = some (.cells cs t)) (o : Nat) (v : Value) (hv : cs[o]? = some v) : w.cell? ⟨b, o, none⟩ = some v := by
  simp only [World.cell?, h]; exact hv
theorem box_fz {w : World} {b : Nat} {cs : Array Value} {t : TypeId} (h : w.heap[b]? = some (.cells cs t)) (o : Nat) : w.frozen? ⟨b, o, none⟩ = false := by simp [World.frozen?, h]


def s18 (f : Fl.Flow) (st : Fl.Step) (r : Fl.Rest) : Option (Fl.Flow × Fl.Rest) := if Fl.vSteps 40 (f.steps ++ [st]) = true then some ({ f with steps := f.steps ++ [st] }, r) else none
def s16 (f : Fl.Flow) (rc : Int) (t : List Int) (a b : Int) (nx : List Int) (bk : Int) (r : Fl.Rest) : Option (Fl.Flow × Fl.Rest) := (numOf r).bind fun p => s18 f ⟨rc, t, a, b, nx, bk, p.1⟩ p.2
def s15 (f : Fl.Flow) (rc : Int) (t : List Int) (a b : Int) (nx : List Int) (bk : Int) (r : Fl.Rest) : Option (Fl.Flow × Fl.Rest) := (skipOf Fl.wLimit r).bind (s16 f rc t a b nx bk)
def s14 (f : Fl.Flow) (rc : Int) (t : List Int) (a b : Int) (nx : List Int) (r : Fl.Rest) : Option (Fl.Flow × Fl.Rest) := (numOf r).bind fun p => s15 f rc t a b nx p.1 p.2
def s13b (f : Fl.Flow) (rc : Int) (t : List Int) (a b : Int) (nx : List Int) (r : Fl.Rest) : Option (Fl.Flow × Fl.Rest) := (skipOf Fl.wBack r).bind (s14 f rc t a b nx)
def s13 (f : Fl.Flow) (rc : Int) (t : List Int) (a b : Int) (nx : List Int) (r : Fl.Rest) : Option (Fl.Flow × Fl.Rest) := (backOf r).bind fun pb => s18 f ⟨rc, t, a, b, nx, pb.1.1, pb.1.2⟩ pb.2
def s12 (f : Fl.Flow) (rc : Int) (t : List Int) (a b : Int) (z : List UInt8) (r : Fl.Rest) : Option (Fl.Flow × Fl.Rest) := (Fl.readNext z).bind fun nx => s13 f rc t a b nx r
def s11 (f : Fl.Flow) (rc : Int) (t : List Int) (a b : Int) (r : Fl.Rest) : Option (Fl.Flow × Fl.Rest) := (wordOf r).bind fun p => s12 f rc t a b p.1 p.2
def s10 (f : Fl.Flow) (rc : Int) (t : List Int) (a b : Int) (r : Fl.Rest) : Option (Fl.Flow × Fl.Rest) := (skipOf Fl.wNext r).bind (s11 f rc t a b)
def s9 (f : Fl.Flow) (rc : Int) (t : List Int) (r : Fl.Rest) : Option (Fl.Flow × Fl.Rest) := (twoOf r).bind fun p => s10 f rc t p.1.1 p.1.2 p.2
def s8 (f : Fl.Flow) (rc : Int) (t : List Int) (r : Fl.Rest) : Option (Fl.Flow × Fl.Rest) := (skipOf Fl.wTime r).bind (s9 f rc t)
def s7 (f : Fl.Flow) (rc : Int) (z : List UInt8) (r : Fl.Rest) : Option (Fl.Flow × Fl.Rest) := (Fl.numbers z 8).bind fun t => s8 f rc t r
def s6 (f : Fl.Flow) (rc : Int) (r : Fl.Rest) : Option (Fl.Flow × Fl.Rest) := (wordOf r).bind fun p => s7 f rc p.1 p.2
def s5 (f : Fl.Flow) (rc : Int) (r : Fl.Rest) : Option (Fl.Flow × Fl.Rest) := (skipOf Fl.wTools r).bind (s6 f rc)
def s4 (f : Fl.Flow) (r : Fl.Rest) : Option (Fl.Flow × Fl.Rest) := (numOf r).bind fun p => s5 f p.1 p.2
def s3 (f : Fl.Flow) (r : Fl.Rest) : Option (Fl.Flow × Fl.Rest) := (skipOf Fl.wRecipe r).bind (s4 f)
def s2 (f : Fl.Flow) (n : Int) (r : Fl.Rest) : Option (Fl.Flow × Fl.Rest) := if n = f.steps.length then s3 f r else none
def s1 (f : Fl.Flow) (r : Fl.Rest) : Option (Fl.Flow × Fl.Rest) := (numOf r).bind fun p => s2 f p.1 p.2
theorem step_s1 (f : Fl.Flow) (r : Fl.Rest) : stepOf f r = s1 f r := rfl
theorem s13_none (f : Fl.Flow) (rc : Int) (t : List Int) (a b : Int) (nx : List Int) : s13 f rc t a b nx none = s18 f ⟨rc, t, a, b, nx, -1, 0⟩ none := rfl
theorem s13_some (f : Fl.Flow) (rc : Int) (t : List Int) (a b : Int) (nx : List Int) (s : List UInt8) : s13 f rc t a b nx (some s) = s13b f rc t a b nx (some s) := by
  unfold s13 backOf s13b
  simp only
  cases skipOf Fl.wBack (some s) with
  | none => rfl
  | some r =>
    simp only [Option.bind_some, s14]
    cases numOf r with
    | none => rfl
    | some p =>
      simp only [Option.bind_some, s15]
      cases skipOf Fl.wLimit p.2 with
      | none => rfl
      | some r =>
        simp only [Option.bind_some, s16]
        cases numOf r <;> rfl
theorem Holds.le {B R : Nat} {c : Rd} {q : FlowP} {w : World} (h : Holds B R c q w) : B ≤ w.heap.size := Nat.le_trans h.ge (Nat.le_of_lt h.at_.lt)
theorem vs_pushed {B R : Nat} {c : Rd} {q : FlowP} {p : StepP} {g cap : Nat} {w : World} (hH : Holds B R c { q with P := q.P ++ [p], sa := some ⟨g, 0, none⟩, sc := cap } w) :
    Calls Tryz.prog 30 #[.slice (some ⟨g, 0, none⟩) (q.P.length + 1) cap, .int .i64 40] w fun e w' => e = .returned (.bool (Fl.vSteps 40 (q.f.steps ++ [p.s]))) ∧ Below w.heap.size w w' := by
  have h := validSteps_any (q.P ++ [p]) 40 (some ⟨g, 0, none⟩) cap w hH.ok.1 (fun _ => by omega)
  rw [List.length_append, List.length_singleton] at h
  have e : stepsOf (q.P ++ [p]) = q.f.steps ++ [p.s] := by simp [FlowP.f]
  rw [e] at h; exact h
theorem step_fail {a : Addr} {B R : Nat} {c c' : Rd} {q : FlowP} {p : StepP} {r : Fl.Rest} {X : Option (Fl.Flow × Fl.Rest)} {W w : World} (hX : X = s18 q.f p.s r) (hV : Fl.vSteps 40 (q.f.steps ++ [p.s]) = false) (hok : RdOk a R c' w) (hf : Fr B R W w) (hl : c'.line = c.line) :
    RdPost a B R c X W (raised a) w := by
  have : X = none := by rw [hX, s18, if_neg (by rw [hV]; decide)]
  rw [this]; exact ⟨rfl, hf, _, hok.at_, hl⟩
theorem step_done {a : Addr} {B R : Nat} {c c' : Rd} {q : FlowP} {p : StepP} {g cap : Nat} {r : Fl.Rest} {X : Option (Fl.Flow × Fl.Rest)} {W w : World} (hX : X = s18 q.f p.s r) (hV : Fl.vSteps 40 (q.f.steps ++ [p.s]) = true) (hok : RdOk a R c' w)
    (hh : Holds B R c' { q with P := q.P ++ [p], sa := some ⟨g, 0, none⟩, sc := cap } w) (hf : Fr B R W w) (h20 : 7 ≤ B) (hwl : q.W.length ≤ 20) (hl : c'.line = c.line) (hr : c'.r = r) (hla : c'.last = c.last) :
    RdPost a B R c X W (.returned (.tuple #[])) w := by
  have : X = some ({ q.f with steps := q.f.steps ++ [p.s] }, r) := by rw [hX, s18, if_pos hV]
  rw [this]
  refine ⟨rfl, hf, c', _, ⟨hok, hh, h20, ?_, hwl⟩, ?_, hr, hl, hla⟩
  · unfold Fl.vSteps at hV; simp [FlowP.f] at hV; simp; omega
  · simp [FlowP.f]
theorem nums_no {z : List UInt8} {a : Addr} {w : World} (most : Nat) (ht : Tab a w) (hz : z.length ≤ 1000000) (h1 : 1 ≤ most) (h2 : most ≤ 1000) (h : Fl.numbers z most = none) :
    Calls Tryz.prog 105 #[.string (bs z), .int .i64 most] w fun e w' => e = raised a ∧ Below w.heap.size w w' := by
  have := numbers_any (bs z) most w a ht (by rw [bs_size]; exact hz) h1 h2
  rw [bs_list, h] at this; exact this
theorem info_step : (Tryz.prog.info? 55).map (fun i => (i.zero, i.size, i.bytes)) = some (some (.agg #[.int .i64 0, .slice none 0 0, .int .i64 0, .int .i64 0, .slice none 0 0, .int .i64 0, .int .i64 0]), 7, 88) := by kernel_rfl
def NumsYes (w : World) (L : List Int) (e : Ending) (w' : World) : Prop := ∃ a c, e = .returned (.slice a L.length c) ∧ IntOwn w' w.heap.size (.slice a L.length c) L ∧ Below w.heap.size w w'
theorem nums_yes {z : List UInt8} {a : Addr} {w : World} {L : List Int} (most : Nat) (ht : Tab a w) (hz : z.length ≤ 1000000) (h1 : 1 ≤ most) (h2 : most ≤ 1000) (h : Fl.numbers z most = some L) :
    Calls Tryz.prog 105 #[.string (bs z), .int .i64 most] w (NumsYes w L) := by
  have := numbers_any (bs z) most w a ht (by rw [bs_size]; exact hz) h1 h2
  rw [bs_list, h] at this
  refine this.mono fun e w' ⟨⟨v, he, ho⟩, hb⟩ => ?_
  obtain ⟨a', c', rfl, _, _⟩ := ho.arg
  exact ⟨a', c', he, ho, hb⟩

set_option maxRecDepth 100000 in
set_option maxHeartbeats 4000000 in
theorem readStep_any (a : Addr) (B R : Nat) (c : Rd) (q : FlowP) (W : World) (h : In a B R c q W) :
    Calls Tryz.prog 92 #[.pointer (some ⟨R, 0, none⟩)] W (RdPost a B R c (Fl.readStep q.f c.r) W) := by
  rw [step_eq]
  rw [step_s1]
  obtain ⟨X, HX⟩ : ∃ X, Hid (X = s1 q.f c.r) := ⟨_, Lib.hid rfl⟩
  rw [← HX.out]
  have hl1 : q.P.length ≤ maxLen := Nat.le_trans h.holds.ok.1.1 h.holds.ok.1.2.1
  unfold maxLen at hl1
  have L0 := Lib.hid (Loc.new h #[.int .i64 0, .slice none 0 0, .int .i64 0, .int .i64 0, .slice none 0 0, .int .i64 (-1), .int .i64 0])
  have HN := Lib.hid (fun w ht => require_no w a ht)
  have HF := Lib.hid (show q.f.steps.length = q.P.length by simp [FlowP.f])
  clear h
  go_enter Tryz.func92, Tryz.ntmps92
  go_wp2_with fail
  generalize W.alloc (.cells #[.int .i64 0, .slice none 0 0, .int .i64 0, .int .i64 0, .slice none 0 0, .int .i64 (-1), .int .i64 0] 55) = w0 at *
  have hR2 : w0.cell? ⟨R, 2, none⟩ = some (.slice q.sa q.P.length q.sc) := by have h0 := L0.out.inn.ok.at_.cell 2 c.sv rfl; rw [L0.out.inn.holds.sv] at h0; exact h0
  have SR := Lib.hid hR2; clear hR2
  have LD := Lib.hid (L0.out.below (Below.refl w0.heap.size w0).drew)
  rcases h1 : numOf c.r with _ | ⟨n, r1⟩
  · have HC := Lib.hid (num_no LD.out.inn h1)
    have E1 := Lib.hid h1; clear h1
    refine wp_region_held_drew (S := (fun v => v.cell? ⟨R, 2, none⟩ = some (.slice q.sa q.P.length q.sc))) (by kernel_rfl) (SR.out) (fun hHeld => ?_)
    refine wpAnyH_take (i := 0) (oi := { dst := some 5, op := Op.move (Operand.tmp 0), type := 74, pos := "read.go:88", after := #[], guard := none }) (v := ?va0) rfl (by kernel_rfl) (by kernel_rfl) (by kernel_rfl) (fun _ _ _ h => h) (Or.inl ⟨by rfl, ?ya0⟩) (by assumption) ?ta0
    case ya0 => (intro w hSw; try dsimp only at hSw); go_simp; try with_reducible rfl
    simp only [Act.put, List.setIfInBounds_toArray, List.set_cons_zero, List.set_cons_succ]
    refine wpAnyH_take (i := 2) (oi := { dst := some 7, op := Op.move (Operand.tmp 0), type := 74, pos := "read.go:88", after := #[], guard := none }) (v := ?va2) rfl (by kernel_rfl) (by kernel_rfl) (by kernel_rfl) (fun _ _ _ h => h) (Or.inl ⟨by rfl, ?ya2⟩) (by assumption) ?ta2
    case ya2 => (intro w hSw; try dsimp only at hSw); go_simp; try with_reducible rfl
    simp only [Act.put, List.setIfInBounds_toArray, List.set_cons_zero, List.set_cons_succ]
    refine wpAnyH_take (i := 3) (oi := { dst := some 8, op := Op.nilCheck (Operand.tmp 7), type := 0, pos := "read.go:88", after := #[{ on := 2, ground := Ground.data }], guard := none }) (v := ?va3) rfl (by kernel_rfl) (by kernel_rfl) (by kernel_rfl) (fun _ _ _ h => h) (Or.inl ⟨by rfl, ?ya3⟩) (by assumption) ?ta3
    case ya3 => (intro w hSw; try dsimp only at hSw); go_simp; try with_reducible rfl
    simp only [Act.put, List.setIfInBounds_toArray, List.set_cons_zero, List.set_cons_succ]
    refine wpAnyH_take (i := 4) (oi := { dst := some 9, op := Op.fieldAddr 76 (Operand.tmp 8) 0, type := 0, pos := "read.go:88", after := #[{ on := 3, ground := Ground.data }], guard := none }) (v := ?va4) rfl (by kernel_rfl) (by kernel_rfl) (by kernel_rfl) (fun _ _ _ h => h) (Or.inl ⟨by rfl, ?ya4⟩) (by assumption) ?ta4
    case ya4 => (intro w hSw; try dsimp only at hSw); go_simp; try with_reducible rfl
    simp only [Act.put, List.setIfInBounds_toArray, List.set_cons_zero, List.set_cons_succ]
    refine wpAnyH_take (i := 5) (oi := { dst := some 10, op := Op.fieldAddr 25 (Operand.tmp 9) 2, type := 0, pos := "read.go:88", after := #[{ on := 4, ground := Ground.data }], guard := none }) (v := ?va5) rfl (by kernel_rfl) (by kernel_rfl) (by kernel_rfl) (fun _ _ _ h => h) (Or.inl ⟨by rfl, ?ya5⟩) (by assumption) ?ta5
    case ya5 => (intro w hSw; try dsimp only at hSw); go_simp; try with_reducible rfl
    simp only [Act.put, List.setIfInBounds_toArray, List.set_cons_zero, List.set_cons_succ]
    refine wpAnyH_take (i := 6) (oi := { dst := some 11, op := Op.load 22 (Operand.tmp 10), type := 22, pos := "read.go:88", after := #[{ on := 5, ground := Ground.data }], guard := none }) (v := ?va6) rfl (by kernel_rfl) (by kernel_rfl) (by kernel_rfl) (fun _ _ _ h => h) (Or.inl ⟨by rfl, ?ya6⟩) (by assumption) ?ta6
    case ya6 => (intro w hSw; try dsimp only at hSw); go_simp; try with_reducible rfl
    simp only [Act.put, List.setIfInBounds_toArray, List.set_cons_zero, List.set_cons_succ]
    refine wpAnyH_take (i := 7) (oi := { dst := some 12, op := Op.call { callee := Callee.builtin Go.Builtin.len, args := #[Operand.tmp 11], argTypes := #[22] }, type := 3, pos := "read.go:88", after := #[{ on := 6, ground := Ground.data }], guard := none }) (v := ?va7) rfl (by kernel_rfl) (by kernel_rfl) (by kernel_rfl) (fun _ _ _ h => h) (Or.inl ⟨by rfl, ?ya7⟩) (by assumption) ?ta7
    case ya7 => (intro w hSw; try dsimp only at hSw); go_simp; try with_reducible rfl
    simp only [Act.put, List.setIfInBounds_toArray, List.set_cons_zero, List.set_cons_succ]
    refine wpAnyH_ready (rs := [1]) (by kernel_rfl) (by simp) ?_
    refine AllReadyH.cons (o := { dst := some 6, op := Op.call { callee := Callee.value (Operand.func 103), args := #[Operand.tmp 5], argTypes := #[74] }, type := 3, pos := "read.go:88", after := #[{ on := 0, ground := Ground.data }], guard := none }) rfl (fun K hK => ?_) AllReadyH.nil
    go_simp
    refine HC.out.mono ?_; rintro e w2 ⟨rfl, f2, c2, r2, l2⟩
    have hX : X = none := by rw [HX.out, s1, E1.out]; rfl
    exact ⟨rfl, by rw [hX]; exact LD.out.bad rfl ⟨rfl, f2, c2, r2, l2⟩⟩
  have HC := Lib.hid (num_yes LD.out.inn h1)
  have E1 := Lib.hid h1; clear h1
  by_cases hn : n = q.P.length
  rotate_left
  · have hn' : ((n : Int) == (q.P.length : Int)) = false := by simpa using hn
    have hXn : X = none := by rw [HX.out, s1, E1.out]; simp only [Option.bind_some, s2]; rw [if_neg (by rw [HF.out]; exact hn)]
    have HXN := Lib.hid hXn; clear hXn hn
    refine wp_region_held_drew (S := (fun v => v.cell? ⟨R, 2, none⟩ = some (.slice q.sa q.P.length q.sc))) (by kernel_rfl) (SR.out) (fun hHeld => ?_)
    refine wpAnyH_take (i := 0) (oi := { dst := some 5, op := Op.move (Operand.tmp 0), type := 74, pos := "read.go:88", after := #[], guard := none }) (v := ?vb0) rfl (by kernel_rfl) (by kernel_rfl) (by kernel_rfl) (fun _ _ _ h => h) (Or.inl ⟨by rfl, ?yb0⟩) (by assumption) ?tb0
    case yb0 => (intro w hSw; try dsimp only at hSw); go_simp; try with_reducible rfl
    simp only [Act.put, List.setIfInBounds_toArray, List.set_cons_zero, List.set_cons_succ]
    refine wpAnyH_take (i := 2) (oi := { dst := some 7, op := Op.move (Operand.tmp 0), type := 74, pos := "read.go:88", after := #[], guard := none }) (v := ?vb2) rfl (by kernel_rfl) (by kernel_rfl) (by kernel_rfl) (fun _ _ _ h => h) (Or.inl ⟨by rfl, ?yb2⟩) (by assumption) ?tb2
    case yb2 => (intro w hSw; try dsimp only at hSw); go_simp; try with_reducible rfl
    simp only [Act.put, List.setIfInBounds_toArray, List.set_cons_zero, List.set_cons_succ]
    refine wpAnyH_take (i := 3) (oi := { dst := some 8, op := Op.nilCheck (Operand.tmp 7), type := 0, pos := "read.go:88", after := #[{ on := 2, ground := Ground.data }], guard := none }) (v := ?vb3) rfl (by kernel_rfl) (by kernel_rfl) (by kernel_rfl) (fun _ _ _ h => h) (Or.inl ⟨by rfl, ?yb3⟩) (by assumption) ?tb3
    case yb3 => (intro w hSw; try dsimp only at hSw); go_simp; try with_reducible rfl
    simp only [Act.put, List.setIfInBounds_toArray, List.set_cons_zero, List.set_cons_succ]
    refine wpAnyH_take (i := 4) (oi := { dst := some 9, op := Op.fieldAddr 76 (Operand.tmp 8) 0, type := 0, pos := "read.go:88", after := #[{ on := 3, ground := Ground.data }], guard := none }) (v := ?vb4) rfl (by kernel_rfl) (by kernel_rfl) (by kernel_rfl) (fun _ _ _ h => h) (Or.inl ⟨by rfl, ?yb4⟩) (by assumption) ?tb4
    case yb4 => (intro w hSw; try dsimp only at hSw); go_simp; try with_reducible rfl
    simp only [Act.put, List.setIfInBounds_toArray, List.set_cons_zero, List.set_cons_succ]
    refine wpAnyH_take (i := 5) (oi := { dst := some 10, op := Op.fieldAddr 25 (Operand.tmp 9) 2, type := 0, pos := "read.go:88", after := #[{ on := 4, ground := Ground.data }], guard := none }) (v := ?vb5) rfl (by kernel_rfl) (by kernel_rfl) (by kernel_rfl) (fun _ _ _ h => h) (Or.inl ⟨by rfl, ?yb5⟩) (by assumption) ?tb5
    case yb5 => (intro w hSw; try dsimp only at hSw); go_simp; try with_reducible rfl
    simp only [Act.put, List.setIfInBounds_toArray, List.set_cons_zero, List.set_cons_succ]
    refine wpAnyH_take (i := 6) (oi := { dst := some 11, op := Op.load 22 (Operand.tmp 10), type := 22, pos := "read.go:88", after := #[{ on := 5, ground := Ground.data }], guard := none }) (v := ?vb6) rfl (by kernel_rfl) (by kernel_rfl) (by kernel_rfl) (fun _ _ _ h => h) (Or.inl ⟨by rfl, ?yb6⟩) (by assumption) ?tb6
    case yb6 => (intro w hSw; try dsimp only at hSw); go_simp; try with_reducible rfl
    simp only [Act.put, List.setIfInBounds_toArray, List.set_cons_zero, List.set_cons_succ]
    refine wpAnyH_take (i := 7) (oi := { dst := some 12, op := Op.call { callee := Callee.builtin Go.Builtin.len, args := #[Operand.tmp 11], argTypes := #[22] }, type := 3, pos := "read.go:88", after := #[{ on := 6, ground := Ground.data }], guard := none }) (v := ?vb7) rfl (by kernel_rfl) (by kernel_rfl) (by kernel_rfl) (fun _ _ _ h => h) (Or.inl ⟨by rfl, ?yb7⟩) (by assumption) ?tb7
    case yb7 => (intro w hSw; try dsimp only at hSw); go_simp; try with_reducible rfl
    simp only [Act.put, List.setIfInBounds_toArray, List.set_cons_zero, List.set_cons_succ]
    refine wpAnyH_ready (rs := [1]) (by kernel_rfl) (by simp) ?_
    refine AllReadyH.cons (o := { dst := some 6, op := Op.call { callee := Callee.value (Operand.func 103), args := #[Operand.tmp 5], argTypes := #[74] }, type := 3, pos := "read.go:88", after := #[{ on := 0, ground := Ground.data }], guard := none }) rfl (fun K hK => ?_) AllReadyH.nil
    go_simp
    refine HC.out.mono ?_; rintro e w1 ⟨rfl, o1, i1⟩
    have L1 : Hid (Loc a B R { c with r := r1 } q W #[.int .i64 0, .slice none 0 0, .int .i64 0, .int .i64 0, .slice none 0 0, .int .i64 (-1), .int .i64 0] [] w1) := Lib.hid (LD.out.only o1 i1)
    clear o1 i1
    refine hK.out _ _ (by have h0 := L1.out.inn.ok.at_.cell 2 c.sv rfl; rw [L0.out.inn.holds.sv] at h0; exact h0) (fun hHeld' => ?_)
    clear hK K hHeld
    have hHeld := hHeld'; clear hHeld'
    try simp only [Act.put, List.setIfInBounds_toArray, List.set_cons_zero, List.set_cons_succ]
    refine wpAnyH_take (i := 8) (oi := { dst := some 13, op := Op.binOp BinOp.eql 3 (Operand.tmp 6) (Operand.tmp 12) 3, type := 4, pos := "read.go:88", after := #[{ on := 1, ground := Ground.data }, { on := 7, ground := Ground.data }], guard := none }) (v := ?vb8) rfl (by kernel_rfl) (by kernel_rfl) (by kernel_rfl) (fun _ _ _ h => h) (Or.inl ⟨by rfl, ?yb8⟩) (by assumption) ?tb8
    case yb8 => (intro w hSw; try dsimp only at hSw); go_simp; try with_reducible rfl
    simp only [Act.put, List.setIfInBounds_toArray, List.set_cons_zero, List.set_cons_succ]
    refine wpAnyH_ready (rs := [9]) (by kernel_rfl) (by simp) ?_
    refine AllReadyH.cons (o := { dst := some 14, op := Op.call { callee := Callee.value (Operand.func 63), args := #[Operand.tmp 13], argTypes := #[4] }, type := 0, pos := "read.go:88", after := #[{ on := 8, ground := Ground.data }, { on := 1, ground := Ground.chain }], guard := none }) rfl (fun K hK => ?_) AllReadyH.nil
    go_simp
    refine (HN.out _ L1.out.inn.ok.tab).mono ?_; rintro e w2 ⟨rfl, rfl⟩
    exact ⟨rfl, by rw [HXN.out]; exact L1.out.bad rfl ⟨rfl, Fr.refl _ _ _, _, L1.out.inn.ok.at_, rfl⟩⟩
  have hn' : ((n : Int) == (q.P.length : Int)) = true := by simpa using hn
  have EN := Lib.hid (show n = (q.f.steps.length : Int) by rw [HF.out]; exact hn); clear hn
  refine wp_region_held_drew (S := (fun v => v.cell? ⟨R, 2, none⟩ = some (.slice q.sa q.P.length q.sc))) (by kernel_rfl) (SR.out) (fun hHeld => ?_)
  refine wpAnyH_take (i := 0) (oi := { dst := some 5, op := Op.move (Operand.tmp 0), type := 74, pos := "read.go:88", after := #[], guard := none }) (v := ?vc0) rfl (by kernel_rfl) (by kernel_rfl) (by kernel_rfl) (fun _ _ _ h => h) (Or.inl ⟨by rfl, ?yc0⟩) (by assumption) ?tc0
  case yc0 => (intro w hSw; try dsimp only at hSw); go_simp; try with_reducible rfl
  simp only [Act.put, List.setIfInBounds_toArray, List.set_cons_zero, List.set_cons_succ]
  refine wpAnyH_take (i := 2) (oi := { dst := some 7, op := Op.move (Operand.tmp 0), type := 74, pos := "read.go:88", after := #[], guard := none }) (v := ?vc2) rfl (by kernel_rfl) (by kernel_rfl) (by kernel_rfl) (fun _ _ _ h => h) (Or.inl ⟨by rfl, ?yc2⟩) (by assumption) ?tc2
  case yc2 => (intro w hSw; try dsimp only at hSw); go_simp; try with_reducible rfl
  simp only [Act.put, List.setIfInBounds_toArray, List.set_cons_zero, List.set_cons_succ]
  refine wpAnyH_take (i := 3) (oi := { dst := some 8, op := Op.nilCheck (Operand.tmp 7), type := 0, pos := "read.go:88", after := #[{ on := 2, ground := Ground.data }], guard := none }) (v := ?vc3) rfl (by kernel_rfl) (by kernel_rfl) (by kernel_rfl) (fun _ _ _ h => h) (Or.inl ⟨by rfl, ?yc3⟩) (by assumption) ?tc3
  case yc3 => (intro w hSw; try dsimp only at hSw); go_simp; try with_reducible rfl
  simp only [Act.put, List.setIfInBounds_toArray, List.set_cons_zero, List.set_cons_succ]
  refine wpAnyH_take (i := 4) (oi := { dst := some 9, op := Op.fieldAddr 76 (Operand.tmp 8) 0, type := 0, pos := "read.go:88", after := #[{ on := 3, ground := Ground.data }], guard := none }) (v := ?vc4) rfl (by kernel_rfl) (by kernel_rfl) (by kernel_rfl) (fun _ _ _ h => h) (Or.inl ⟨by rfl, ?yc4⟩) (by assumption) ?tc4
  case yc4 => (intro w hSw; try dsimp only at hSw); go_simp; try with_reducible rfl
  simp only [Act.put, List.setIfInBounds_toArray, List.set_cons_zero, List.set_cons_succ]
  refine wpAnyH_take (i := 5) (oi := { dst := some 10, op := Op.fieldAddr 25 (Operand.tmp 9) 2, type := 0, pos := "read.go:88", after := #[{ on := 4, ground := Ground.data }], guard := none }) (v := ?vc5) rfl (by kernel_rfl) (by kernel_rfl) (by kernel_rfl) (fun _ _ _ h => h) (Or.inl ⟨by rfl, ?yc5⟩) (by assumption) ?tc5
  case yc5 => (intro w hSw; try dsimp only at hSw); go_simp; try with_reducible rfl
  simp only [Act.put, List.setIfInBounds_toArray, List.set_cons_zero, List.set_cons_succ]
  refine wpAnyH_take (i := 6) (oi := { dst := some 11, op := Op.load 22 (Operand.tmp 10), type := 22, pos := "read.go:88", after := #[{ on := 5, ground := Ground.data }], guard := none }) (v := ?vc6) rfl (by kernel_rfl) (by kernel_rfl) (by kernel_rfl) (fun _ _ _ h => h) (Or.inl ⟨by rfl, ?yc6⟩) (by assumption) ?tc6
  case yc6 => (intro w hSw; try dsimp only at hSw); go_simp; try with_reducible rfl
  simp only [Act.put, List.setIfInBounds_toArray, List.set_cons_zero, List.set_cons_succ]
  refine wpAnyH_take (i := 7) (oi := { dst := some 12, op := Op.call { callee := Callee.builtin Go.Builtin.len, args := #[Operand.tmp 11], argTypes := #[22] }, type := 3, pos := "read.go:88", after := #[{ on := 6, ground := Ground.data }], guard := none }) (v := ?vc7) rfl (by kernel_rfl) (by kernel_rfl) (by kernel_rfl) (fun _ _ _ h => h) (Or.inl ⟨by rfl, ?yc7⟩) (by assumption) ?tc7
  case yc7 => (intro w hSw; try dsimp only at hSw); go_simp; try with_reducible rfl
  simp only [Act.put, List.setIfInBounds_toArray, List.set_cons_zero, List.set_cons_succ]
  refine wpAnyH_ready (rs := [1]) (by kernel_rfl) (by simp) ?_
  refine AllReadyH.cons (o := { dst := some 6, op := Op.call { callee := Callee.value (Operand.func 103), args := #[Operand.tmp 5], argTypes := #[74] }, type := 3, pos := "read.go:88", after := #[{ on := 0, ground := Ground.data }], guard := none }) rfl (fun K hK => ?_) AllReadyH.nil
  go_simp
  refine HC.out.mono ?_; rintro e w1 ⟨rfl, o1, i1⟩
  have L1 : Hid (Loc a B R { c with r := r1 } q W #[.int .i64 0, .slice none 0 0, .int .i64 0, .int .i64 0, .slice none 0 0, .int .i64 (-1), .int .i64 0] [] w1) := Lib.hid (LD.out.only o1 i1)
  clear o1 i1
  refine hK.out _ _ (by have h0 := L1.out.inn.ok.at_.cell 2 c.sv rfl; rw [L0.out.inn.holds.sv] at h0; exact h0) (fun hHeld' => ?_)
  clear hK K hHeld
  have hHeld := hHeld'; clear hHeld'
  try simp only [Act.put, List.setIfInBounds_toArray, List.set_cons_zero, List.set_cons_succ]
  refine wpAnyH_take (i := 8) (oi := { dst := some 13, op := Op.binOp BinOp.eql 3 (Operand.tmp 6) (Operand.tmp 12) 3, type := 4, pos := "read.go:88", after := #[{ on := 1, ground := Ground.data }, { on := 7, ground := Ground.data }], guard := none }) (v := ?vc8) rfl (by kernel_rfl) (by kernel_rfl) (by kernel_rfl) (fun _ _ _ h => h) (Or.inl ⟨by rfl, ?yc8⟩) (by assumption) ?tc8
  case yc8 => (intro w hSw; try dsimp only at hSw); go_simp; try with_reducible rfl
  simp only [Act.put, List.setIfInBounds_toArray, List.set_cons_zero, List.set_cons_succ]
  refine wpAnyH_ready (rs := [9]) (by kernel_rfl) (by simp) ?_
  refine AllReadyH.cons (o := { dst := some 14, op := Op.call { callee := Callee.value (Operand.func 63), args := #[Operand.tmp 13], argTypes := #[4] }, type := 0, pos := "read.go:88", after := #[{ on := 8, ground := Ground.data }, { on := 1, ground := Ground.chain }], guard := none }) rfl (fun K hK => ?_) AllReadyH.nil
  go_simp
  refine (require_yes _).mono ?_; rintro e w2 ⟨rfl, rfl⟩
  refine hK.out _ _ (hHeld) (fun hHeld' => ?_)
  clear hK K hHeld
  have hHeld := hHeld'; clear hHeld'
  try simp only [Act.put, List.setIfInBounds_toArray, List.set_cons_zero, List.set_cons_succ]
  have HX := Lib.hid (show X = s3 q.f r1 by rw [HX.out, s1, E1.out]; simp only [Option.bind_some, s2]; rw [if_pos EN.out])
  refine wpAnyH_done (by kernel_rfl) ?_ _
  clear SR LD HC L0 hHeld hn'
  have BASE := Lib.hid L1.out.inn.lt
  go_wp2_with fail
  rcases h2 : skipOf Fl.wRecipe r1 with _ | r2
  · have HC := Lib.hid (skip_no (x := Fl.wRecipe) L1.out.inn h2)
    have E2 := Lib.hid h2; clear h2
    refine HC.out.mono ?_; rintro e w2 ⟨rfl, f2, c2, r2, l2⟩
    go_wp2_with fail
    have hX : X = none := by rw [HX.out, s3, E2.out]; rfl
    exact ⟨rfl, by rw [hX]; exact L1.out.bad rfl ⟨rfl, f2, c2, r2, l2⟩⟩
  have HC := Lib.hid (skip_yes (x := Fl.wRecipe) L1.out.inn h2)
  have E2 := Lib.hid h2; clear h2
  refine HC.out.mono ?_; rintro e w2 ⟨rfl, o2, i2⟩
  have L2 : Hid (Loc a B R { c with r := r2 } q W #[.int .i64 0, .slice none 0 0, .int .i64 0, .int .i64 0, .slice none 0 0, .int .i64 (-1), .int .i64 0] [] w2) := Lib.hid (L1.out.only o2 i2)
  clear o2 i2 HC L1
  have HX := Lib.hid (show X = s4 q.f r2 by rw [HX.out, s3, E2.out]; rfl)
  go_wp2_with fail
  rcases h3 : numOf r2 with _ | ⟨recipe, r3⟩
  · have HC := Lib.hid (num_no L2.out.inn h3)
    have E3 := Lib.hid h3; clear h3
    refine HC.out.mono ?_; rintro e w2 ⟨rfl, f2, c2, r2, l2⟩
    go_wp2_with fail
    have hX : X = none := by rw [HX.out, s4, E3.out]; rfl
    exact ⟨rfl, by rw [hX]; exact L2.out.bad rfl ⟨rfl, f2, c2, r2, l2⟩⟩
  have HC := Lib.hid (num_yes L2.out.inn h3)
  have E3 := Lib.hid h3; clear h3
  refine HC.out.mono ?_; rintro e w3 ⟨rfl, o2, i2⟩
  have L3 : Hid (Loc a B R { c with r := r3 } q W #[.int .i64 0, .slice none 0 0, .int .i64 0, .int .i64 0, .slice none 0 0, .int .i64 (-1), .int .i64 0] [] w3) := Lib.hid (L2.out.only o2 i2)
  clear o2 i2 HC L2
  have HX := Lib.hid (show X = s5 q.f recipe r3 by rw [HX.out, s4, E3.out]; rfl)
  have b0 := box_cell L3.out.box 0 _ rfl; have z0 := box_fz L3.out.box 0
  go_wp2_with fail
  clear b0 z0
  have L4 : Hid (Loc a B R { c with r := r3 } q W #[.int .i64 recipe, .slice none 0 0, .int .i64 0, .int .i64 0, .slice none 0 0, .int .i64 (-1), .int .i64 0] [] ((w3).setCell ⟨W.heap.size, 0, none⟩ (.int .i64 recipe))) := Lib.hid ((L3.out).set 0 (.int .i64 recipe))
  clear L3
  generalize (w3).setCell ⟨W.heap.size, 0, none⟩ (.int .i64 recipe) = w4 at *
  rcases h5 : skipOf Fl.wTools r3 with _ | r5
  · have HC := Lib.hid (skip_no (x := Fl.wTools) L4.out.inn h5)
    have E5 := Lib.hid h5; clear h5
    refine HC.out.mono ?_; rintro e w2 ⟨rfl, f2, c2, r2, l2⟩
    go_wp2_with fail
    have hX : X = none := by rw [HX.out, s5, E5.out]; rfl
    exact ⟨rfl, by rw [hX]; exact L4.out.bad rfl ⟨rfl, f2, c2, r2, l2⟩⟩
  have HC := Lib.hid (skip_yes (x := Fl.wTools) L4.out.inn h5)
  have E5 := Lib.hid h5; clear h5
  refine HC.out.mono ?_; rintro e w5 ⟨rfl, o2, i2⟩
  have L5 : Hid (Loc a B R { c with r := r5 } q W #[.int .i64 recipe, .slice none 0 0, .int .i64 0, .int .i64 0, .slice none 0 0, .int .i64 (-1), .int .i64 0] [] w5) := Lib.hid (L4.out.only o2 i2)
  clear o2 i2 HC L4
  have HX := Lib.hid (show X = s6 q.f recipe r5 by rw [HX.out, s5, E5.out]; rfl)
  go_wp2_with fail
  rcases h6 : wordOf r5 with _ | ⟨zt, r6⟩
  · have HC := Lib.hid (word_no L5.out.inn h6)
    have E6 := Lib.hid h6; clear h6
    refine HC.out.mono ?_; rintro e w2 ⟨rfl, f2, c2, r2, l2⟩
    go_wp2_with fail
    have hX : X = none := by rw [HX.out, s6, E6.out]; rfl
    exact ⟨rfl, by rw [hX]; exact L5.out.bad rfl ⟨rfl, f2, c2, r2, l2⟩⟩
  have HC := Lib.hid (word_yes L5.out.inn h6)
  have hz6 := Nat.le_trans (wordOf_len h6).2 L5.out.inn.ok.len
  have HZ6 := Lib.hid hz6; clear hz6
  have E6 := Lib.hid h6; clear h6
  refine HC.out.mono ?_; rintro e w6 ⟨rfl, o2, i2⟩
  have L6 : Hid (Loc a B R { c with r := r6 } q W #[.int .i64 recipe, .slice none 0 0, .int .i64 0, .int .i64 0, .slice none 0 0, .int .i64 (-1), .int .i64 0] [] w6) := Lib.hid (L5.out.only o2 i2)
  clear o2 i2 HC L5
  have HX := Lib.hid (show X = s7 q.f recipe zt r6 by rw [HX.out, s6, E6.out]; rfl)
  go_wp2_with fail
  rcases h7 : Fl.numbers zt 8 with _ | tools
  · have HC := Lib.hid (nums_no 8 L6.out.inn.ok.tab HZ6.out (by decide) (by decide) h7)
    have E7 := Lib.hid h7; clear h7
    refine HC.out.mono ?_; rintro e w2 ⟨rfl, g2⟩
    have LB := (L6.out.below g2)
    go_wp2_with fail
    have hX : X = none := by rw [HX.out, s7, E7.out]; rfl
    exact ⟨rfl, by rw [hX]; exact ⟨rfl, LB.fr, _, LB.inn.ok.at_, rfl⟩⟩
  have HC := Lib.hid (nums_yes 8 L6.out.inn.ok.tab HZ6.out (by decide) (by decide) h7)
  have E7 := Lib.hid h7; clear h7
  refine HC.out.mono ?_; rintro e w7 ⟨ta, tc, rfl, ow2, g2⟩
  have L7 : Hid (Loc a B R { c with r := r6 } q W #[.int .i64 recipe, .slice none 0 0, .int .i64 0, .int .i64 0, .slice none 0 0, .int .i64 (-1), .int .i64 0] ((.slice ta tools.length tc, tools) :: []) w7) := Lib.hid ((L6.out.below g2).add (ow2.mono L6.out.inn.lt))
  clear ow2 g2 HC L6
  have HX := Lib.hid (show X = s8 q.f recipe tools r6 by rw [HX.out, s7, E7.out]; rfl)
  have b1 := box_cell L7.out.box 1 _ rfl; have z1 := box_fz L7.out.box 1
  go_wp2_with fail
  clear b1 z1
  have L8 : Hid (Loc a B R { c with r := r6 } q W #[.int .i64 recipe, .slice ta tools.length tc, .int .i64 0, .int .i64 0, .slice none 0 0, .int .i64 (-1), .int .i64 0] ((.slice ta tools.length tc, tools) :: []) ((w7).setCell ⟨W.heap.size, 1, none⟩ (.slice ta tools.length tc))) := Lib.hid ((L7.out).set 1 (.slice ta tools.length tc))
  clear L7
  generalize (w7).setCell ⟨W.heap.size, 1, none⟩ (.slice ta tools.length tc) = w8 at *
  rcases h9 : skipOf Fl.wTime r6 with _ | r9
  · have HC := Lib.hid (skip_no (x := Fl.wTime) L8.out.inn h9)
    have E9 := Lib.hid h9; clear h9
    refine HC.out.mono ?_; rintro e w2 ⟨rfl, f2, c2, r2, l2⟩
    go_wp2_with fail
    have hX : X = none := by rw [HX.out, s8, E9.out]; rfl
    exact ⟨rfl, by rw [hX]; exact L8.out.bad rfl ⟨rfl, f2, c2, r2, l2⟩⟩
  have HC := Lib.hid (skip_yes (x := Fl.wTime) L8.out.inn h9)
  have E9 := Lib.hid h9; clear h9
  refine HC.out.mono ?_; rintro e w9 ⟨rfl, o2, i2⟩
  have L9 : Hid (Loc a B R { c with r := r9 } q W #[.int .i64 recipe, .slice ta tools.length tc, .int .i64 0, .int .i64 0, .slice none 0 0, .int .i64 (-1), .int .i64 0] ((.slice ta tools.length tc, tools) :: []) w9) := Lib.hid (L8.out.only o2 i2)
  clear o2 i2 HC L8
  have HX := Lib.hid (show X = s9 q.f recipe tools r9 by rw [HX.out, s8, E9.out]; rfl)
  go_wp2_with fail
  rcases h10 : twoOf r9 with _ | ⟨⟨mn, mx⟩, r10⟩
  · have HC := Lib.hid (two_no L9.out.inn h10)
    have E10 := Lib.hid h10; clear h10
    refine HC.out.mono ?_; rintro e w2 ⟨rfl, f2, c2, r2, l2⟩
    go_wp2_with fail
    have hX : X = none := by rw [HX.out, s9, E10.out]; rfl
    exact ⟨rfl, by rw [hX]; exact L9.out.bad rfl ⟨rfl, f2, c2, r2, l2⟩⟩
  have HC := Lib.hid (two_yes L9.out.inn h10)
  have E10 := Lib.hid h10; clear h10
  refine HC.out.mono ?_; rintro e w10 ⟨rfl, o2, i2⟩
  have L10 : Hid (Loc a B R { c with r := r10 } q W #[.int .i64 recipe, .slice ta tools.length tc, .int .i64 0, .int .i64 0, .slice none 0 0, .int .i64 (-1), .int .i64 0] ((.slice ta tools.length tc, tools) :: []) w10) := Lib.hid (L9.out.only o2 i2)
  clear o2 i2 HC L9
  have HX := Lib.hid (show X = s10 q.f recipe tools mn mx r10 by rw [HX.out, s9, E10.out]; rfl)
  have b2 := box_cell L10.out.box 2 _ rfl; have z2 := box_fz L10.out.box 2
  have b3 := box_cell L10.out.box 3 _ rfl; have z3 := box_fz L10.out.box 3
  go_wp2_with fail
  clear b2 z2 b3 z3
  have L11 : Hid (Loc a B R { c with r := r10 } q W #[.int .i64 recipe, .slice ta tools.length tc, .int .i64 mn, .int .i64 mx, .slice none 0 0, .int .i64 (-1), .int .i64 0] ((.slice ta tools.length tc, tools) :: []) (((w10).setCell ⟨W.heap.size, 2, none⟩ (.int .i64 mn)).setCell ⟨W.heap.size, 3, none⟩ (.int .i64 mx))) := Lib.hid (((L10.out).set 2 (.int .i64 mn)).set 3 (.int .i64 mx))
  clear L10
  generalize ((w10).setCell ⟨W.heap.size, 2, none⟩ (.int .i64 mn)).setCell ⟨W.heap.size, 3, none⟩ (.int .i64 mx) = w11 at *
  rcases h12 : skipOf Fl.wNext r10 with _ | r12
  · have HC := Lib.hid (skip_no (x := Fl.wNext) L11.out.inn h12)
    have E12 := Lib.hid h12; clear h12
    refine HC.out.mono ?_; rintro e w2 ⟨rfl, f2, c2, r2, l2⟩
    go_wp2_with fail
    have hX : X = none := by rw [HX.out, s10, E12.out]; rfl
    exact ⟨rfl, by rw [hX]; exact L11.out.bad rfl ⟨rfl, f2, c2, r2, l2⟩⟩
  have HC := Lib.hid (skip_yes (x := Fl.wNext) L11.out.inn h12)
  have E12 := Lib.hid h12; clear h12
  refine HC.out.mono ?_; rintro e w12 ⟨rfl, o2, i2⟩
  have L12 : Hid (Loc a B R { c with r := r12 } q W #[.int .i64 recipe, .slice ta tools.length tc, .int .i64 mn, .int .i64 mx, .slice none 0 0, .int .i64 (-1), .int .i64 0] ((.slice ta tools.length tc, tools) :: []) w12) := Lib.hid (L11.out.only o2 i2)
  clear o2 i2 HC L11
  have HX := Lib.hid (show X = s11 q.f recipe tools mn mx r12 by rw [HX.out, s10, E12.out]; rfl)
  go_wp2_with fail
  rcases h13 : wordOf r12 with _ | ⟨zn, r13⟩
  · have HC := Lib.hid (word_no L12.out.inn h13)
    have E13 := Lib.hid h13; clear h13
    refine HC.out.mono ?_; rintro e w2 ⟨rfl, f2, c2, r2, l2⟩
    go_wp2_with fail
    have hX : X = none := by rw [HX.out, s11, E13.out]; rfl
    exact ⟨rfl, by rw [hX]; exact L12.out.bad rfl ⟨rfl, f2, c2, r2, l2⟩⟩
  have HC := Lib.hid (word_yes L12.out.inn h13)
  have hz13 := Nat.le_trans (wordOf_len h13).2 L12.out.inn.ok.len
  have HZ13 := Lib.hid hz13; clear hz13
  have E13 := Lib.hid h13; clear h13
  refine HC.out.mono ?_; rintro e w13 ⟨rfl, o2, i2⟩
  have L13 : Hid (Loc a B R { c with r := r13 } q W #[.int .i64 recipe, .slice ta tools.length tc, .int .i64 mn, .int .i64 mx, .slice none 0 0, .int .i64 (-1), .int .i64 0] ((.slice ta tools.length tc, tools) :: []) w13) := Lib.hid (L12.out.only o2 i2)
  clear o2 i2 HC L12
  have HX := Lib.hid (show X = s12 q.f recipe tools mn mx zn r13 by rw [HX.out, s11, E13.out]; rfl)
  by_cases hy : zn = [45]
  · have hy1 : (zn != [45]) = false := by simp [hy]
    have hy2 : (zn == [45]) = true := by simp [hy]
    have EY := Lib.hid (show Fl.readNext zn = some [] by rw [hy]; rfl)
    clear hy
    have HX := Lib.hid (show X = s13 q.f recipe tools mn mx [] r13 by rw [HX.out, s12, EY.out]; rfl)
    rcases hr : r13 with _ | s
    · have hr7 : w13.cell? ⟨R, 7, none⟩ = some (.bool false) := by have h0 := L13.out.inn.ok.at_.cell 7 _ rfl; simp only [hr] at h0; exact h0
      have ER := Lib.hid hr; clear hr
      have HX := Lib.hid (show X = s18 q.f ⟨recipe, tools, mn, mx, [], -1, 0⟩ none by rw [HX.out, ER.out, s13_none])
      go_wp2_with fail
      clear hr7
      obtain ⟨p, hpp⟩ : ∃ p : StepP, p = ⟨⟨recipe, tools, mn, mx, [], (-1), 0⟩, ta, tc, none, 0⟩ := ⟨_, rfl⟩
      have HP : Hid (p.own w13 B) := Lib.hid (by rw [hpp]; exact ⟨L13.out.own (.slice ta tools.length tc, tools) (by simp), World.ownsRow_nil _ _ _ _⟩)
      have HPC : Hid (p.cells = [.int .i64 recipe, .slice ta tools.length tc, .int .i64 mn, .int .i64 mx, .slice none 0 0, .int .i64 (-1), .int .i64 0]) := Lib.hid (by cases hpp; rfl)
      have HPS : Hid (p.s = ⟨recipe, tools, mn, mx, [], (-1), 0⟩) := Lib.hid (by cases hpp; rfl)
      clear hpp
      have HWA := Lib.hid ((below_new w13 (.cells #[.int .i64 recipe, .slice ta tools.length tc, .int .i64 mn, .int .i64 mx, .slice none 0 0, .int .i64 (-1), .int .i64 0] 55)).drew)
      have LA := Lib.hid (L13.out.below HWA.out)
      have HO := Lib.hid (own_below L13.out.inn.holds.srow HWA.out)
      have HNW : Hid (∀ j u, [.int .i64 recipe, .slice ta tools.length tc, .int .i64 mn, .int .i64 mx, .slice none 0 0, .int .i64 (-1), .int .i64 0][j]? = some u → ((w13.alloc (.cells #[.int .i64 recipe, .slice ta tools.length tc, .int .i64 mn, .int .i64 mx, .slice none 0 0, .int .i64 (-1), .int .i64 0] 55)).drew).cell? ((⟨w13.heap.size, 0, none⟩ : Addr).add j) = some u) := Lib.hid (World.news_of_block (cs := #[.int .i64 recipe, .slice ta tools.length tc, .int .i64 mn, .int .i64 mx, .slice none 0 0, .int .i64 (-1), .int .i64 0]) (t := 55) (fr := (0, 0)) (heap_alloc_new w13 _))
      have HQ : Hid (∀ g cap w2, w2.ownsRow B 55 7 (.slice (some ⟨g, 0, none⟩) (q.P.length + 1) cap) (q.P.length + 1) (stepRow q.P ++ [.int .i64 recipe, .slice ta tools.length tc, .int .i64 mn, .int .i64 mx, .slice none 0 0, .int .i64 (-1), .int .i64 0]) → ((w13.alloc (.cells #[.int .i64 recipe, .slice ta tools.length tc, .int .i64 mn, .int .i64 mx, .slice none 0 0, .int .i64 (-1), .int .i64 0] 55)).drew).grownBy w2 (Value.slice q.sa q.P.length q.sc).ownBlock → _) := Lib.hid fun g cap w2 h1 h2 => L13.out.pushed (g := g) (cap := cap) (w2 := w2) HWA.out p HP.out (by rw [HPC.out]; exact h1) h2
      have hBs := L13.out.inn.lt
      have hpl := L13.out.inn.pl
      have x2 : w13.cell? ⟨R, 2, none⟩ = some (.slice q.sa q.P.length q.sc) := by have h0 := L13.out.inn.ok.at_.cell 2 c.sv rfl; rw [L13.out.inn.holds.sv] at h0; exact h0
      have x2a : (w13.alloc (.cells #[.int .i64 recipe, .slice ta tools.length tc, .int .i64 mn, .int .i64 mx, .slice none 0 0, .int .i64 (-1), .int .i64 0] 55)).cell? ⟨R, 2, none⟩ = some (.slice q.sa q.P.length q.sc) := cell_below (below_new _ _) x2
      have b0 := box_cell L13.out.box 0 _ rfl
      have b1 := box_cell L13.out.box 1 _ rfl
      have b2 := box_cell L13.out.box 2 _ rfl
      have b3 := box_cell L13.out.box 3 _ rfl
      have b4 := box_cell L13.out.box 4 _ rfl
      have b5 := box_cell L13.out.box 5 _ rfl
      have b6 := box_cell L13.out.box 6 _ rfl
      obtain ⟨i0, hi, hz0, hz1, hz2⟩ := info_parts info_step
      go_region_law (refine step_append_lies _ (by rfl) _ _ _ (by rfl) B 55 i0 _ 7 88 Tryz.underlying22 hi hz0 hz1 hz2 rfl (by decide) (.slice q.sa q.P.length q.sc) q.P.length (stepRow q.P) (by rfl) HO.out ⟨w13.heap.size, 0, none⟩ 1 1 [.int .i64 recipe, .slice ta tools.length tc, .int .i64 mn, .int .i64 mx, .slice none 0 0, .int .i64 (-1), .int .i64 0] (by rfl) (by rfl) HNW.out (by simp [Value.oneCell']) (by decide) (by unfold maxLen; omega) (by omega) (by simp; omega) (w13.heap.size + 1) (by simp) ?_; intro g cap w2 hown2 hgrow hat hlt2; have hq := HQ.out g cap w2 hown2 hgrow; have z2 := hq.1.fz 2; have y2 := hq.1.cell 2 _ rfl)
      all_goals
        have F := Lib.hid (HQ.out g cap w2 hown2 hgrow)
        clear hq z2 y2 hown2 hgrow hat hlt2 x2 x2a b0 b1 b2 b3 b4 b5 b6
        generalize w2.setCell ⟨R, 2, none⟩ (.slice (some ⟨g, 0, none⟩) (q.P.length + 1) cap) = w3 at *
        have y3 : w3.cell? ⟨R, 2, none⟩ = some (.slice (some ⟨g, 0, none⟩) (q.P.length + 1) cap) := F.out.2.1.at_.cell 2 _ rfl
        obtain ⟨V, hV⟩ : ∃ V, Fl.vSteps 40 (q.f.steps ++ [p.s]) = V := ⟨_, rfl⟩
        have hvs := vs_pushed F.out.2.2.1
        rw [hV] at hvs
        have HVS := Lib.hid hvs; have HV := Lib.hid hV; clear hvs hV
        go_wp2_with fail
        clear y3
        refine HVS.out.mono ?_; rintro e w4 ⟨rfl, g4⟩
        have G4 := Lib.hid g4; clear g4
        cases V
        · go_wp2_with fail
          refine (HN.out _ (F.out.2.1.tab.below G4.out)).mono ?_; rintro e w5 ⟨rfl, rfl⟩
          go_wp2_with fail
          exact ⟨rfl, step_fail (p := p) (by rw [HPS.out]; exact HX.out) HV.out (F.out.2.1.below G4.out) (F.out.2.2.2.trans (Fr.ofBelow G4.out F.out.2.2.1.le)) rfl⟩
        · go_wp2_with fail
          refine (require_yes _).mono ?_; rintro e w5 ⟨rfl, rfl⟩
          go_wp2_with fail
          go_end0
          exact step_done (p := p) (by rw [HPS.out]; exact HX.out) HV.out (F.out.2.1.below G4.out) (F.out.2.2.1.below G4.out) (F.out.2.2.2.trans (Fr.ofBelow G4.out F.out.2.2.1.le)) L13.out.inn.hB L13.out.inn.wl rfl ER.out rfl
    have hr7 : w13.cell? ⟨R, 7, none⟩ = some (.bool true) := by have h0 := L13.out.inn.ok.at_.cell 7 _ rfl; simp only [hr] at h0; exact h0
    have ER := Lib.hid hr; clear hr
    have HX := Lib.hid (show X = s13b q.f recipe tools mn mx [] (some s) by rw [HX.out, ER.out, s13_some])
    go_wp2_with fail
    clear hr7
    have L13b : Hid (Loc a B R { c with r := some s } q W #[.int .i64 recipe, .slice ta tools.length tc, .int .i64 mn, .int .i64 mx, .slice none 0 0, .int .i64 (-1), .int .i64 0] ((.slice ta tools.length tc, tools) :: []) w13) := by have h0 := L13.out; rw [ER.out] at h0; exact Lib.hid h0
    clear L13
    rcases h15 : skipOf Fl.wBack (some s) with _ | r15
    · have HC := Lib.hid (skip_no (x := Fl.wBack) L13b.out.inn h15)
      have E15 := Lib.hid h15; clear h15
      refine HC.out.mono ?_; rintro e w2 ⟨rfl, f2, c2, r2, l2⟩
      go_wp2_with fail
      have hX : X = none := by rw [HX.out, s13b, E15.out]; rfl
      exact ⟨rfl, by rw [hX]; exact L13b.out.bad rfl ⟨rfl, f2, c2, r2, l2⟩⟩
    have HC := Lib.hid (skip_yes (x := Fl.wBack) L13b.out.inn h15)
    have E15 := Lib.hid h15; clear h15
    refine HC.out.mono ?_; rintro e w15 ⟨rfl, o2, i2⟩
    have L15 : Hid (Loc a B R { c with r := r15 } q W #[.int .i64 recipe, .slice ta tools.length tc, .int .i64 mn, .int .i64 mx, .slice none 0 0, .int .i64 (-1), .int .i64 0] ((.slice ta tools.length tc, tools) :: []) w15) := Lib.hid (L13b.out.only o2 i2)
    clear o2 i2 HC L13b
    have HX := Lib.hid (show X = s14 q.f recipe tools mn mx [] r15 by rw [HX.out, s13b, E15.out]; rfl)
    go_wp2_with fail
    rcases h16 : numOf r15 with _ | ⟨back, r16⟩
    · have HC := Lib.hid (num_no L15.out.inn h16)
      have E16 := Lib.hid h16; clear h16
      refine HC.out.mono ?_; rintro e w2 ⟨rfl, f2, c2, r2, l2⟩
      go_wp2_with fail
      have hX : X = none := by rw [HX.out, s14, E16.out]; rfl
      exact ⟨rfl, by rw [hX]; exact L15.out.bad rfl ⟨rfl, f2, c2, r2, l2⟩⟩
    have HC := Lib.hid (num_yes L15.out.inn h16)
    have E16 := Lib.hid h16; clear h16
    refine HC.out.mono ?_; rintro e w16 ⟨rfl, o2, i2⟩
    have L16 : Hid (Loc a B R { c with r := r16 } q W #[.int .i64 recipe, .slice ta tools.length tc, .int .i64 mn, .int .i64 mx, .slice none 0 0, .int .i64 (-1), .int .i64 0] ((.slice ta tools.length tc, tools) :: []) w16) := Lib.hid (L15.out.only o2 i2)
    clear o2 i2 HC L15
    have HX := Lib.hid (show X = s15 q.f recipe tools mn mx [] back r16 by rw [HX.out, s14, E16.out]; rfl)
    have b5 := box_cell L16.out.box 5 _ rfl; have z5 := box_fz L16.out.box 5
    go_wp2_with fail
    clear b5 z5
    have L17 : Hid (Loc a B R { c with r := r16 } q W #[.int .i64 recipe, .slice ta tools.length tc, .int .i64 mn, .int .i64 mx, .slice none 0 0, .int .i64 back, .int .i64 0] ((.slice ta tools.length tc, tools) :: []) ((w16).setCell ⟨W.heap.size, 5, none⟩ (.int .i64 back))) := Lib.hid ((L16.out).set 5 (.int .i64 back))
    clear L16
    generalize (w16).setCell ⟨W.heap.size, 5, none⟩ (.int .i64 back) = w17 at *
    rcases h18 : skipOf Fl.wLimit r16 with _ | r18
    · have HC := Lib.hid (skip_no (x := Fl.wLimit) L17.out.inn h18)
      have E18 := Lib.hid h18; clear h18
      refine HC.out.mono ?_; rintro e w2 ⟨rfl, f2, c2, r2, l2⟩
      go_wp2_with fail
      have hX : X = none := by rw [HX.out, s15, E18.out]; rfl
      exact ⟨rfl, by rw [hX]; exact L17.out.bad rfl ⟨rfl, f2, c2, r2, l2⟩⟩
    have HC := Lib.hid (skip_yes (x := Fl.wLimit) L17.out.inn h18)
    have E18 := Lib.hid h18; clear h18
    refine HC.out.mono ?_; rintro e w18 ⟨rfl, o2, i2⟩
    have L18 : Hid (Loc a B R { c with r := r18 } q W #[.int .i64 recipe, .slice ta tools.length tc, .int .i64 mn, .int .i64 mx, .slice none 0 0, .int .i64 back, .int .i64 0] ((.slice ta tools.length tc, tools) :: []) w18) := Lib.hid (L17.out.only o2 i2)
    clear o2 i2 HC L17
    have HX := Lib.hid (show X = s16 q.f recipe tools mn mx [] back r18 by rw [HX.out, s15, E18.out]; rfl)
    go_wp2_with fail
    rcases h19 : numOf r18 with _ | ⟨limit, r19⟩
    · have HC := Lib.hid (num_no L18.out.inn h19)
      have E19 := Lib.hid h19; clear h19
      refine HC.out.mono ?_; rintro e w2 ⟨rfl, f2, c2, r2, l2⟩
      go_wp2_with fail
      have hX : X = none := by rw [HX.out, s16, E19.out]; rfl
      exact ⟨rfl, by rw [hX]; exact L18.out.bad rfl ⟨rfl, f2, c2, r2, l2⟩⟩
    have HC := Lib.hid (num_yes L18.out.inn h19)
    have E19 := Lib.hid h19; clear h19
    refine HC.out.mono ?_; rintro e w19 ⟨rfl, o2, i2⟩
    have L19 : Hid (Loc a B R { c with r := r19 } q W #[.int .i64 recipe, .slice ta tools.length tc, .int .i64 mn, .int .i64 mx, .slice none 0 0, .int .i64 back, .int .i64 0] ((.slice ta tools.length tc, tools) :: []) w19) := Lib.hid (L18.out.only o2 i2)
    clear o2 i2 HC L18
    have HX := Lib.hid (show X = s18 q.f ⟨recipe, tools, mn, mx, [], back, limit⟩ r19 by rw [HX.out, s16, E19.out]; rfl)
    have b6 := box_cell L19.out.box 6 _ rfl; have z6 := box_fz L19.out.box 6
    go_wp2_with fail
    clear b6 z6
    have L20 : Hid (Loc a B R { c with r := r19 } q W #[.int .i64 recipe, .slice ta tools.length tc, .int .i64 mn, .int .i64 mx, .slice none 0 0, .int .i64 back, .int .i64 limit] ((.slice ta tools.length tc, tools) :: []) ((w19).setCell ⟨W.heap.size, 6, none⟩ (.int .i64 limit))) := Lib.hid ((L19.out).set 6 (.int .i64 limit))
    clear L19
    generalize (w19).setCell ⟨W.heap.size, 6, none⟩ (.int .i64 limit) = w20 at *
    obtain ⟨p, hpp⟩ : ∃ p : StepP, p = ⟨⟨recipe, tools, mn, mx, [], back, limit⟩, ta, tc, none, 0⟩ := ⟨_, rfl⟩
    have HP : Hid (p.own w20 B) := Lib.hid (by rw [hpp]; exact ⟨L20.out.own (.slice ta tools.length tc, tools) (by simp), World.ownsRow_nil _ _ _ _⟩)
    have HPC : Hid (p.cells = [.int .i64 recipe, .slice ta tools.length tc, .int .i64 mn, .int .i64 mx, .slice none 0 0, .int .i64 back, .int .i64 limit]) := Lib.hid (by cases hpp; rfl)
    have HPS : Hid (p.s = ⟨recipe, tools, mn, mx, [], back, limit⟩) := Lib.hid (by cases hpp; rfl)
    clear hpp
    have HWA := Lib.hid ((below_new w20 (.cells #[.int .i64 recipe, .slice ta tools.length tc, .int .i64 mn, .int .i64 mx, .slice none 0 0, .int .i64 back, .int .i64 limit] 55)).drew)
    have LA := Lib.hid (L20.out.below HWA.out)
    have HO := Lib.hid (own_below L20.out.inn.holds.srow HWA.out)
    have HNW : Hid (∀ j u, [.int .i64 recipe, .slice ta tools.length tc, .int .i64 mn, .int .i64 mx, .slice none 0 0, .int .i64 back, .int .i64 limit][j]? = some u → ((w20.alloc (.cells #[.int .i64 recipe, .slice ta tools.length tc, .int .i64 mn, .int .i64 mx, .slice none 0 0, .int .i64 back, .int .i64 limit] 55)).drew).cell? ((⟨w20.heap.size, 0, none⟩ : Addr).add j) = some u) := Lib.hid (World.news_of_block (cs := #[.int .i64 recipe, .slice ta tools.length tc, .int .i64 mn, .int .i64 mx, .slice none 0 0, .int .i64 back, .int .i64 limit]) (t := 55) (fr := (0, 0)) (heap_alloc_new w20 _))
    have HQ : Hid (∀ g cap w2, w2.ownsRow B 55 7 (.slice (some ⟨g, 0, none⟩) (q.P.length + 1) cap) (q.P.length + 1) (stepRow q.P ++ [.int .i64 recipe, .slice ta tools.length tc, .int .i64 mn, .int .i64 mx, .slice none 0 0, .int .i64 back, .int .i64 limit]) → ((w20.alloc (.cells #[.int .i64 recipe, .slice ta tools.length tc, .int .i64 mn, .int .i64 mx, .slice none 0 0, .int .i64 back, .int .i64 limit] 55)).drew).grownBy w2 (Value.slice q.sa q.P.length q.sc).ownBlock → _) := Lib.hid fun g cap w2 h1 h2 => L20.out.pushed (g := g) (cap := cap) (w2 := w2) HWA.out p HP.out (by rw [HPC.out]; exact h1) h2
    have hBs := L20.out.inn.lt
    have hpl := L20.out.inn.pl
    have x2 : w20.cell? ⟨R, 2, none⟩ = some (.slice q.sa q.P.length q.sc) := by have h0 := L20.out.inn.ok.at_.cell 2 c.sv rfl; rw [L20.out.inn.holds.sv] at h0; exact h0
    have x2a : (w20.alloc (.cells #[.int .i64 recipe, .slice ta tools.length tc, .int .i64 mn, .int .i64 mx, .slice none 0 0, .int .i64 back, .int .i64 limit] 55)).cell? ⟨R, 2, none⟩ = some (.slice q.sa q.P.length q.sc) := cell_below (below_new _ _) x2
    have b0 := box_cell L20.out.box 0 _ rfl
    have b1 := box_cell L20.out.box 1 _ rfl
    have b2 := box_cell L20.out.box 2 _ rfl
    have b3 := box_cell L20.out.box 3 _ rfl
    have b4 := box_cell L20.out.box 4 _ rfl
    have b5 := box_cell L20.out.box 5 _ rfl
    have b6 := box_cell L20.out.box 6 _ rfl
    obtain ⟨i0, hi, hz0, hz1, hz2⟩ := info_parts info_step
    go_region_law (refine step_append_lies _ (by rfl) _ _ _ (by rfl) B 55 i0 _ 7 88 Tryz.underlying22 hi hz0 hz1 hz2 rfl (by decide) (.slice q.sa q.P.length q.sc) q.P.length (stepRow q.P) (by rfl) HO.out ⟨w20.heap.size, 0, none⟩ 1 1 [.int .i64 recipe, .slice ta tools.length tc, .int .i64 mn, .int .i64 mx, .slice none 0 0, .int .i64 back, .int .i64 limit] (by rfl) (by rfl) HNW.out (by simp [Value.oneCell']) (by decide) (by unfold maxLen; omega) (by omega) (by simp; omega) (w20.heap.size + 1) (by simp) ?_; intro g cap w2 hown2 hgrow hat hlt2; have hq := HQ.out g cap w2 hown2 hgrow; have z2 := hq.1.fz 2; have y2 := hq.1.cell 2 _ rfl)
    all_goals
      have F := Lib.hid (HQ.out g cap w2 hown2 hgrow)
      clear hq z2 y2 hown2 hgrow hat hlt2 x2 x2a b0 b1 b2 b3 b4 b5 b6
      generalize w2.setCell ⟨R, 2, none⟩ (.slice (some ⟨g, 0, none⟩) (q.P.length + 1) cap) = w3 at *
      have y3 : w3.cell? ⟨R, 2, none⟩ = some (.slice (some ⟨g, 0, none⟩) (q.P.length + 1) cap) := F.out.2.1.at_.cell 2 _ rfl
      obtain ⟨V, hV⟩ : ∃ V, Fl.vSteps 40 (q.f.steps ++ [p.s]) = V := ⟨_, rfl⟩
      have hvs := vs_pushed F.out.2.2.1
      rw [hV] at hvs
      have HVS := Lib.hid hvs; have HV := Lib.hid hV; clear hvs hV
      go_wp2_with fail
      clear y3
      refine HVS.out.mono ?_; rintro e w4 ⟨rfl, g4⟩
      have G4 := Lib.hid g4; clear g4
      cases V
      · go_wp2_with fail
        refine (HN.out _ (F.out.2.1.tab.below G4.out)).mono ?_; rintro e w5 ⟨rfl, rfl⟩
        go_wp2_with fail
        exact ⟨rfl, step_fail (p := p) (by rw [HPS.out]; exact HX.out) HV.out (F.out.2.1.below G4.out) (F.out.2.2.2.trans (Fr.ofBelow G4.out F.out.2.2.1.le)) rfl⟩
      · go_wp2_with fail
        refine (require_yes _).mono ?_; rintro e w5 ⟨rfl, rfl⟩
        go_wp2_with fail
        go_end0
        exact step_done (p := p) (by rw [HPS.out]; exact HX.out) HV.out (F.out.2.1.below G4.out) (F.out.2.2.1.below G4.out) (F.out.2.2.2.trans (Fr.ofBelow G4.out F.out.2.2.1.le)) L20.out.inn.hB L20.out.inn.wl rfl rfl rfl
  have hy1 : (zn != [45]) = true := by simp [hy]
  have hy2 : (zn == [45]) = false := by simp [hy]
  have EZ := Lib.hid (show Fl.readNext zn = Fl.numbers zn 4 by unfold Fl.readNext; rw [if_neg hy])
  clear hy
  go_wp2_with fail
  rcases h21 : Fl.numbers zn 4 with _ | nx
  · have HC := Lib.hid (nums_no 4 L13.out.inn.ok.tab HZ13.out (by decide) (by decide) h21)
    have E21 := Lib.hid h21; clear h21
    refine HC.out.mono ?_; rintro e w2 ⟨rfl, g2⟩
    have LB := (L13.out.below g2)
    go_wp2_with fail
    have hX : X = none := by rw [HX.out, s12, EZ.out, E21.out]; rfl
    exact ⟨rfl, by rw [hX]; exact ⟨rfl, LB.fr, _, LB.inn.ok.at_, rfl⟩⟩
  have HC := Lib.hid (nums_yes 4 L13.out.inn.ok.tab HZ13.out (by decide) (by decide) h21)
  have E21 := Lib.hid h21; clear h21
  refine HC.out.mono ?_; rintro e w21 ⟨na, nc, rfl, ow2, g2⟩
  have L21 : Hid (Loc a B R { c with r := r13 } q W #[.int .i64 recipe, .slice ta tools.length tc, .int .i64 mn, .int .i64 mx, .slice none 0 0, .int .i64 (-1), .int .i64 0] ((.slice na nx.length nc, nx) :: ((.slice ta tools.length tc, tools) :: [])) w21) := Lib.hid ((L13.out.below g2).add (ow2.mono L13.out.inn.lt))
  clear ow2 g2 HC L13
  have HX := Lib.hid (show X = s13 q.f recipe tools mn mx nx r13 by rw [HX.out, s12, EZ.out, E21.out]; rfl)
  rcases hr : r13 with _ | s
  · have hr7 : w21.cell? ⟨R, 7, none⟩ = some (.bool false) := by have h0 := L21.out.inn.ok.at_.cell 7 _ rfl; simp only [hr] at h0; exact h0
    have ER := Lib.hid hr; clear hr
    have HX := Lib.hid (show X = s18 q.f ⟨recipe, tools, mn, mx, nx, -1, 0⟩ none by rw [HX.out, ER.out, s13_none])
    have hne : ¬ R = W.heap.size := by have := L21.out.hR; omega
    have b4 := box_cell L21.out.box 4 _ rfl; have z4 := box_fz L21.out.box 4
    go_wp2_with fail
    clear b4 z4 hr7 hne
    have L23 : Hid (Loc a B R { c with r := r13 } q W #[.int .i64 recipe, .slice ta tools.length tc, .int .i64 mn, .int .i64 mx, .slice na nx.length nc, .int .i64 (-1), .int .i64 0] ((.slice na nx.length nc, nx) :: ((.slice ta tools.length tc, tools) :: [])) (w21.setCell ⟨W.heap.size, 4, none⟩ (.slice na nx.length nc))) := Lib.hid (L21.out.set 4 (.slice na nx.length nc))
    clear L21
    generalize w21.setCell ⟨W.heap.size, 4, none⟩ (.slice na nx.length nc) = w23 at *
    obtain ⟨p, hpp⟩ : ∃ p : StepP, p = ⟨⟨recipe, tools, mn, mx, nx, (-1), 0⟩, ta, tc, na, nc⟩ := ⟨_, rfl⟩
    have HP : Hid (p.own w23 B) := Lib.hid (by rw [hpp]; exact ⟨L23.out.own (.slice ta tools.length tc, tools) (by simp), L23.out.own (.slice na nx.length nc, nx) (by simp)⟩)
    have HPC : Hid (p.cells = [.int .i64 recipe, .slice ta tools.length tc, .int .i64 mn, .int .i64 mx, .slice na nx.length nc, .int .i64 (-1), .int .i64 0]) := Lib.hid (by cases hpp; rfl)
    have HPS : Hid (p.s = ⟨recipe, tools, mn, mx, nx, (-1), 0⟩) := Lib.hid (by cases hpp; rfl)
    clear hpp
    have HWA := Lib.hid ((below_new w23 (.cells #[.int .i64 recipe, .slice ta tools.length tc, .int .i64 mn, .int .i64 mx, .slice na nx.length nc, .int .i64 (-1), .int .i64 0] 55)).drew)
    have LA := Lib.hid (L23.out.below HWA.out)
    have HO := Lib.hid (own_below L23.out.inn.holds.srow HWA.out)
    have HNW : Hid (∀ j u, [.int .i64 recipe, .slice ta tools.length tc, .int .i64 mn, .int .i64 mx, .slice na nx.length nc, .int .i64 (-1), .int .i64 0][j]? = some u → ((w23.alloc (.cells #[.int .i64 recipe, .slice ta tools.length tc, .int .i64 mn, .int .i64 mx, .slice na nx.length nc, .int .i64 (-1), .int .i64 0] 55)).drew).cell? ((⟨w23.heap.size, 0, none⟩ : Addr).add j) = some u) := Lib.hid (World.news_of_block (cs := #[.int .i64 recipe, .slice ta tools.length tc, .int .i64 mn, .int .i64 mx, .slice na nx.length nc, .int .i64 (-1), .int .i64 0]) (t := 55) (fr := (0, 0)) (heap_alloc_new w23 _))
    have HQ : Hid (∀ g cap w2, w2.ownsRow B 55 7 (.slice (some ⟨g, 0, none⟩) (q.P.length + 1) cap) (q.P.length + 1) (stepRow q.P ++ [.int .i64 recipe, .slice ta tools.length tc, .int .i64 mn, .int .i64 mx, .slice na nx.length nc, .int .i64 (-1), .int .i64 0]) → ((w23.alloc (.cells #[.int .i64 recipe, .slice ta tools.length tc, .int .i64 mn, .int .i64 mx, .slice na nx.length nc, .int .i64 (-1), .int .i64 0] 55)).drew).grownBy w2 (Value.slice q.sa q.P.length q.sc).ownBlock → _) := Lib.hid fun g cap w2 h1 h2 => L23.out.pushed (g := g) (cap := cap) (w2 := w2) HWA.out p HP.out (by rw [HPC.out]; exact h1) h2
    have hBs := L23.out.inn.lt
    have hpl := L23.out.inn.pl
    have x2 : w23.cell? ⟨R, 2, none⟩ = some (.slice q.sa q.P.length q.sc) := by have h0 := L23.out.inn.ok.at_.cell 2 c.sv rfl; rw [L23.out.inn.holds.sv] at h0; exact h0
    have x2a : (w23.alloc (.cells #[.int .i64 recipe, .slice ta tools.length tc, .int .i64 mn, .int .i64 mx, .slice na nx.length nc, .int .i64 (-1), .int .i64 0] 55)).cell? ⟨R, 2, none⟩ = some (.slice q.sa q.P.length q.sc) := cell_below (below_new _ _) x2
    have b0 := box_cell L23.out.box 0 _ rfl
    have b1 := box_cell L23.out.box 1 _ rfl
    have b2 := box_cell L23.out.box 2 _ rfl
    have b3 := box_cell L23.out.box 3 _ rfl
    have b4 := box_cell L23.out.box 4 _ rfl
    have b5 := box_cell L23.out.box 5 _ rfl
    have b6 := box_cell L23.out.box 6 _ rfl
    obtain ⟨i0, hi, hz0, hz1, hz2⟩ := info_parts info_step
    go_region_law (refine step_append_lies _ (by rfl) _ _ _ (by rfl) B 55 i0 _ 7 88 Tryz.underlying22 hi hz0 hz1 hz2 rfl (by decide) (.slice q.sa q.P.length q.sc) q.P.length (stepRow q.P) (by rfl) HO.out ⟨w23.heap.size, 0, none⟩ 1 1 [.int .i64 recipe, .slice ta tools.length tc, .int .i64 mn, .int .i64 mx, .slice na nx.length nc, .int .i64 (-1), .int .i64 0] (by rfl) (by rfl) HNW.out (by simp [Value.oneCell']) (by decide) (by unfold maxLen; omega) (by omega) (by simp; omega) (w23.heap.size + 1) (by simp) ?_; intro g cap w2 hown2 hgrow hat hlt2; have hq := HQ.out g cap w2 hown2 hgrow; have z2 := hq.1.fz 2; have y2 := hq.1.cell 2 _ rfl)
    all_goals
      have F := Lib.hid (HQ.out g cap w2 hown2 hgrow)
      clear hq z2 y2 hown2 hgrow hat hlt2 x2 x2a b0 b1 b2 b3 b4 b5 b6
      generalize w2.setCell ⟨R, 2, none⟩ (.slice (some ⟨g, 0, none⟩) (q.P.length + 1) cap) = w3 at *
      have y3 : w3.cell? ⟨R, 2, none⟩ = some (.slice (some ⟨g, 0, none⟩) (q.P.length + 1) cap) := F.out.2.1.at_.cell 2 _ rfl
      obtain ⟨V, hV⟩ : ∃ V, Fl.vSteps 40 (q.f.steps ++ [p.s]) = V := ⟨_, rfl⟩
      have hvs := vs_pushed F.out.2.2.1
      rw [hV] at hvs
      have HVS := Lib.hid hvs; have HV := Lib.hid hV; clear hvs hV
      go_wp2_with fail
      clear y3
      refine HVS.out.mono ?_; rintro e w4 ⟨rfl, g4⟩
      have G4 := Lib.hid g4; clear g4
      cases V
      · go_wp2_with fail
        refine (HN.out _ (F.out.2.1.tab.below G4.out)).mono ?_; rintro e w5 ⟨rfl, rfl⟩
        go_wp2_with fail
        exact ⟨rfl, step_fail (p := p) (by rw [HPS.out]; exact HX.out) HV.out (F.out.2.1.below G4.out) (F.out.2.2.2.trans (Fr.ofBelow G4.out F.out.2.2.1.le)) rfl⟩
      · go_wp2_with fail
        refine (require_yes _).mono ?_; rintro e w5 ⟨rfl, rfl⟩
        go_wp2_with fail
        go_end0
        exact step_done (p := p) (by rw [HPS.out]; exact HX.out) HV.out (F.out.2.1.below G4.out) (F.out.2.2.1.below G4.out) (F.out.2.2.2.trans (Fr.ofBelow G4.out F.out.2.2.1.le)) L23.out.inn.hB L23.out.inn.wl rfl ER.out rfl
  have hr7 : w21.cell? ⟨R, 7, none⟩ = some (.bool true) := by have h0 := L21.out.inn.ok.at_.cell 7 _ rfl; simp only [hr] at h0; exact h0
  have ER := Lib.hid hr; clear hr
  have HX := Lib.hid (show X = s13b q.f recipe tools mn mx nx (some s) by rw [HX.out, ER.out, s13_some])
  have hne : ¬ R = W.heap.size := by have := L21.out.hR; omega
  have b4 := box_cell L21.out.box 4 _ rfl; have z4 := box_fz L21.out.box 4
  go_wp2_with fail
  clear b4 z4 hr7 hne
  have L24 : Hid (Loc a B R { c with r := r13 } q W #[.int .i64 recipe, .slice ta tools.length tc, .int .i64 mn, .int .i64 mx, .slice na nx.length nc, .int .i64 (-1), .int .i64 0] ((.slice na nx.length nc, nx) :: ((.slice ta tools.length tc, tools) :: [])) (w21.setCell ⟨W.heap.size, 4, none⟩ (.slice na nx.length nc))) := Lib.hid (L21.out.set 4 (.slice na nx.length nc))
  clear L21
  generalize w21.setCell ⟨W.heap.size, 4, none⟩ (.slice na nx.length nc) = w24 at *
  have L24b : Hid (Loc a B R { c with r := some s } q W #[.int .i64 recipe, .slice ta tools.length tc, .int .i64 mn, .int .i64 mx, .slice na nx.length nc, .int .i64 (-1), .int .i64 0] ((.slice na nx.length nc, nx) :: ((.slice ta tools.length tc, tools) :: [])) w24) := by have h0 := L24.out; rw [ER.out] at h0; exact Lib.hid h0
  clear L24
  rcases h25 : skipOf Fl.wBack (some s) with _ | r25
  · have HC := Lib.hid (skip_no (x := Fl.wBack) L24b.out.inn h25)
    have E25 := Lib.hid h25; clear h25
    refine HC.out.mono ?_; rintro e w2 ⟨rfl, f2, c2, r2, l2⟩
    go_wp2_with fail
    have hX : X = none := by rw [HX.out, s13b, E25.out]; rfl
    exact ⟨rfl, by rw [hX]; exact L24b.out.bad rfl ⟨rfl, f2, c2, r2, l2⟩⟩
  have HC := Lib.hid (skip_yes (x := Fl.wBack) L24b.out.inn h25)
  have E25 := Lib.hid h25; clear h25
  refine HC.out.mono ?_; rintro e w25 ⟨rfl, o2, i2⟩
  have L25 : Hid (Loc a B R { c with r := r25 } q W #[.int .i64 recipe, .slice ta tools.length tc, .int .i64 mn, .int .i64 mx, .slice na nx.length nc, .int .i64 (-1), .int .i64 0] ((.slice na nx.length nc, nx) :: ((.slice ta tools.length tc, tools) :: [])) w25) := Lib.hid (L24b.out.only o2 i2)
  clear o2 i2 HC L24b
  have HX := Lib.hid (show X = s14 q.f recipe tools mn mx nx r25 by rw [HX.out, s13b, E25.out]; rfl)
  go_wp2_with fail
  rcases h26 : numOf r25 with _ | ⟨back, r26⟩
  · have HC := Lib.hid (num_no L25.out.inn h26)
    have E26 := Lib.hid h26; clear h26
    refine HC.out.mono ?_; rintro e w2 ⟨rfl, f2, c2, r2, l2⟩
    go_wp2_with fail
    have hX : X = none := by rw [HX.out, s14, E26.out]; rfl
    exact ⟨rfl, by rw [hX]; exact L25.out.bad rfl ⟨rfl, f2, c2, r2, l2⟩⟩
  have HC := Lib.hid (num_yes L25.out.inn h26)
  have E26 := Lib.hid h26; clear h26
  refine HC.out.mono ?_; rintro e w26 ⟨rfl, o2, i2⟩
  have L26 : Hid (Loc a B R { c with r := r26 } q W #[.int .i64 recipe, .slice ta tools.length tc, .int .i64 mn, .int .i64 mx, .slice na nx.length nc, .int .i64 (-1), .int .i64 0] ((.slice na nx.length nc, nx) :: ((.slice ta tools.length tc, tools) :: [])) w26) := Lib.hid (L25.out.only o2 i2)
  clear o2 i2 HC L25
  have HX := Lib.hid (show X = s15 q.f recipe tools mn mx nx back r26 by rw [HX.out, s14, E26.out]; rfl)
  have b5 := box_cell L26.out.box 5 _ rfl; have z5 := box_fz L26.out.box 5
  go_wp2_with fail
  clear b5 z5
  have L27 : Hid (Loc a B R { c with r := r26 } q W #[.int .i64 recipe, .slice ta tools.length tc, .int .i64 mn, .int .i64 mx, .slice na nx.length nc, .int .i64 back, .int .i64 0] ((.slice na nx.length nc, nx) :: ((.slice ta tools.length tc, tools) :: [])) ((w26).setCell ⟨W.heap.size, 5, none⟩ (.int .i64 back))) := Lib.hid ((L26.out).set 5 (.int .i64 back))
  clear L26
  generalize (w26).setCell ⟨W.heap.size, 5, none⟩ (.int .i64 back) = w27 at *
  rcases h28 : skipOf Fl.wLimit r26 with _ | r28
  · have HC := Lib.hid (skip_no (x := Fl.wLimit) L27.out.inn h28)
    have E28 := Lib.hid h28; clear h28
    refine HC.out.mono ?_; rintro e w2 ⟨rfl, f2, c2, r2, l2⟩
    go_wp2_with fail
    have hX : X = none := by rw [HX.out, s15, E28.out]; rfl
    exact ⟨rfl, by rw [hX]; exact L27.out.bad rfl ⟨rfl, f2, c2, r2, l2⟩⟩
  have HC := Lib.hid (skip_yes (x := Fl.wLimit) L27.out.inn h28)
  have E28 := Lib.hid h28; clear h28
  refine HC.out.mono ?_; rintro e w28 ⟨rfl, o2, i2⟩
  have L28 : Hid (Loc a B R { c with r := r28 } q W #[.int .i64 recipe, .slice ta tools.length tc, .int .i64 mn, .int .i64 mx, .slice na nx.length nc, .int .i64 back, .int .i64 0] ((.slice na nx.length nc, nx) :: ((.slice ta tools.length tc, tools) :: [])) w28) := Lib.hid (L27.out.only o2 i2)
  clear o2 i2 HC L27
  have HX := Lib.hid (show X = s16 q.f recipe tools mn mx nx back r28 by rw [HX.out, s15, E28.out]; rfl)
  go_wp2_with fail
  rcases h29 : numOf r28 with _ | ⟨limit, r29⟩
  · have HC := Lib.hid (num_no L28.out.inn h29)
    have E29 := Lib.hid h29; clear h29
    refine HC.out.mono ?_; rintro e w2 ⟨rfl, f2, c2, r2, l2⟩
    go_wp2_with fail
    have hX : X = none := by rw [HX.out, s16, E29.out]; rfl
    exact ⟨rfl, by rw [hX]; exact L28.out.bad rfl ⟨rfl, f2, c2, r2, l2⟩⟩
  have HC := Lib.hid (num_yes L28.out.inn h29)
  have E29 := Lib.hid h29; clear h29
  refine HC.out.mono ?_; rintro e w29 ⟨rfl, o2, i2⟩
  have L29 : Hid (Loc a B R { c with r := r29 } q W #[.int .i64 recipe, .slice ta tools.length tc, .int .i64 mn, .int .i64 mx, .slice na nx.length nc, .int .i64 back, .int .i64 0] ((.slice na nx.length nc, nx) :: ((.slice ta tools.length tc, tools) :: [])) w29) := Lib.hid (L28.out.only o2 i2)
  clear o2 i2 HC L28
  have HX := Lib.hid (show X = s18 q.f ⟨recipe, tools, mn, mx, nx, back, limit⟩ r29 by rw [HX.out, s16, E29.out]; rfl)
  have b6 := box_cell L29.out.box 6 _ rfl; have z6 := box_fz L29.out.box 6
  go_wp2_with fail
  clear b6 z6
  have L30 : Hid (Loc a B R { c with r := r29 } q W #[.int .i64 recipe, .slice ta tools.length tc, .int .i64 mn, .int .i64 mx, .slice na nx.length nc, .int .i64 back, .int .i64 limit] ((.slice na nx.length nc, nx) :: ((.slice ta tools.length tc, tools) :: [])) ((w29).setCell ⟨W.heap.size, 6, none⟩ (.int .i64 limit))) := Lib.hid ((L29.out).set 6 (.int .i64 limit))
  clear L29
  generalize (w29).setCell ⟨W.heap.size, 6, none⟩ (.int .i64 limit) = w30 at *
  obtain ⟨p, hpp⟩ : ∃ p : StepP, p = ⟨⟨recipe, tools, mn, mx, nx, back, limit⟩, ta, tc, na, nc⟩ := ⟨_, rfl⟩
  have HP : Hid (p.own w30 B) := Lib.hid (by rw [hpp]; exact ⟨L30.out.own (.slice ta tools.length tc, tools) (by simp), L30.out.own (.slice na nx.length nc, nx) (by simp)⟩)
  have HPC : Hid (p.cells = [.int .i64 recipe, .slice ta tools.length tc, .int .i64 mn, .int .i64 mx, .slice na nx.length nc, .int .i64 back, .int .i64 limit]) := Lib.hid (by cases hpp; rfl)
  have HPS : Hid (p.s = ⟨recipe, tools, mn, mx, nx, back, limit⟩) := Lib.hid (by cases hpp; rfl)
  clear hpp
  have HWA := Lib.hid ((below_new w30 (.cells #[.int .i64 recipe, .slice ta tools.length tc, .int .i64 mn, .int .i64 mx, .slice na nx.length nc, .int .i64 back, .int .i64 limit] 55)).drew)
  have LA := Lib.hid (L30.out.below HWA.out)
  have HO := Lib.hid (own_below L30.out.inn.holds.srow HWA.out)
  have HNW : Hid (∀ j u, [.int .i64 recipe, .slice ta tools.length tc, .int .i64 mn, .int .i64 mx, .slice na nx.length nc, .int .i64 back, .int .i64 limit][j]? = some u → ((w30.alloc (.cells #[.int .i64 recipe, .slice ta tools.length tc, .int .i64 mn, .int .i64 mx, .slice na nx.length nc, .int .i64 back, .int .i64 limit] 55)).drew).cell? ((⟨w30.heap.size, 0, none⟩ : Addr).add j) = some u) := Lib.hid (World.news_of_block (cs := #[.int .i64 recipe, .slice ta tools.length tc, .int .i64 mn, .int .i64 mx, .slice na nx.length nc, .int .i64 back, .int .i64 limit]) (t := 55) (fr := (0, 0)) (heap_alloc_new w30 _))
  have HQ : Hid (∀ g cap w2, w2.ownsRow B 55 7 (.slice (some ⟨g, 0, none⟩) (q.P.length + 1) cap) (q.P.length + 1) (stepRow q.P ++ [.int .i64 recipe, .slice ta tools.length tc, .int .i64 mn, .int .i64 mx, .slice na nx.length nc, .int .i64 back, .int .i64 limit]) → ((w30.alloc (.cells #[.int .i64 recipe, .slice ta tools.length tc, .int .i64 mn, .int .i64 mx, .slice na nx.length nc, .int .i64 back, .int .i64 limit] 55)).drew).grownBy w2 (Value.slice q.sa q.P.length q.sc).ownBlock → _) := Lib.hid fun g cap w2 h1 h2 => L30.out.pushed (g := g) (cap := cap) (w2 := w2) HWA.out p HP.out (by rw [HPC.out]; exact h1) h2
  have hBs := L30.out.inn.lt
  have hpl := L30.out.inn.pl
  have x2 : w30.cell? ⟨R, 2, none⟩ = some (.slice q.sa q.P.length q.sc) := by have h0 := L30.out.inn.ok.at_.cell 2 c.sv rfl; rw [L30.out.inn.holds.sv] at h0; exact h0
  have x2a : (w30.alloc (.cells #[.int .i64 recipe, .slice ta tools.length tc, .int .i64 mn, .int .i64 mx, .slice na nx.length nc, .int .i64 back, .int .i64 limit] 55)).cell? ⟨R, 2, none⟩ = some (.slice q.sa q.P.length q.sc) := cell_below (below_new _ _) x2
  have b0 := box_cell L30.out.box 0 _ rfl
  have b1 := box_cell L30.out.box 1 _ rfl
  have b2 := box_cell L30.out.box 2 _ rfl
  have b3 := box_cell L30.out.box 3 _ rfl
  have b4 := box_cell L30.out.box 4 _ rfl
  have b5 := box_cell L30.out.box 5 _ rfl
  have b6 := box_cell L30.out.box 6 _ rfl
  obtain ⟨i0, hi, hz0, hz1, hz2⟩ := info_parts info_step
  go_region_law (refine step_append_lies _ (by rfl) _ _ _ (by rfl) B 55 i0 _ 7 88 Tryz.underlying22 hi hz0 hz1 hz2 rfl (by decide) (.slice q.sa q.P.length q.sc) q.P.length (stepRow q.P) (by rfl) HO.out ⟨w30.heap.size, 0, none⟩ 1 1 [.int .i64 recipe, .slice ta tools.length tc, .int .i64 mn, .int .i64 mx, .slice na nx.length nc, .int .i64 back, .int .i64 limit] (by rfl) (by rfl) HNW.out (by simp [Value.oneCell']) (by decide) (by unfold maxLen; omega) (by omega) (by simp; omega) (w30.heap.size + 1) (by simp) ?_; intro g cap w2 hown2 hgrow hat hlt2; have hq := HQ.out g cap w2 hown2 hgrow; have z2 := hq.1.fz 2; have y2 := hq.1.cell 2 _ rfl)
  all_goals
    have F := Lib.hid (HQ.out g cap w2 hown2 hgrow)
    clear hq z2 y2 hown2 hgrow hat hlt2 x2 x2a b0 b1 b2 b3 b4 b5 b6
    generalize w2.setCell ⟨R, 2, none⟩ (.slice (some ⟨g, 0, none⟩) (q.P.length + 1) cap) = w3 at *
    have y3 : w3.cell? ⟨R, 2, none⟩ = some (.slice (some ⟨g, 0, none⟩) (q.P.length + 1) cap) := F.out.2.1.at_.cell 2 _ rfl
    obtain ⟨V, hV⟩ : ∃ V, Fl.vSteps 40 (q.f.steps ++ [p.s]) = V := ⟨_, rfl⟩
    have hvs := vs_pushed F.out.2.2.1
    rw [hV] at hvs
    have HVS := Lib.hid hvs; have HV := Lib.hid hV; clear hvs hV
    go_wp2_with fail
    clear y3
    refine HVS.out.mono ?_; rintro e w4 ⟨rfl, g4⟩
    have G4 := Lib.hid g4; clear g4
    cases V
    · go_wp2_with fail
      refine (HN.out _ (F.out.2.1.tab.below G4.out)).mono ?_; rintro e w5 ⟨rfl, rfl⟩
      go_wp2_with fail
      exact ⟨rfl, step_fail (p := p) (by rw [HPS.out]; exact HX.out) HV.out (F.out.2.1.below G4.out) (F.out.2.2.2.trans (Fr.ofBelow G4.out F.out.2.2.1.le)) rfl⟩
    · go_wp2_with fail
      refine (require_yes _).mono ?_; rintro e w5 ⟨rfl, rfl⟩
      go_wp2_with fail
      go_end0
      exact step_done (p := p) (by rw [HPS.out]; exact HX.out) HV.out (F.out.2.1.below G4.out) (F.out.2.2.1.below G4.out) (F.out.2.2.2.trans (Fr.ofBelow G4.out F.out.2.2.1.le)) L30.out.inn.hB L30.out.inn.wl rfl rfl rfl
end Go.Proofs.YtcaclijkkbhfhaaGreatDoor
