/-
  A certificate read, on paper: what is put is read back, and only that.
  The fixed examples of the law's file, on paper.
-/
import Derived.Test.YtihohjgjklcnlaaDoorQBu
import Derived.Test.YtihohjgjklcnlaaDoorQBm
namespace Go.Proofs.YtihohjgjklcnlaaDoor
open Go.RowKit Go.Shelf
/-- Numbers that are put and read. -/
abbrev InR (n : Int) : Prop := -4611686018427387903 ≤ n ∧ n ≤ 4611686018427387903
theorem numB_in {n : Int} (h : InR n) : numB n = Wa.Enc.enc (Wa.Enc.zig n) := Wa.Enc.putBytes_in h.1 h.2
theorem numsB_cons (n : Int) (l : List Int) : numsB (n :: l) = numB n ++ numsB l := by simp [numsB]
theorem int_put {n : Int} (h : InR n) (p r : List UInt8) : Wa.Enc.intV (p ++ (numB n ++ r)) p.length = (n, ((p ++ numB n).length : Int), 0) := by
  rw [numB_in h, Wa.Enc.intV_put h.1 h.2, List.length_append, Int.natCast_add]
theorem int_put0 {n : Int} (h : InR n) {p L r : List UInt8} {a : Int} (e : L = p ++ (numB n ++ r)) (ha : a = p.length) : Wa.Enc.intV L a = (n, ((p ++ numB n).length : Int), 0) := by
  subst e; subst ha; exact int_put h p r
theorem rdN_put : ∀ (ns : List Int) (p r : List UInt8), (∀ n ∈ ns, InR n) → rdN (p ++ (numsB ns ++ r)) ns.length p.length = some (ns, ((p ++ numsB ns).length : Int))
  | [], p, r, _ => by simp [rdN, numsB]
  | n :: l, p, r, h => by
    have ih := rdN_put l (p ++ numB n) r (fun m hm => h m (List.mem_cons_of_mem _ hm))
    rw [List.length_cons]
    unfold rdN
    rw [int_put0 (h n (by simp)) (r := numsB l ++ r) (p := p) (by rw [numsB_cons]; simp) rfl]
    simp only [if_true]
    rw [show p ++ (numsB (n :: l) ++ r) = (p ++ numB n) ++ (numsB l ++ r) by rw [numsB_cons]; simp, ih]
    simp [numsB_cons]
theorem int_got {L : List UInt8} {a n nx : Int} (h : Wa.Enc.intV L a = (n, nx, 0)) : 0 ≤ a ∧ a ≤ nx ∧ nx ≤ L.length ∧ InR n ∧ L.drop a.toNat = numB n ++ L.drop nx.toNat := by
  obtain ⟨h1, h2, h3, h4, h5, h6, h7, r, h8⟩ := Wa.Enc.intV_ok h
  refine ⟨h1, h5, h6, ⟨h3, h4⟩, ?_⟩
  have e : nx.toNat = a.toNat + (Wa.Enc.enc (Wa.Enc.zig n)).length := by omega
  rw [numB_in ⟨h3, h4⟩, e, ← List.drop_drop, h8, List.drop_left]
theorem rdN_ok {L : List UInt8} : ∀ {k : Nat} {a : Int} {ns : List Int} {a1 : Int}, rdN L k a = some (ns, a1) → 0 ≤ a → a ≤ L.length → a ≤ a1 ∧ a1 ≤ L.length ∧ (∀ n ∈ ns, InR n) ∧ L.drop a.toNat = numsB ns ++ L.drop a1.toNat
  | 0, a, ns, a1, h, h0, hl => by
    unfold rdN at h; injection h with h; injection h with h1 h2; subst h1; subst h2
    exact ⟨Int.le_refl _, hl, (fun n hn => by cases hn), by simp [numsB]⟩
  | k + 1, a, ns, a1, h, h0, hl => by
    obtain ⟨n, nx, r, e1, rfl, e3⟩ := rdN_cons h
    obtain ⟨g1, g2, g3, g4, g5⟩ := int_got e1
    obtain ⟨i1, i2, i3, i4⟩ := rdN_ok e3 (by omega) g3
    refine ⟨by omega, i2, fun m hm => ?_, ?_⟩
    · rcases List.mem_cons.1 hm with rfl | hm
      · exact g4
      · exact i3 m hm
    · rw [g5, i4, numsB_cons, List.append_assoc]
/-- k elements of m numbers each. -/
def rdRows {α : Type} (of : List Int → α) (m : Nat) (L : List UInt8) : Nat → Int → Option (List α × Int)
  | 0, a => some ([], a)
  | k + 1, a => (rdN L m a).bind fun y => (rdRows of m L k y.2).map fun x => (of y.1 :: x.1, x.2)
theorem rdRows_cons {α : Type} {of : List Int → α} {m : Nat} {L : List UInt8} {k : Nat} {a : Int} {l : List α} {a1 : Int} (h : rdRows of m L (k + 1) a = some (l, a1)) : ∃ ns nx r, rdN L m a = some (ns, nx) ∧ l = of ns :: r ∧ rdRows of m L k nx = some (r, a1) := by
  unfold rdRows at h
  obtain ⟨y, h1, h2⟩ := Option.bind_eq_some_iff.1 h
  obtain ⟨x, h3, h4⟩ := Option.map_eq_some_iff.1 h2
  injection h4 with h4 h5
  exact ⟨y.1, y.2, x.1, h1, h4.symm, by rw [h3, ← h5]⟩
theorem rdRows_none {α : Type} {of : List Int → α} {m : Nat} {L : List UInt8} {k : Nat} {a : Int} (h : rdRows of m L (k + 1) a = none) : rdN L m a = none ∨ ∃ ns nx, rdN L m a = some (ns, nx) ∧ rdRows of m L k nx = none := by
  unfold rdRows at h
  cases h1 : rdN L m a with
  | none => exact .inl rfl
  | some y =>
    rw [h1] at h
    refine .inr ⟨y.1, y.2, rfl, ?_⟩
    simpa using h
theorem rdRows_len {α : Type} {of : List Int → α} {m : Nat} {L : List UInt8} : ∀ {k : Nat} {a : Int} {l : List α} {a1 : Int}, rdRows of m L k a = some (l, a1) → l.length = k
  | 0, a, l, a1, h => by unfold rdRows at h; injection h with h; injection h with h _; subst h; rfl
  | k + 1, a, l, a1, h => by
    obtain ⟨ns, nx, r, _, rfl, e3⟩ := rdRows_cons h
    rw [List.length_cons, rdRows_len e3]
theorem rdRows_put {α : Type} {of : List Int → α} {m : Nat} {nums : α → List Int} : ∀ (l : List α) (p r : List UInt8), (∀ x ∈ l, (nums x).length = m ∧ of (nums x) = x ∧ ∀ n ∈ nums x, InR n) →
    rdRows of m (p ++ ((l.flatMap fun x => numsB (nums x)) ++ r)) l.length p.length = some (l, ((p ++ l.flatMap fun x => numsB (nums x)).length : Int))
  | [], p, r, _ => by simp [rdRows]
  | x :: l, p, r, h => by
    obtain ⟨h1, h2, h3⟩ := h x (by simp)
    have ih := rdRows_put (of := of) (m := m) (nums := nums) l (p ++ numsB (nums x)) r (fun y hy => h y (List.mem_cons_of_mem _ hy))
    have e0 : p ++ (((x :: l).flatMap fun x => numsB (nums x)) ++ r) = p ++ (numsB (nums x) ++ ((l.flatMap fun x => numsB (nums x)) ++ r)) := by simp
    have e1 : rdN (p ++ (((x :: l).flatMap fun x => numsB (nums x)) ++ r)) m p.length = some (nums x, ((p ++ numsB (nums x)).length : Int)) := by
      rw [e0, ← h1]; exact rdN_put _ _ _ h3
    rw [List.length_cons]
    unfold rdRows
    rw [e1, Option.bind_some, show p ++ (((x :: l).flatMap fun x => numsB (nums x)) ++ r) = (p ++ numsB (nums x)) ++ ((l.flatMap fun x => numsB (nums x)) ++ r) by simp, ih]
    simp [h2]
theorem rdRows_ok {α : Type} {of : List Int → α} {m : Nat} {nums : α → List Int} (ho : ∀ ns : List Int, ns.length = m → nums (of ns) = ns) {L : List UInt8} : ∀ {k : Nat} {a : Int} {l : List α} {a1 : Int}, rdRows of m L k a = some (l, a1) → 0 ≤ a → a ≤ L.length →
    a ≤ a1 ∧ a1 ≤ L.length ∧ L.drop a.toNat = (l.flatMap fun x => numsB (nums x)) ++ L.drop a1.toNat
  | 0, a, l, a1, h, h0, hl => by
    unfold rdRows at h; injection h with h; injection h with h1 h2; subst h1; subst h2
    exact ⟨Int.le_refl _, hl, by simp⟩
  | k + 1, a, l, a1, h, h0, hl => by
    obtain ⟨ns, nx, r, e1, rfl, e3⟩ := rdRows_cons h
    obtain ⟨g1, g2, -, g4⟩ := rdN_ok e1 h0 hl
    obtain ⟨i1, i2, i3⟩ := rdRows_ok ho e3 (by omega) g2
    refine ⟨by omega, i2, ?_⟩
    rw [g4, i3, List.flatMap_cons, ho ns (rdN_len e1), List.append_assoc]
/-- A list behind its count, which is from lo to hi; else the error. -/
def rdList {α : Type} (of : List Int → α) (m : Nat) (lo hi : Int) (L : List UInt8) (a : Int) : Except Int (List α × Int) :=
  if (Wa.Enc.intV L a).2.2 ≠ 0 then .error 10
  else if lo ≤ (Wa.Enc.intV L a).1 ∧ (Wa.Enc.intV L a).1 ≤ hi then
    match rdRows of m L (Wa.Enc.intV L a).1.toNat (Wa.Enc.intV L a).2.1 with
    | some x => .ok x
    | none => .error 10
  else .error 90
theorem rdList_put {α : Type} {of : List Int → α} {m : Nat} {nums : α → List Int} {lo hi : Int} (l : List α) (p r : List UInt8) (h : ∀ x ∈ l, (nums x).length = m ∧ of (nums x) = x ∧ ∀ n ∈ nums x, InR n) (h1 : lo ≤ l.length) (h2 : (l.length : Int) ≤ hi) (h3 : hi ≤ 1000) :
    rdList of m lo hi (p ++ ((numB l.length ++ l.flatMap fun x => numsB (nums x)) ++ r)) p.length = .ok (l, ((p ++ (numB l.length ++ l.flatMap fun x => numsB (nums x))).length : Int)) := by
  have e := int_put0 (n := (l.length : Int)) ⟨by omega, by omega⟩ (p := p) (r := (l.flatMap fun x => numsB (nums x)) ++ r) (L := p ++ ((numB l.length ++ l.flatMap fun x => numsB (nums x)) ++ r)) (by simp) rfl
  have e2 := rdRows_put (of := of) (m := m) (nums := nums) l (p ++ numB l.length) r h
  unfold rdList
  rw [e]
  simp only
  rw [if_neg (by simp), if_pos ⟨h1, h2⟩, Int.toNat_natCast, show p ++ ((numB l.length ++ l.flatMap fun x => numsB (nums x)) ++ r) = (p ++ numB l.length) ++ ((l.flatMap fun x => numsB (nums x)) ++ r) by simp, e2]
  simp
theorem rdList_ok {α : Type} {of : List Int → α} {m : Nat} {nums : α → List Int} (ho : ∀ ns : List Int, ns.length = m → nums (of ns) = ns) {lo hi : Int} {L : List UInt8} {a : Int} {l : List α} {a1 : Int} (h : rdList of m lo hi L a = .ok (l, a1)) (h0 : 0 ≤ lo) :
    lo ≤ l.length ∧ (l.length : Int) ≤ hi ∧ 0 ≤ a ∧ a ≤ a1 ∧ a1 ≤ L.length ∧ L.drop a.toNat = (numB l.length ++ l.flatMap fun x => numsB (nums x)) ++ L.drop a1.toNat := by
  unfold rdList at h
  split at h
  · cases h
  · rename_i he
    have he : (Wa.Enc.intV L a).2.2 = 0 := by simpa using he
    split at h
    · rename_i hc
      rcases hi' : Wa.Enc.intV L a with ⟨c, nx, er⟩
      rw [hi'] at h he hc
      simp only at h he hc
      subst he
      obtain ⟨g1, g2, g3, g4, g5⟩ := int_got hi'
      split at h
      · rename_i x hx
        injection h with h; subst h
        have hl := rdRows_len hx
        obtain ⟨i1, i2, i3⟩ := rdRows_ok ho hx (by omega) g3
        have hcl : (l.length : Int) = c := by omega
        rw [hcl]
        refine ⟨hc.1, hc.2, g1, by omega, i2, ?_⟩
        rw [g5, i3, List.append_assoc]
      · cases h
    · cases h
def stOf (l : List Int) : Pl.Stage := ⟨l.getD 0 0, l.getD 1 0, ⟨l.getD 2 0, l.getD 3 0⟩, ⟨l.getD 4 0, l.getD 5 0⟩⟩
def wnOf (l : List Int) : Pl.Win := ⟨l.getD 0 0, l.getD 1 0, l.getD 2 0⟩
theorem stOf_nums (x : Pl.Stage) : stOf (numsS x) = x := rfl
theorem wnOf_nums (x : Pl.Win) : wnOf (numsW x) = x := rfl
theorem nums_stOf : ∀ ns : List Int, ns.length = 6 → numsS (stOf ns) = ns
  | [a, b, c, d, e, f], _ => rfl
  | [], h => by cases h
  | [_], h => by cases h
  | [_, _], h => by cases h
  | [_, _, _], h => by cases h
  | [_, _, _, _], h => by cases h
  | [_, _, _, _, _], h => by cases h
  | _ :: _ :: _ :: _ :: _ :: _ :: _ :: _, h => by simp at h
theorem nums_wnOf : ∀ ns : List Int, ns.length = 3 → numsW (wnOf ns) = ns
  | [a, b, c], _ => rfl
  | [], h => by cases h
  | [_], h => by cases h
  | [_, _], h => by cases h
  | _ :: _ :: _ :: _ :: _, h => by simp at h
/-- The plan of three numbers and two lists. -/
def plOf (ns : List Int) (st : List Pl.Stage) (wn : List Pl.Win) : Pl.Plan := ⟨ns.getD 0 0, ns.getD 1 0, ns.getD 2 0, st, wn⟩
/-- What stands in a certificate: the plan, and where the digest begins. -/
def rdPlan (L : List UInt8) : Except Int (Pl.Plan × Int) :=
  match rdN L 3 0 with
  | none => .error 10
  | some (ns, a0) => match rdList stOf 6 1 8 L a0 with
    | .error e => .error e
    | .ok (st, a1) => match rdList wnOf 3 0 20 L a1 with
      | .error e => .error e
      | .ok (wn, a2) => .ok (plOf ns st wn, a2)
/-- What is asked of a certificate's two parts. -/
def openT (E1 E2 : ByteArray) (p : Pl.Plan) : Except Int Pl.Plan :=
  if E2.size ≠ 32 then .error 10
  else if E2 ≠ Wb.Sha.shaS E1 then .error 90
  else if (Pl.checkR p).2 = true then .ok p else .error 90
/-- What Open answers. -/
def openR (s : ByteArray) : Except Int Pl.Plan :=
  match rdPlan s.data.toList with
  | .error e => .error e
  | .ok (p, a) => openT (bs (s.data.toList.take a.toNat)) (bs (s.data.toList.drop a.toNat)) p
structure NumsIn (p : Pl.Plan) : Prop where
  p3 : ∀ n ∈ numsP p, InR n
  st : ∀ x ∈ p.st, ∀ n ∈ numsS x, InR n
  wn : ∀ x ∈ p.wn, ∀ n ∈ numsW x, InR n
theorem rdPlan_put {p : Pl.Plan} (h : NumsIn p) (h1 : 1 ≤ p.st.length ∧ p.st.length ≤ 8) (h2 : p.wn.length ≤ 20) (r : List UInt8) : rdPlan (planB p ++ r) = .ok (p, ((planB p).length : Int)) := by
  have e1 : rdN (planB p ++ r) 3 0 = some (numsP p, ((numsB (numsP p)).length : Int)) := by
    have := rdN_put (numsP p) [] (listS p.st ++ (listW p.wn ++ r)) h.p3
    rw [show planB p ++ r = [] ++ (numsB (numsP p) ++ (listS p.st ++ (listW p.wn ++ r))) by unfold planB; simp]
    exact this
  have e2 : rdList stOf 6 1 8 (planB p ++ r) ((numsB (numsP p)).length : Int) = .ok (p.st, ((numsB (numsP p) ++ listS p.st).length : Int)) := by
    have := rdList_put (of := stOf) (m := 6) (nums := numsS) (lo := 1) (hi := 8) p.st (numsB (numsP p)) (listW p.wn ++ r) (fun x hx => ⟨rfl, stOf_nums x, h.st x hx⟩) (by omega) (by omega) (by omega)
    rw [show planB p ++ r = numsB (numsP p) ++ (listS p.st ++ (listW p.wn ++ r)) by unfold planB; simp]
    exact this
  have e3 : rdList wnOf 3 0 20 (planB p ++ r) ((numsB (numsP p) ++ listS p.st).length : Int) = .ok (p.wn, ((planB p).length : Int)) := by
    have := rdList_put (of := wnOf) (m := 3) (nums := numsW) (lo := 0) (hi := 20) p.wn (numsB (numsP p) ++ listS p.st) r (fun x hx => ⟨rfl, wnOf_nums x, h.wn x hx⟩) (by omega) (by omega) (by omega)
    rw [show planB p ++ r = (numsB (numsP p) ++ listS p.st) ++ (listW p.wn ++ r) by unfold planB; simp]
    exact this
  unfold rdPlan
  rw [e1]
  simp only
  rw [e2]
  simp only
  rw [e3]
  rfl
theorem rdPlan_ok {L : List UInt8} {p : Pl.Plan} {a : Int} (h : rdPlan L = .ok (p, a)) : (1 ≤ p.st.length ∧ p.st.length ≤ 8) ∧ p.wn.length ≤ 20 ∧ 0 ≤ a ∧ a ≤ L.length ∧ L = planB p ++ L.drop a.toNat := by
  unfold rdPlan at h
  split at h
  · cases h
  · rename_i ns a0 e1
    split at h
    · cases h
    · rename_i st a1 e2
      split at h
      · cases h
      · rename_i wn a2 e3
        injection h with h; injection h with hp ha; subst hp; subst ha
        obtain ⟨g1, g2, -, g4⟩ := rdN_ok e1 (Int.le_refl _) (by omega)
        obtain ⟨s1, s2, s3, s4, s5, s6⟩ := rdList_ok (nums := numsS) nums_stOf e2 (by omega)
        obtain ⟨w1, w2, w3, w4, w5, w6⟩ := rdList_ok (nums := numsW) nums_wnOf e3 (by omega)
        refine ⟨⟨by show 1 ≤ st.length; omega, by show st.length ≤ 8; omega⟩, by show wn.length ≤ 20; omega, by omega, w5, ?_⟩
        have hn := rdN_len e1
        have hP : numsP (plOf ns st wn) = ns := by
          match ns, hn with
          | [a, b, c], _ => rfl
        show L = ((numsB (numsP (plOf ns st wn)) ++ listS st) ++ listW wn) ++ L.drop a2.toNat
        rw [hP]
        have e0 : L = L.drop (0 : Int).toNat := by simp
        conv => lhs; rw [e0, g4, s6, w6]
        unfold listS listW
        simp
theorem bs_list (l : List UInt8) : (bs l).data.toList = l := rfl
theorem bs_of (s : ByteArray) : bs s.data.toList = s := by cases s; rfl
theorem nums_in {p : Pl.Plan} (hv : Pl.Valid p) : NumsIn p := by
  have h1 := hv.entry; have h2 := hv.mmin; have h3 := hv.mmax; have h4 := hv.len
  refine ⟨fun n hn => ?_, fun x hx n hn => ?_, fun x hx n hn => ?_⟩
  · simp only [numsP, List.mem_cons, List.not_mem_nil, or_false] at hn
    unfold InR; omega
  · have ok := hv.st x hx
    have a1 := ok.mn; have a2 := ok.mx; have a3 := ok.mt; have a4 := ok.ms; have a5 := ok.st; have a6 := ok.ss; have a7 := ok.top
    simp only [numsS, List.mem_cons, List.not_mem_nil, or_false] at hn
    unfold InR; omega
  · have ok := hv.wn x hx
    have a1 := ok.f; have a2 := ok.ft; have a3 := ok.t; have a4 := ok.l
    simp only [numsW, List.mem_cons, List.not_mem_nil, or_false] at hn
    unfold InR; omega
theorem certB_list (p : Pl.Plan) : (certB p).data.toList = planB p ++ (Wb.Sha.shaS (bs (planB p))).data.toList := by
  unfold certB; simp
/-- The certificate of a safe plan is opened as this plan. -/
theorem open_cert {p : Pl.Plan} (h : (Pl.checkR p).2 = true) : openR (certB p) = .ok p := by
  obtain ⟨hv, -⟩ := Pl.safe_true h
  unfold openR
  rw [certB_list, rdPlan_put (nums_in hv) hv.len hv.wlen]
  simp only [Int.toNat_natCast, List.drop_left, List.take_left]
  unfold openT
  rw [bs_of, if_neg (by rw [Wb.Sha.shaS_size]; simp), if_neg (by simp), if_pos h]
/-- What is opened is a safe plan, and its certificate is what was opened. -/
theorem open_ok {s : ByteArray} {p : Pl.Plan} (h : openR s = .ok p) : (Pl.checkR p).2 = true ∧ certB p = s := by
  unfold openR at h
  split at h
  · cases h
  · rename_i q a e
    obtain ⟨-, -, h0, hl, hL⟩ := rdPlan_ok e
    unfold openT at h
    split at h
    · cases h
    · split at h
      · cases h
      · rename_i h2
        split at h
        · rename_i h3
          injection h with h; subst h
          refine ⟨h3, ?_⟩
          have ha : s.data.toList.take a.toNat = planB q := by
            have : (planB q).length + (s.data.toList.drop a.toNat).length = s.data.toList.length := by rw [← List.length_append, ← hL]
            rw [List.length_drop] at this
            conv => lhs; rw [hL]
            rw [show a.toNat = (planB q).length by omega, List.take_left]
          have h2 : bs (s.data.toList.drop a.toNat) = Wb.Sha.shaS (bs (s.data.toList.take a.toNat)) := by simpa using h2
          have : (certB q).data.toList = s.data.toList := by
            rw [certB_list, ← ha, ← h2, bs_list, List.take_append_drop]
          rw [← bs_of (certB q), this, bs_of]
        · cases h
end Go.Proofs.YtihohjgjklcnlaaDoor

namespace Go.Proofs.YtihohjgjklcnlaaDoor.Pl
/-- The plan of the chapter's examples, by its window's limit. -/
def ex9 (limit : Int) : Plan := ⟨0, 1, 5, [⟨10, 20, ⟨1, 5⟩, ⟨2, 29⟩⟩, ⟨10, 20, ⟨3, 54⟩, ⟨4, 78⟩⟩], [⟨0, 1, limit⟩]⟩
theorem ex63 : checkR (ex9 63) = (scen0, true) := by kernel_rfl
theorem ex62 : checkR (ex9 62) = (⟨[10, 20], [5, 5], 5, 3, 54⟩, false) := by kernel_rfl
theorem ex70 : slackR (ex9 70) = (7, true) := by kernel_rfl
/-- The spare slot a minute too early. -/
def ex9early : Plan := ⟨0, 1, 5, [⟨10, 20, ⟨1, 5⟩, ⟨2, 28⟩⟩, ⟨10, 20, ⟨3, 54⟩, ⟨4, 78⟩⟩], [⟨0, 1, 63⟩]⟩
theorem exEarly : ((checkR ex9early).2, (checkR ex9early).1.tool, (checkR ex9early).1.at_) = (false, 1, 24) := by kernel_rfl
/-- The wafers a minute later. -/
def ex9late : Plan := ⟨1, 1, 5, [⟨10, 20, ⟨1, 5⟩, ⟨2, 29⟩⟩, ⟨10, 20, ⟨3, 54⟩, ⟨4, 78⟩⟩], [⟨0, 1, 63⟩]⟩
theorem exLate : ((checkR ex9late).2, (checkR ex9late).1.tool) = (false, -1) := by kernel_rfl
end Go.Proofs.YtihohjgjklcnlaaDoor.Pl
