/-
  Seal.
  The reader of a certificate: require, number.
  fill: numbers read into places.
  fill into a box of its own: the memory's states, for stages and windows.
-/
import Derived.Test.YtihohjgjklcnlaaDoorQBt
import Derived.Test.YtihohjgjklcnlaaDoorQBm
import Derived.Test.YtihohjgjklcnlaaDoorQBr
import Derived.Laws.Concat
import Derived.Test.YtihohjgjklcnlaaDoorQBn
namespace Go.Proofs.YtihohjgjklcnlaaDoor
open Go.RowKit Go.Shelf
attribute [local go_sem] Oper.semAt_some
theorem planB_len {p : Pl.Plan} (hv : Pl.Valid p) : (planB p).length ≤ 1200 := by
  have h1 := flatS_len (L := p.st) (fun x _ n _ => few10 n)
  have h2 := flatW_len (L := p.wn) (fun x _ n _ => few10 n)
  have h3 := few10 p.st.length
  have h4 := few10 p.wn.length
  have h5 := numsB_len (l := numsP p) (fun n _ => few10 n)
  unfold Few10 at h3 h4
  have h6 := hv.len; have h7 := hv.wlen
  have h8 : (numsP p).length = 3 := rfl
  unfold planB listS listW
  rw [List.length_append, List.length_append, List.length_append, List.length_append]; omega
/-- The certificate of a plan. -/
def certB (p : Pl.Plan) : ByteArray := bs (planB p) ++ Wb.Sha.shaS (bs (planB p))
set_option maxRecDepth 100000 in
set_option maxHeartbeats 2000000 in
theorem Seal_any (q : PlanP) (w : World) (h : q.ok w) (ht : Wb.Tab w) : Calls Tryd.prog 20 #[q.val] w fun e w' => Below w.heap.size w w' ∧ ((Pl.checkR q.p).2 = true → e = .returned (.tuple #[.string (certB q.p), .int .i64 0])) ∧ ((Pl.checkR q.p).2 = false → e = .returned (.tuple #[.string (bs []), .int .i64 90])) := by
  have hb1 := below_new w (planObj q)
  have HB := Lib.hid hb1
  have HT := Lib.hid (ht.below hb1)
  have HQ := Lib.hid (h.below hb1)
  have PB := Lib.hid (heap_alloc_new w (planObj q))
  have HS := Lib.hid (isSafe_any q (w.alloc (planObj q)) (h.below hb1))
  clear h hb1 ht
  cases hR : (Pl.checkR q.p).2 with
  | false =>
    rw [hR] at HS
    clear hR
    obtain ⟨⟨en, mi, ma, st, wn⟩, sa, sc, wa, wc⟩ := q
    go_enter Tryd.func20, Tryd.ntmps20
    go_wp2_with fail
    refine HS.out.mono ?_; rintro e w1 ⟨rfl, g1⟩
    have HB1 := Lib.hid (below_step HB.out g1)
    clear g1 HB HQ PB HS HT
    go_wp2_with fail
    refine bodyPost_ret (v := .tuple #[.string (bs []), .int .i64 90]) (by simp [results, Tryd.results20, go_sem]) rfl ⟨HB1.out, ?_, fun _ => rfl⟩
    intro h; cases h
  | true =>
    obtain ⟨hv, -⟩ := Pl.safe_true hR
    rw [hR] at HS
    have HL := Lib.hid (planB_len hv)
    have hs8 := hv.len.2
    have hw20 := hv.wlen
    clear hR hv
    obtain ⟨⟨en, mi, ma, st, wn⟩, sa, sc, wa, wc⟩ := q
    go_enter Tryd.func20, Tryd.ntmps20
    go_wp2_with fail
    refine HS.out.mono ?_; rintro e w1 ⟨rfl, g1⟩
    have HB1 := Lib.hid (below_step HB.out g1)
    have HQ1 := Lib.hid (HQ.out.below g1)
    have HT1 := Lib.hid (HT.out.below g1)
    have PB1 := Lib.hid (box_below PB.out g1)
    clear g1 HB HQ PB HS HT
    have c0 := box_cell PB1.out 0 (.int .i64 en) rfl
    have c1 := box_cell PB1.out 1 (.int .i64 mi) rfl
    have c2 := box_cell PB1.out 2 (.int .i64 ma) rfl
    have c3 := box_cell PB1.out 3 (.slice sa st.length sc) rfl
    have c4 := box_cell PB1.out 4 (.slice wa wn.length wc) rfl
    go_wp2_with fail
    refine (planText_any ⟨⟨en, mi, ma, st, wn⟩, sa, sc, wa, wc⟩ w1 HQ1.out (by show st.length ≤ 100; omega) (by show wn.length ≤ 100; omega)).mono ?_; rintro e w2 ⟨rfl, g2⟩
    have HB2 := Lib.hid (below_step HB1.out g2)
    have HT2 := Lib.hid (HT1.out.below g2)
    clear g2 HB1 HT1 HQ1 PB1 c0 c1 c2 c3 c4
    generalize hX : planB ⟨en, mi, ma, st, wn⟩ = X at *
    have HX := Lib.hid hX; clear hX
    have SU := Lib.hid (Wb.sum_any (bs X) w2 HT2.out (by rw [bs_size]; have := HL.out; omega))
    have HSX := Lib.hid (show (bs X).size ≤ 1200 by rw [bs_size]; exact HL.out)
    have HSD := Lib.hid (Wb.Sha.shaS_size (bs X))
    clear hs8 hw20 HL
    go_wp2_with fail
    refine SU.out.mono ?_; rintro e w3 ⟨rfl, g3⟩
    have HB3 := Lib.hid (below_step HB2.out g3)
    clear g3 SU HT2 HB2
    have HD := Lib.hid (show bs X ++ Wb.Sha.shaS (bs X) = certB ⟨en, mi, ma, st, wn⟩ by unfold certB; rw [HX.out])
    generalize Wb.Sha.shaS (bs X) = D at *
    generalize bs X = E at *
    have hsz : ¬ E.size + D.size > 9223372036854775807 := by have h1 := HSX.out; have h2 := HSD.out; omega
    have hsz2 : ¬ 9223372036854775807 < E.size + D.size := hsz
    go_wp2_with fail
    refine bodyPost_ret (v := .tuple #[.string (E ++ D), .int .i64 0]) (by simp [results, Tryd.results20, go_sem]) rfl ⟨HB3.out, fun _ => by rw [HD.out], ?_⟩
    intro h; cases h
end Go.Proofs.YtihohjgjklcnlaaDoor

namespace Go.Proofs.YtihohjgjklcnlaaDoor
open Go.RowKit Go.Shelf
abbrev errV (n : Int) : Value := .iface 39 (.int .i64 n)
/-- How the reader stops: by a panic with the error. -/
abbrev stopped (n : Int) : Ending := .panicked [{ v := errV n, recovered := false }]
attribute [local go_sem] Oper.semAt_some
set_option maxRecDepth 100000 in
theorem require_yes (n : Int) (w : World) : Calls Tryd.prog 82 #[.bool true, .int .i64 n] w fun e w' => e = .returned (.tuple #[]) ∧ w' = w := by
  go_enter Tryd.func82, Tryd.ntmps82
  go_wp2_with fail
  first
    | exact ⟨.tuple #[], by simp [results, go_sem], rfl, rfl, rfl⟩
    | (go_end0; exact ⟨rfl, rfl⟩)
set_option maxRecDepth 100000 in
theorem require_no (n : Int) (w : World) : Calls Tryd.prog 82 #[.bool false, .int .i64 n] w fun e w' => e = stopped n ∧ w' = w := by
  go_enter Tryd.func82, Tryd.ntmps82
  go_wp2_with fail
  exact ⟨rfl, rfl, rfl⟩
/-- The reader stands in its box: the text, and how far it is read. -/
structure RdAt (b : Nat) (s : ByteArray) (at' : Int) (w : World) : Prop where
  sh : w.shape? b = some (99, 7)
  c0 : w.cell? ⟨b, 0, none⟩ = some (.string s)
  c1 : w.cell? ⟨b, 1, none⟩ = some (.int .i64 at')
  fz : ∀ i, w.frozen? ⟨b, i, none⟩ = false
set_option maxRecDepth 100000 in
/-- number, where the text has one. -/
theorem number_yes (b : Nat) (s : ByteArray) (at' n nx : Int) (w : World) (h0 : w.cell? ⟨b, 0, none⟩ = some (.string s)) (h1 : w.cell? ⟨b, 1, none⟩ = some (.int .i64 at')) (z1 : w.frozen? ⟨b, 1, none⟩ = false) (hs : s.size ≤ maxLen) (hi : Wa.Enc.intV s.data.toList at' = (n, nx, 0)) :
    Calls Tryd.prog 100 #[.pointer (some ⟨b, 0, none⟩)] w fun e w' => e = .returned (.int .i64 n) ∧ w' = w.drew.setCell ⟨b, 1, none⟩ (.int .i64 nx) := by
  have HI := Lib.hid (fun v => Wa.int_any s at' v hs)
  unfold Wa.IntEnd at HI
  rw [hi] at HI
  clear hi hs
  go_enter Tryd.func100, Tryd.ntmps100
  go_upto_region 1 with (fail)
  go_region_held3 (fun v => v.cell? ⟨b, 0, none⟩ = some (.string s) ∧ v.cell? ⟨b, 1, none⟩ = some (.int .i64 at')) (first | exact ⟨h0, h1⟩ | go_keep) (first | (go_at_call 109; with_reducible refine (HI.out _).mono ?_; rintro e v ⟨rfl, rfl⟩))
  have hc1 : w.drew.cell? ⟨b, 1, none⟩ = some (.int .i64 at') := h1
  have hz1 : w.drew.frozen? ⟨b, 1, none⟩ = false := z1
  go_wp2_with fail
  refine (require_yes 10 _).mono ?_; rintro e v ⟨rfl, rfl⟩
  go_wp2_with fail
  go_ret
  exact ⟨rfl, rfl⟩
set_option maxRecDepth 100000 in
/-- number, where the text has none. -/
theorem number_no (b : Nat) (s : ByteArray) (at' x nx er : Int) (w : World) (h0 : w.cell? ⟨b, 0, none⟩ = some (.string s)) (h1 : w.cell? ⟨b, 1, none⟩ = some (.int .i64 at')) (hs : s.size ≤ maxLen) (hi : Wa.Enc.intV s.data.toList at' = (x, nx, er)) (he : er ≠ 0) :
    Calls Tryd.prog 100 #[.pointer (some ⟨b, 0, none⟩)] w fun e w' => e = stopped 10 ∧ w' = w.drew := by
  have HI := Lib.hid (fun v => Wa.int_any s at' v hs)
  unfold Wa.IntEnd at HI
  rw [hi] at HI
  have he2 : (er == 0) = false := by simpa using he
  clear hi hs
  go_enter Tryd.func100, Tryd.ntmps100
  go_upto_region 1 with (fail)
  go_region_held3 (fun v => v.cell? ⟨b, 0, none⟩ = some (.string s) ∧ v.cell? ⟨b, 1, none⟩ = some (.int .i64 at')) (first | exact ⟨h0, h1⟩ | go_keep) (first | (go_at_call 109; with_reducible refine (HI.out _).mono ?_; rintro e v ⟨rfl, rfl⟩))
  go_wp2_with fail
  refine (require_no 10 _).mono ?_; rintro e v ⟨rfl, rfl⟩
  go_wp2_with fail
  exact ⟨rfl, rfl, rfl⟩
end Go.Proofs.YtihohjgjklcnlaaDoor

namespace Go.Proofs.YtihohjgjklcnlaaDoor
open Go.RowKit Go.Shelf
attribute [local go_sem] Oper.semAt_some
/-- k numbers read from a text, from an offset on: the numbers, and the offset behind them. -/
def rdN (L : List UInt8) : Nat → Int → Option (List Int × Int)
  | 0, a => some ([], a)
  | k + 1, a => if (Wa.Enc.intV L a).2.2 = 0 then (rdN L k (Wa.Enc.intV L a).2.1).map fun x => ((Wa.Enc.intV L a).1 :: x.1, x.2) else none
theorem rdN_len {L : List UInt8} : ∀ {k : Nat} {a : Int} {ns : List Int} {a1 : Int}, rdN L k a = some (ns, a1) → ns.length = k
  | 0, a, ns, a1, h => by unfold rdN at h; injection h with h; injection h with h _; subst h; rfl
  | k + 1, a, ns, a1, h => by
    unfold rdN at h
    split at h
    · cases h' : rdN L k (Wa.Enc.intV L a).2.1 with
      | none => rw [h'] at h; cases h
      | some x =>
        rw [h'] at h
        have := rdN_len (ns := x.1) (a1 := x.2) h'
        injection h with h; injection h with h _; subst h
        simp [this]
    · cases h
theorem rdN_cons {L : List UInt8} {k : Nat} {a : Int} {l : List Int} {a1 : Int} (h : rdN L (k + 1) a = some (l, a1)) : ∃ n nx r, Wa.Enc.intV L a = (n, nx, 0) ∧ l = n :: r ∧ rdN L k nx = some (r, a1) := by
  unfold rdN at h
  split at h
  · rename_i h0
    cases h' : rdN L k (Wa.Enc.intV L a).2.1 with
    | none => rw [h'] at h; cases h
    | some x =>
      rw [h'] at h
      injection h with h; injection h with h1 h2
      exact ⟨_, _, x.1, by rw [← h0], h1.symm, by rw [h', ← h2]⟩
  · cases h
/-- The world behind a number that is read and put in its place. -/
abbrev filled (b : Nat) (nb o : Nat) (n nx : Int) (w : World) : World := (w.drew.setCell ⟨b, 1, none⟩ (.int .i64 nx)).setCell ⟨nb, o, none⟩ (.int .i64 n)
/-- What fill wants of what stands in memory after some numbers: S ns a w (the numbers ns are read and in their places, the reader is at a). -/
structure FillS (b : Nat) (s : ByteArray) (nb o nr K : Nat) (S : List Int → Int → World → Prop) : Prop where
  c0 : ∀ ns a w, S ns a w → w.cell? ⟨b, 0, none⟩ = some (.string s)
  c1 : ∀ ns a w, S ns a w → w.cell? ⟨b, 1, none⟩ = some (.int .i64 a)
  z1 : ∀ ns a w, S ns a w → w.frozen? ⟨b, 1, none⟩ = false
  row : ∀ ns a w, S ns a w → ∀ j, j < K → w.cell? ⟨nr, j, none⟩ = some (.pointer (some ⟨nb, o + j, none⟩))
  place : ∀ ns a w nx, S ns a w → ∀ j, j < K → (∃ v, (w.drew.setCell ⟨b, 1, none⟩ (.int .i64 nx)).cell? ⟨nb, o + j, none⟩ = some v) ∧ (w.drew.setCell ⟨b, 1, none⟩ (.int .i64 nx)).frozen? ⟨nb, o + j, none⟩ = false
  put : ∀ ns a w n nx, S ns a w → ns.length < K → S (ns ++ [n]) nx (filled b nb (o + ns.length) n nx w)
set_option maxRecDepth 100000 in
set_option maxHeartbeats 1000000 in
theorem fill_yes (b : Nat) (s : ByteArray) (nb o nr K : Nat) (S : List Int → Int → World → Prop) (hS : FillS b s nb o nr K S) (hs : s.size ≤ maxLen) (hK : K ≤ 10) (a0 : Int) (w : World) (h : S [] a0 w) (ns : List Int) (a1 : Int) (hr : rdN s.data.toList K a0 = some (ns, a1)) :
    Calls Tryd.prog 79 #[.pointer (some ⟨b, 0, none⟩), .slice (some ⟨nr, 0, none⟩) K K] w fun e w' => e = .returned (.tuple #[]) ∧ S ns a1 w' := by
  have HL := Lib.hid (rdN_len hr)
  have H0 := Lib.hid (show S (ns.take 0) a0 w ∧ rdN s.data.toList (K - 0) a0 = some (ns.drop 0, a1) from ⟨h, hr⟩)
  have HS := Lib.hid hS; have HSz := Lib.hid hs
  clear h hr hS hs
  go_enter Tryd.func79, Tryd.ntmps79
  go_wp2_with fail
  go_loopw [8] (fun i wr => ∃ (k : Nat) (a : Int), k ≤ K ∧ i = .int .i64 (k : Int) ∧ Hid (S (ns.take k) a wr ∧ rdN s.data.toList (K - k) a = some (ns.drop k, a1))) (fun i _ => K - (intOf i).toNat)
  case atStart => exact ⟨0, a0, Nat.zero_le _, rfl, H0⟩
  case round =>
    obtain ⟨k, a, hk, rfl, HI⟩ := hrel
    rename World => wr
    by_cases hlt : k < K
    · obtain ⟨n, nx, r, e1, e2, e3⟩ := rdN_cons (k := K - k - 1) (by rw [show K - k - 1 + 1 = K - k by omega]; exact HI.out.2)
      have hlen : (ns.take k).length = k := by rw [List.length_take, HL.out]; omega
      have hkl : k < ns.length := by rw [HL.out]; exact hlt
      have en : ns.take (k + 1) = ns.take k ++ [n] := by
        rw [List.take_succ_eq_append_getElem hkl]
        rw [List.drop_eq_getElem_cons hkl] at e2
        injection e2 with e2 _
        rw [e2]
      have er : ns.drop (k + 1) = r := by
        rw [List.drop_eq_getElem_cons hkl] at e2
        injection e2
      have r0 := HS.out.row _ _ _ HI.out.1 k hlt
      obtain ⟨⟨v0, p0⟩, z0⟩ := HS.out.place _ _ _ nx HI.out.1 k hlt
      have NX := Lib.hid (show S (ns.take (k + 1)) nx (filled b nb (o + k) n nx wr) ∧ rdN s.data.toList (K - (k + 1)) nx = some (ns.drop (k + 1), a1) from
        ⟨by have := HS.out.put _ _ _ n nx HI.out.1 (by rw [hlen]; exact hlt); rw [hlen] at this; rw [en]; exact this, by rw [er, ← e3]; congr 1⟩)
      have NU := Lib.hid (number_yes b s a n nx wr (HS.out.c0 _ _ _ HI.out.1) (HS.out.c1 _ _ _ HI.out.1) (HS.out.z1 _ _ _ HI.out.1) HSz.out e1)
      clear hlen hkl en er e1 e2 e3 HI
      have i1 : (0 : Int) ≤ (k : Int) := by omega
      have i2 : (k : Int) < (K : Int) := by omega
      have i4 : ((k : Int)).toNat = k := by omega
      go_wp2_with fail
      refine NU.out.mono ?_; rintro e w3 ⟨rfl, rfl⟩
      clear NU
      unfold filled at NX
      generalize wr.drew.setCell ⟨b, 1, none⟩ (.int .i64 nx) = w5 at *
      clear r0
      go_wp2_with fail
      go_roundw
      case rel => exact ⟨k + 1, nx, by omega, by go_num, NX⟩
      case measure => simp [intOf]; omega
    · have i5 : ¬ (k : Int) < (K : Int) := by omega
      have FN := Lib.hid (show S ns a1 wr by
        obtain ⟨h1, h2⟩ := HI.out
        have hkK : k = K := by omega
        rw [List.take_of_length_le (by rw [HL.out]; omega)] at h1
        rw [show K - k = 0 by omega] at h2
        unfold rdN at h2
        injection h2 with h2; injection h2 with _ h2
        rwa [h2] at h1)
      clear HI H0
      go_wp2_with fail
      first
        | (refine bodyPost_ret (results_none rfl _ _ _) rfl ?_; exact ⟨rfl, FN.out⟩)
        | (go_end0; exact ⟨rfl, FN.out⟩)
        | exact ⟨.tuple #[], by simp [results, go_sem], rfl, rfl, FN.out⟩
theorem rdN_none {L : List UInt8} {k : Nat} {a : Int} (h : rdN L (k + 1) a = none) : (∃ x nx er, Wa.Enc.intV L a = (x, nx, er) ∧ er ≠ 0) ∨ (∃ n nx, Wa.Enc.intV L a = (n, nx, 0) ∧ rdN L k nx = none) := by
  unfold rdN at h
  split at h
  · rename_i h0
    refine .inr ⟨_, _, by rw [← h0], ?_⟩
    cases h' : rdN L k (Wa.Enc.intV L a).2.1 with
    | none => rfl
    | some x => rw [h'] at h; cases h
  · rename_i h0
    exact .inl ⟨_, _, _, rfl, h0⟩
set_option maxRecDepth 100000 in
set_option maxHeartbeats 1000000 in
theorem fill_no (b : Nat) (s : ByteArray) (nb o nr K : Nat) (S : List Int → Int → World → Prop) (hS : FillS b s nb o nr K S) (hs : s.size ≤ maxLen) (hK : K ≤ 10) (a0 : Int) (w : World) (h : S [] a0 w) (hr : rdN s.data.toList K a0 = none) :
    Calls Tryd.prog 79 #[.pointer (some ⟨b, 0, none⟩), .slice (some ⟨nr, 0, none⟩) K K] w fun e w' => e = stopped 10 ∧ ∃ ns a wr, S ns a wr ∧ w' = wr.drew := by
  have H0 := Lib.hid (show S [] a0 w ∧ rdN s.data.toList (K - 0) a0 = none ∧ ([] : List Int).length = 0 from ⟨h, hr, rfl⟩)
  have HS := Lib.hid hS; have HSz := Lib.hid hs
  clear h hr hS hs
  go_enter Tryd.func79, Tryd.ntmps79
  go_wp2_with fail
  go_loopw [8] (fun i wr => ∃ (k : Nat) (ns : List Int) (a : Int), k ≤ K ∧ i = .int .i64 (k : Int) ∧ Hid (S ns a wr ∧ rdN s.data.toList (K - k) a = none ∧ ns.length = k)) (fun i _ => K - (intOf i).toNat)
  case atStart => exact ⟨0, [], a0, Nat.zero_le _, rfl, H0⟩
  case round =>
    obtain ⟨k, ns, a, hk, rfl, HI⟩ := hrel
    rename World => wr
    by_cases hlt : k < K
    · have i1 : (0 : Int) ≤ (k : Int) := by omega
      have i2 : (k : Int) < (K : Int) := by omega
      have i4 : ((k : Int)).toNat = k := by omega
      have r0 := HS.out.row _ _ _ HI.out.1 k hlt
      rcases rdN_none (L := s.data.toList) (k := K - k - 1) (a := a) (by rw [show K - k - 1 + 1 = K - k by omega]; exact HI.out.2.1) with ⟨x, nx, er, e1, e2⟩ | ⟨n, nx, e1, e3⟩
      · have NU := Lib.hid (number_no b s a x nx er wr (HS.out.c0 _ _ _ HI.out.1) (HS.out.c1 _ _ _ HI.out.1) HSz.out e1 e2)
        clear e1 e2
        go_wp2_with fail
        refine NU.out.mono ?_; rintro e w3 ⟨rfl, rfl⟩
        clear NU
        go_wp2_with fail
        exact ⟨rfl, rfl, ns, a, wr, HI.out.1, rfl⟩
      · obtain ⟨⟨v0, p0⟩, z0⟩ := HS.out.place _ _ _ nx HI.out.1 k hlt
        have NX := Lib.hid (show S (ns ++ [n]) nx (filled b nb (o + k) n nx wr) ∧ rdN s.data.toList (K - (k + 1)) nx = none ∧ (ns ++ [n]).length = k + 1 from
          ⟨by have := HS.out.put _ _ _ n nx HI.out.1 (by rw [HI.out.2.2]; exact hlt); rw [HI.out.2.2] at this; exact this, by rw [← e3]; congr 1, by rw [List.length_append, HI.out.2.2]; rfl⟩)
        have NU := Lib.hid (number_yes b s a n nx wr (HS.out.c0 _ _ _ HI.out.1) (HS.out.c1 _ _ _ HI.out.1) (HS.out.z1 _ _ _ HI.out.1) HSz.out e1)
        clear e1 e3 HI
        go_wp2_with fail
        refine NU.out.mono ?_; rintro e w3 ⟨rfl, rfl⟩
        clear NU
        unfold filled at NX
        generalize wr.drew.setCell ⟨b, 1, none⟩ (.int .i64 nx) = w5 at *
        clear r0
        go_wp2_with fail
        go_roundw
        case rel => exact ⟨k + 1, _, nx, by omega, by go_num, NX⟩
        case measure => simp [intOf]; omega
    · exfalso
      have h2 := HI.out.2.1
      rw [show K - k = 0 by omega] at h2
      unfold rdN at h2
      cases h2
end Go.Proofs.YtihohjgjklcnlaaDoor

namespace Go.Proofs.YtihohjgjklcnlaaDoor
open Go.RowKit Go.Shelf
abbrev rdBox (s : ByteArray) (a : Int) (v2 v3 v4 v5 v6 : Value) : Obj := .cells #[.string s, .int .i64 a, v2, v3, v4, v5, v6] 99
/-- A box whose first cells hold the numbers, the others what they held. -/
def elemA (arr : List Value) (ns : List Int) : Array Value := (ns.map (Value.int .i64) ++ arr.drop ns.length).toArray
theorem elemA_put {arr : List Value} {ns : List Int} (n : Int) (h : ns.length < arr.length) : (elemA arr ns).setIfInBounds (0 + ns.length) (.int .i64 n) = elemA arr (ns ++ [n]) := by
  unfold elemA
  have key : (arr.drop ns.length).set 0 (.int .i64 n) = .int .i64 n :: arr.drop (ns.length + 1) := by rw [List.drop_eq_getElem_cons h]; rfl
  rw [List.setIfInBounds_toArray, List.set_append_right _ _ (by simp)]
  simp [key]
theorem elemA_at {arr : List Value} {ns : List Int} {j : Nat} (h : j < arr.length) : ∃ v, (elemA arr ns)[0 + j]? = some v := by
  have : 0 + j < (elemA arr ns).size := by unfold elemA; simp; omega
  exact ⟨_, Array.getElem?_eq_getElem this⟩
def SBox (b nx : Nat) (s : ByteArray) (v2 v3 v4 v5 v6 : Value) (arr : List Value) (ty : TypeId) (w5 : World) (ns : List Int) (a : Int) (W : World) : Prop :=
  Ch (fun k => k = b ∨ k = nx) w5 W ∧ W.heap[b]? = some (rdBox s a v2 v3 v4 v5 v6) ∧ W.heap[nx]? = some (.cells (elemA arr ns) ty)
theorem fillS_box {b nx nr K : Nat} {s : ByteArray} {v2 v3 v4 v5 v6 : Value} {arr : List Value} {ty : TypeId} {w5 : World} (hbx : b ≠ nx) (hrb : nr ≠ b) (hrx : nr ≠ nx) (hK : arr.length = K)
    (hrow : w5.heap[nr]? = some (.cells ((List.range K).map fun i => Value.pointer (some ⟨nx, 0 + i, none⟩)).toArray 138)) : FillS b s nx 0 nr K (SBox b nx s v2 v3 v4 v5 v6 arr ty w5) where
  c0 := fun ns a W ⟨_, h, _⟩ => box_cell h 0 _ rfl
  c1 := fun ns a W ⟨_, h, _⟩ => box_cell h 1 _ rfl
  z1 := fun ns a W ⟨_, h, _⟩ => box_fz h 1
  row := fun ns a W ⟨hc, _, _⟩ j hj => by
    have h := (hc.block nr (lt_of_block hrow) (by omega)).trans hrow
    exact box_cell h j _ (by rw [ptr_at hj]; simp)
  place := fun ns a W nx' ⟨_, _, h⟩ j hj => by
    have h1 : (W.drew.setCell ⟨b, 1, none⟩ (.int .i64 nx')).heap[nx]? = some (.cells (elemA arr ns) ty) := (Below.heap_setCell _ _ _ _ (by simpa using hbx.symm)).trans h
    obtain ⟨v, hv⟩ := elemA_at (arr := arr) (ns := ns) (j := j) (by omega)
    exact ⟨⟨v, box_cell h1 _ v hv⟩, box_fz h1 _⟩
  put := fun ns a W n nx' ⟨hc, hb, h⟩ hlt => by
    have h1 : (W.drew.setCell ⟨b, 1, none⟩ (.int .i64 nx')).heap[nx]? = some (.cells (elemA arr ns) ty) := (Below.heap_setCell _ _ _ _ (by simpa using hbx.symm)).trans h
    have h2 : (W.drew.setCell ⟨b, 1, none⟩ (.int .i64 nx')).heap[b]? = some (rdBox s nx' v2 v3 v4 v5 v6) := block_set (w := W.drew) hb (o := 1) _
    have h3 := block_set h1 (o := 0 + ns.length) (.int .i64 n)
    rw [elemA_put n (by omega)] at h3
    have c1 : Ch (fun k => k = b ∨ k = nx) W (W.drew.setCell ⟨b, 1, none⟩ (.int .i64 nx')) := ((Ch.refl _ W).drewN 1).trans (one_ch W.drew b 1 _) (fun _ _ e => .inl e)
    have c2 := one_ch (W.drew.setCell ⟨b, 1, none⟩ (.int .i64 nx')) nx (0 + ns.length) (.int .i64 n)
    exact ⟨(hc.trans c1 (fun _ _ e => e)).trans c2 (fun _ _ e => .inr e), (Below.heap_setCell _ _ _ _ (by simpa using hbx)).trans h2, h3⟩
end Go.Proofs.YtihohjgjklcnlaaDoor
