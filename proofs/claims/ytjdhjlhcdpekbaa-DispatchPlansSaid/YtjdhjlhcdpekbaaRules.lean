/-
  The statements' rules, as an integer determines them.
-/
import Derived.Test.YtjdhjlhcdpekbaaJobs
namespace Go.Proofs.Ytjdhjlhcdpekbaa
open Go.RowKit Go.Shelf Go.Sort Dsp

def rulesGo : Nat → Int → List Int → List Int
  | 0, _, out => out
  | f + 1, n, out => rulesGo f (n / 7) (if n % 7 = 0 ∨ n % 7 ∈ out then out else out ++ [n % 7])
def rulesL (n : Int) : List Int := rulesGo 4 (pickZ n 10000) []
def GoodR (l : List Int) : Prop := (∀ x ∈ l, 1 ≤ x ∧ x ≤ 6) ∧ l.Nodup
theorem GoodR.step {l : List Int} {n : Int} (h : GoodR l) : GoodR (if n % 7 = 0 ∨ n % 7 ∈ l then l else l ++ [n % 7]) := by
  split
  · exact h
  · rename_i hn
    have h1 : n % 7 ≠ 0 := fun e => hn (.inl e)
    have h2 : n % 7 ∉ l := fun e => hn (.inr e)
    refine ⟨fun x hx => ?_, List.nodup_append.2 ⟨h.2, by simp, ?_⟩⟩
    · rcases List.mem_append.1 hx with hx | hx
      · exact h.1 x hx
      · simp at hx; omega
    · intro a ha b hb e
      simp at hb; subst hb; subst e; exact h2 ha
theorem rulesGo_good : ∀ (f : Nat) (n : Int) (out : List Int), GoodR out → GoodR (rulesGo f n out)
  | 0, _, _, h => h
  | f + 1, n, _, h => by unfold rulesGo; exact rulesGo_good f _ _ h.step
theorem rulesGo_len : ∀ (f : Nat) (n : Int) (out : List Int), (rulesGo f n out).length ≤ out.length + f
  | 0, _, _ => Nat.le_refl _
  | f + 1, n, out => by
    unfold rulesGo
    refine Nat.le_trans (rulesGo_len f _ _) ?_
    split
    · omega
    · simp; omega
theorem rulesL_good (n : Int) : GoodR (rulesL n) := rulesGo_good _ _ _ ⟨(fun x hx => by cases hx), List.nodup_nil⟩
theorem rulesL_len (n : Int) : (rulesL n).length ≤ 4 := by have := rulesGo_len 4 (pickZ n 10000) []; unfold rulesL; simpa using this
theorem contains_snoc (l : List Int) (x r : Int) : (l ++ [x]).contains r = (l.contains r || r == x) := by by_cases h : r = x <;> simp [h]

theorem good_valid {l : List Int} (h : GoodR l) : validR l = true := by
  rw [validR_iff]
  intro i hi
  unfold okAt
  rw [List.getElem?_eq_getElem hi]
  have h1 := h.1 _ (List.getElem_mem hi)
  simp only [Option.getD_some, Bool.and_eq_true, decide_eq_true_eq, Bool.not_eq_true']
  refine ⟨h1, ?_⟩
  have hd := h.2
  rw [← List.take_append_drop i l, List.drop_eq_getElem_cons hi] at hd
  have hn := (List.nodup_append.1 hd).2.2
  cases hc : (l.take i).contains l[i]
  · rfl
  · exact absurd rfl (hn l[i] (List.contains_iff_mem.1 hc) l[i] List.mem_cons_self)
theorem rulesL_valid (n : Int) : validR (rulesL n) = true := good_valid (rulesL_good n)

set_option maxRecDepth 100000 in
set_option maxHeartbeats 4000000 in
theorem rules_any (n : Int) (w : World) (hn : Fits n) : Calls Try.prog 18 #[.int .i64 n] w (NewInts w (rulesL n)) := by
  unfold NewInts
  obtain ⟨i0, hi, hz0, hz1, hz2⟩ := info_parts info_int
  have HP := Lib.hid (fun w => pick_any n 10000 w hn (by omega))
  have hb := pickZ_bd (c := n) (n := 10000) (by omega)
  have HR : Hid (rulesL n = rulesGo 4 (pickZ n 10000) []) := Lib.hid rfl
  generalize pickZ n 10000 = q0 at *
  clear hn
  go_enter Try.func18, Try.ntmps18
  go_wp2_with fail
  refine (HP.out _).mono ?_
  rintro _ w0 ⟨rfl, rfl⟩
  go_wp2_with fail
  go_loopw [0, 3, 4] (fun nn vv i wr => ∃ (k : Nat) (q : Int) (v : Value) (out : List Int), k ≤ 4 ∧ nn = .int .i64 q ∧ i = .int .i64 (k : Int) ∧ v = vv ∧ 0 ≤ q ∧ q < 10000 ∧ Hid (rulesL n = rulesGo (4 - k) q out) ∧ Hid (out.length ≤ k) ∧ Hid (IntOwn wr w.heap.size v out) ∧ Hid (Below w.heap.size w wr)) (fun _ _ i _ => 4 - (intOf i).toNat)
  case atStart => exact ⟨0, q0, _, [], by omega, rfl, rfl, rfl, hb.1, hb.2, HR, Lib.hid (Nat.le_refl _), Lib.hid (IntOwn.nil _ _), Lib.hid (Below.refl _ _)⟩
  case round =>
    obtain ⟨k, q, v, out, hk, rfl, rfl, rfl, hq0, hq1, HG, HL, HV, HB⟩ := hrel
    by_cases hlt : k < 4
    · have k2 : (k : Int) < 4 := by omega
      have hm : q.tmod 7 = q % 7 := Int.tmod_eq_emod_of_nonneg hq0
      have hd : q.tdiv 7 = q / 7 := Int.tdiv_eq_ediv_of_nonneg hq0
      obtain ⟨r, hr⟩ : ∃ r, q % 7 = r := ⟨_, rfl⟩
      obtain ⟨p, hp⟩ : ∃ p, q / 7 = p := ⟨_, rfl⟩
      have r0 : 0 ≤ r ∧ r < 7 := by omega
      have p0 : 0 ≤ p ∧ p < 10000 := by omega
      have HS := Lib.hid (show rulesGo (4 - k) q out = rulesGo (4 - (k + 1)) p (if r = 0 ∨ r ∈ out then out else out ++ [r]) by
        rw [show 4 - k = (4 - (k + 1)) + 1 by omega, rulesGo, hr, hp])
      have d1 : IntKind.i64.wrap r = r := IntWalk.i64_in _ (by omega)
      have d2 : IntKind.i64.wrap p = p := IntWalk.i64_in _ (by omega)
      rw [hr] at hm
      rw [hp] at hd
      have hol := HL.out
      have hs := HB.out.size
      obtain ⟨av, cv, hv, ha⟩ := HV.out.arg
      subst hv
      have HA := Lib.hid ha
      clear hr hp ha
      go_wp2_with fail
      go_loopw [6, 7] (fun kn j w2 => ∃ (t : Nat) (K : Bool), t ≤ out.length ∧ kn = .bool K ∧ Hid (K = (decide (r = 0) || (out.take t).contains r)) ∧ j = .int .i64 (t : Int) ∧ w2 = wr) (fun _ j _ => out.length - (intOf j).toNat)
      case atStart => exact ⟨0, _, Nat.zero_le _, rfl, Lib.hid (by by_cases h : r = 0 <;> simp [h]), rfl, rfl⟩
      case round =>
        obtain ⟨t, K, ht, rfl, HK, rfl, rfl⟩ := hrel
        by_cases hlt2 : t < out.length
        · obtain ⟨g, off, rfl, hg, hc⟩ := HA.out.2.2 t hlt2
          have HS2 := Lib.hid (show (out.take (t + 1)).contains r = ((out.take t).contains r || r == out[t]) by rw [List.take_succ_eq_append_getElem hlt2, contains_snoc])
          have t0 : (0 : Int) ≤ (t : Int) := by omega
          have t1 : (t : Int) < (out.length : Int) := by omega
          generalize out[t] = x at *
          cases K with
          | true =>
            have HK2 := Lib.hid (show true = (decide (r = 0) || (out.take (t + 1)).contains r) by rw [HS2.out, ← Bool.or_assoc, ← HK.out]; rfl)
            go_wp2_with fail
            go_roundw
            case rel => exact ⟨t + 1, _, hlt2, rfl, HK2, by go_num, by trivial⟩
            case measure => simp [intOf]; omega
          | false =>
            by_cases hx : x = r
            · have HK2 := Lib.hid (show true = (decide (r = 0) || (out.take (t + 1)).contains r) by rw [HS2.out, hx]; simp)
              have hxb : (x == r) = true := by simp [hx]
              clear hx
              go_wp2_with fail
              go_roundw
              case rel => exact ⟨t + 1, _, hlt2, rfl, HK2, by go_num, by trivial⟩
              case measure => simp [intOf]; omega
            · have HK2 := Lib.hid (show false = (decide (r = 0) || (out.take (t + 1)).contains r) by rw [HS2.out, ← Bool.or_assoc, ← HK.out]; simp; exact fun e => hx e.symm)
              have hxb : (x == r) = false := by simp [hx]
              go_wp2_with fail
              go_roundw
              case rel => exact ⟨t + 1, _, hlt2, rfl, HK2, by go_num, by trivial⟩
              case measure => simp [intOf]; omega
        · have t1 : ¬ (t : Int) < (out.length : Int) := by omega
          have HK3 := Lib.hid (show K = (decide (r = 0) || out.contains r) by have := HK.out; rw [List.take_of_length_le (by omega)] at this; exact this)
          cases K with
          | true =>
            have HE := Lib.hid (show (if r = 0 ∨ r ∈ out then out else out ++ [r]) = out by
              have := HK3.out.symm; simp at this; rw [if_pos this])
            rw [HE.out] at HS
            have HG2 := Lib.hid (HG.out.trans HS.out)
            go_wp2_with fail
            go_roundw
            case rel => exact ⟨k + 1, p, _, out, hlt, rfl, by go_num, rfl, p0.1, p0.2, HG2, Lib.hid (by omega), HV, HB⟩
            case measure => simp [intOf]; omega
          | false =>
            have HE := Lib.hid (show (if r = 0 ∨ r ∈ out then out else out ++ [r]) = out ++ [r] by
              have := HK3.out.symm; simp at this; rw [if_neg (by rintro (h | h); exact this.1 h; exact this.2 h)])
            rw [HE.out] at HS
            have HG2 := Lib.hid (HG.out.trans HS.out)
            go_wp2_with (at_builtin; refine wpList_append_own _ rfl _ _ 23 rfl w.heap.size 3 i0 (.int .i64 0) 1 8 Try.underlying23 hi hz0 hz1 hz2 rfl (by decide) _ _ _ rfl (HV.out.alloc _) ⟨_, 0, none⟩ 1 1 [.int .i64 r] rfl rfl (cell_one_new _ _ _) (by simp [Value.oneCell']) (by unfold maxLen; omega) (by omega) (by simp; omega) ?_; intro v' w6 hown' hgrow _)
            have O6 := Lib.hid (IntOwn.snoc hown')
            have G6 := Lib.hid (HB.out.trans (((Below.refl w.heap.size wr).alloc hs (.cells #[.int .i64 r] 3)).grown hgrow (by simp; omega) (fun kk e => (HV.out.lt kk e).1)))
            clear hown' hgrow
            go_wp2_with fail
            go_roundw
            case rel => exact ⟨k + 1, p, _, out ++ [r], hlt, rfl, by go_num, rfl, p0.1, p0.2, HG2, Lib.hid (by simp; omega), O6, G6⟩
            case measure => simp [intOf]; omega
    · obtain rfl : k = 4 := by omega
      have HE := Lib.hid (show IntOwn wr w.heap.size v (rulesL n) by rw [HG.out]; exact HV.out)
      go_wp2_with fail
      go_ret
      exact ⟨_, rfl, HE.out, HB.out⟩
end Go.Proofs.Ytjdhjlhcdpekbaa
