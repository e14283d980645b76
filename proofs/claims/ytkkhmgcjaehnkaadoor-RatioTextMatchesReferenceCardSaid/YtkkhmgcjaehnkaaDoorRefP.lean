/-
  The reference's read and Parse. Condition: a string of at most 1000 bytes (read: 11).
-/
import Derived.Test.YtkkhmgcjaehnkaaDoorRefD
import Derived.Test.YtkkhmgcjaehnkaaDoorRefTextM
namespace Go.Proofs.YtkkhmgcjaehnkaaDoor
open Go.RowKit Go.Shelf

theorem take_snoc (s : ByteArray) (k : Nat) (h : k < s.size) : s.data.toList.take (k + 1) = s.data.toList.take k ++ [s[k]] := by
  rw [List.take_succ_eq_append_getElem (by simpa using h)]; rfl
theorem rdF_snoc (s : ByteArray) (k : Nat) (h : k < s.size) :
    Ra.rdF 0 (s.data.toList.take (k + 1)) = if 48 ≤ (s[k].toNat : Int) ∧ (s[k].toNat : Int) ≤ 57 then 10 * Ra.rdF 0 (s.data.toList.take k) + (s[k].toNat - 48) else Ra.rdF 0 (s.data.toList.take k) := by
  rw [take_snoc s k h, Ra.rdF_append]
  show (if 48 ≤ s[k].toNat ∧ s[k].toNat ≤ 57 then _ else _) = _
  by_cases hh : 48 ≤ s[k].toNat ∧ s[k].toNat ≤ 57
  · rw [if_pos hh, if_pos (by omega)]
  · rw [if_neg hh, if_neg (by omega)]

set_option maxHeartbeats 1000000 in
theorem refRead_any (s : ByteArray) (w : World) (hs : s.size ≤ 11) :
    Calls Tryd.prog 28 #[.string s] w fun e w' => e = .returned (.int .i64 (Ra.rd s.data.toList)) ∧ w' = w := by
  go_enter Tryd.func28, Tryd.ntmps28
  go_wp2
  go_loop [3, 4] (fun n i => ∃ k r : Nat, k ≤ s.size ∧ i = .int .i64 k ∧ n = .int .i64 r ∧ Hid (r = Ra.rdF 0 (s.data.toList.take k))) (fun _ i => s.size - (intOf i).toNat)
  case atStart => exact ⟨0, 0, Nat.zero_le _, rfl, rfl, Lib.hid rfl⟩
  case round =>
    obtain ⟨k, r, hk, rfl, rfl, HR⟩ := hrel
    have hr : r < 100000000000 := by
      rw [HR.out]; exact Ra.rdF_small (by rw [List.length_take]; omega)
    by_cases hlt : k < s.size
    · have HS := Lib.hid (rdF_snoc s k hlt)
      have h8 := (s[k]).toNat_lt
      go_wp2
      all_goals
        go_round
        case rel => first
          | exact ⟨k + 1, 10 * r + (s[k].toNat - 48), by omega, by go_num, by go_num, Lib.hid (by rw [HS.out, if_pos ⟨‹_›, ‹_›⟩, ← HR.out])⟩
          | exact ⟨k + 1, r, by omega, by go_num, rfl, Lib.hid (by rw [HS.out, if_neg (by omega)]; exact HR.out)⟩
        case measure => simp [intOf]; omega
    · have hk' : k = s.size := by omega
      have hv : Ra.rdF 0 s.data.toList = r := by
        rw [HR.out, List.take_of_length_le (by simp; omega)]
      have HV := Lib.hid hv
      clear hv HR
      by_cases he : s.size = 0
      · have e1 : s.toList = [] := by
          rw [Lib.toList_data]; exact List.eq_nil_of_length_eq_zero (by simpa using he)
        have e3 : s.data.toList.head? = none := by rw [← Lib.toList_data, e1]; rfl
        have HD := Lib.hid e3; clear e3
        have e2 : (!s.toList.isEmpty) = false := by rw [e1]; rfl
        go_wp2
        go_ret
        exact ⟨ret_int (by unfold Ra.rd; rw [HD.out, HV.out]; rfl), rfl⟩
      · have hz : 0 < s.size := by omega
        have e1 : s.data.toList.head? = some s[0] := by
          rw [List.head?_eq_getElem?, List.getElem?_eq_getElem (by simpa using hz)]; rfl
        have e2 : (!s.toList.isEmpty) = true := by
          rw [Lib.toList_data]; cases h : s.data.toList with
          | nil => rw [h] at e1; cases e1
          | cons => rfl
        have HD := Lib.hid e1; clear e1
        by_cases hm : s[0] = 45
        · have hm1 : ((s[0].toNat : Int) == 45) = true := by rw [hm]; rfl
          have HM := Lib.hid hm; clear hm
          go_wp2
          go_ret
          exact ⟨ret_int (by unfold Ra.rd; rw [HD.out, HM.out, if_pos rfl, HV.out]), rfl⟩
        · have hm1 : ((s[0].toNat : Int) == 45) = false := by
            rw [beq_eq_false_iff_ne]; intro h; apply hm; apply UInt8.toNat.inj; show s[0].toNat = 45; omega
          have HM := Lib.hid hm; clear hm
          go_wp2
          go_ret
          exact ⟨ret_int (by unfold Ra.rd; rw [HD.out, if_neg (fun h => HM.out (Option.some.inj h)), HV.out]), rfl⟩

theorem extract_list (s : ByteArray) (i j : Nat) : (s.extract i j).data.toList = (s.data.toList.take j).drop i := by
  rw [ByteArray.data_extract, Array.toList_extract, List.extract_eq_take_drop, List.drop_take]

/-- The fraction's block and the result's, while the reference's Parse runs. -/
structure RefAt (w : World) (n d : Int) (w' : World) : Prop where
  r : BoxAt w' w.heap.size 0 0
  a : BoxAt w' (w.heap.size + 1) n d
  fr : ∀ o, w'.frozen? ⟨w.heap.size, o, none⟩ = false
  fa : ∀ o, w'.frozen? ⟨w.heap.size + 1, o, none⟩ = false
  bel : Below w.heap.size w w'
theorem RefAt.new (w : World) (n d : Int) : RefAt w n d ((w.alloc (.cells #[.int .i64 0, .int .i64 0] 27)).alloc (.cells #[.int .i64 n, .int .i64 d] 27)) := by
  have b := BoxAt.new (w.alloc (.cells #[.int .i64 0, .int .i64 0] 27)) n d
  rw [World.size_alloc] at b
  exact ⟨(BoxAt.new w 0 0).below (below_new _ _), b, fun o => by simp [go_sem], fun o => by simp [go_sem], below_step (below_new _ _) (below_new _ _)⟩
theorem RefAt.step {w : World} {n d : Int} {w1 w2 : World} (h : RefAt w n d w1) (hb : Below w1.heap.size w1 w2) : RefAt w n d w2 :=
  ⟨h.r.below hb, h.a.below hb, fun o => (hb.frozen (p := ⟨w.heap.size, o, none⟩) h.r.1).trans (h.fr o), fun o => (hb.frozen (p := ⟨w.heap.size + 1, o, none⟩) h.a.1).trans (h.fa o), below_step h.bel hb⟩

set_option maxHeartbeats 1000000 in
theorem refParse_long (s : ByteArray) (w : World) (hs : 22 < s.size) (hm : s.size ≤ 1000) :
    Calls Tryd.prog 10 #[.string s] w fun e w' => e = .returned (.tuple #[ratV 0 0, .int .i64 30]) ∧ Below w.heap.size w w' := by
  have h1 : decide (22 < (s.size : Int)) = true := by simp; omega
  go_enter Tryd.func10, Tryd.ntmps10
  go_wp2_with fail
  refine bodyPost_ret (v := .tuple #[ratV 0 0, .int .i64 30]) (by simp [results, Tryd.results10, go_sem]) rfl ⟨rfl, ?_⟩
  repeat (first | exact below_new _ _ | refine Below.setCell ?_ (by simp) _)

set_option maxRecDepth 100000 in
set_option maxHeartbeats 2000000 in
theorem refParse_plain_bad (s : ByteArray) (w : World) (hs : s.size ≤ 22) (n d : Int) (hn : Ra.refNum s.data.toList = n) (hp : Ra.slash s.data.toList = s.size) (hd : 1 = d) (fn : Fits n ∧ Fits d) (ho : ¬ Ra.Ok n d) :
    Calls Tryd.prog 10 #[.string s] w fun e w' => e = .returned (.tuple #[ratV 0 0, .int .i64 30]) ∧ Below w.heap.size w w' := by
  have h1 : decide (22 < (s.size : Int)) = false := by simp; omega
  have hlen : s.data.toList.length = s.size := by simp
  obtain ⟨p, hp0⟩ : ∃ p, Ra.slash s.data.toList = p := ⟨_, rfl⟩
  rw [hp0] at hp
  have hps : p ≤ s.size := by have := Ra.slash_le s.data.toList; omega
  obtain ⟨SA, hSA⟩ : ∃ S, s.extract 0 (min (p : Int) 11).toNat = S := ⟨_, rfl⟩
  have rA : Ra.rd SA.data.toList = n := by
    rw [← hSA, extract_list, show (min (p : Int) 11).toNat = min p 11 by omega, ← hn]; unfold Ra.refNum; rw [hp0]; rfl
  have sA : SA.size ≤ 11 := by rw [← hSA, ByteArray.size_extract]; omega
  have ra := fun w => refRead_any SA w sA
  rw [rA] at ra
  have a1 : (0 : Int) ≤ min (p : Int) 11 := by omega
  have a2 : min (p : Int) 11 ≤ (s.size : Int) := by omega
  subst hd
  have hq : decide (p < s.size) = false := by simp; omega
  have va := fun w => refValid_any n 1 w fn.1.1 fn.1.2 fn.2.1 fn.2.2
  rw [okB_false ho] at va
  have VA := Lib.hid va; have RA := Lib.hid ra
  have HP := Lib.hid hp0
  clear va ra rA sA hn fn ho hp
  go_enter Tryd.func10, Tryd.ntmps10
  go_wp2_with fail
  go_loop [5, 6] (fun x i => ∃ j q : Nat, j ≤ s.size ∧ (∃ y : Int, i = .int .i64 y ∧ Hid (y = (j : Int) - 1)) ∧ x = .int .i64 q ∧ Hid (q = j + Ra.slash (s.data.toList.drop j)) ∧ q ≤ s.size) (fun _ i => (intOf i + 1).toNat)
  case atStart => exact ⟨s.size, s.size, Nat.le_refl _, ⟨_, rfl, Lib.hid rfl⟩, rfl, Lib.hid (by rw [List.drop_of_length_le (by simp)]; rfl), Nat.le_refl _⟩
  case round =>
    obtain ⟨j, q, hj, ⟨y, rfl, HY⟩, rfl, HQ, hqs⟩ := hrel
    by_cases hj0 : 1 ≤ j
    · obtain ⟨k, rfl⟩ : ∃ k, j = k + 1 := ⟨j - 1, by omega⟩
      have hk : k < s.size := by omega
      have hst := Ra.slash_step (l := s.data.toList) (i := k) (by simpa using hk)
      rw [show s.data.toList[k]'(by simpa using hk) = s[k] from rfl] at hst
      have HS := Lib.hid hst
      obtain rfl : y = (k : Int) := by have := HY.out; omega
      clear hst HY
      by_cases hm : s[k] = 47
      · have hm1 : ((s[k].toNat : Int) == 47) = true := by rw [hm]; rfl
        have HM := Lib.hid hm; clear hm
        go_wp2_with fail
        go_round
        case rel => exact ⟨k, k, by omega, ⟨_, rfl, Lib.hid rfl⟩, rfl, Lib.hid (by rw [HS.out, if_pos HM.out]; omega), by omega⟩
        case measure => simp [intOf]
      · have hm1 : ((s[k].toNat : Int) == 47) = false := by
          rw [beq_eq_false_iff_ne]; intro h; apply hm; apply UInt8.toNat.inj; show s[k].toNat = 47; omega
        have HM := Lib.hid hm; clear hm
        go_wp2_with fail
        go_round
        case rel => exact ⟨k, q, by omega, ⟨_, rfl, Lib.hid rfl⟩, rfl, Lib.hid (by have := HQ.out; rw [HS.out, if_neg HM.out]; omega), hqs⟩
        case measure => simp [intOf]
    · obtain rfl : y = -1 := by have := HY.out; omega
      obtain rfl : q = p := by
        have := HQ.out; rw [show j = 0 by omega, List.drop_zero, HP.out] at this; omega
      clear HY HQ hj0 hj
      go_wp2_with fail
      refine (RA.out _).mono ?_; rintro e w1 ⟨rfl, rfl⟩
      go_wp2_with fail
      refine (VA.out _).mono ?_; rintro e w1 ⟨rfl, g1⟩
      have R1 := Lib.hid ((RefAt.new w n 1).step g1)
      have r0 := R1.out.r.2.1; have r1 := R1.out.r.2.2; have f0 := R1.out.fr 0; have f1 := R1.out.fr 1; have a3 := R1.out.a.2.1; have a4 := R1.out.a.2.2
      go_wp2_with fail
      refine bodyPost_ret (v := .tuple #[ratV 0 0, .int .i64 30]) (by simp [results, Tryd.results10, go_sem, r0, r1]) rfl ⟨rfl, ?_⟩
      exact (R1.out.bel.setCell (Nat.le_refl _) _).setCell (Nat.le_refl _) _

set_option maxRecDepth 100000 in
set_option maxHeartbeats 2000000 in
theorem refParse_plain_other (s : ByteArray) (w : World) (hs : s.size ≤ 22) (n d : Int) (hn : Ra.refNum s.data.toList = n) (hp : Ra.slash s.data.toList = s.size) (hd : 1 = d) (fn : Fits n ∧ Fits d) (ho : Ra.Ok n d) (hx : Ra.txt n d ≠ s.data.toList) :
    Calls Tryd.prog 10 #[.string s] w fun e w' => e = .returned (.tuple #[ratV 0 0, .int .i64 30]) ∧ Below w.heap.size w w' := by
  have h1 : decide (22 < (s.size : Int)) = false := by simp; omega
  have hlen : s.data.toList.length = s.size := by simp
  obtain ⟨p, hp0⟩ : ∃ p, Ra.slash s.data.toList = p := ⟨_, rfl⟩
  rw [hp0] at hp
  have hps : p ≤ s.size := by have := Ra.slash_le s.data.toList; omega
  obtain ⟨SA, hSA⟩ : ∃ S, s.extract 0 (min (p : Int) 11).toNat = S := ⟨_, rfl⟩
  have rA : Ra.rd SA.data.toList = n := by
    rw [← hSA, extract_list, show (min (p : Int) 11).toNat = min p 11 by omega, ← hn]; unfold Ra.refNum; rw [hp0]; rfl
  have sA : SA.size ≤ 11 := by rw [← hSA, ByteArray.size_extract]; omega
  have ra := fun w => refRead_any SA w sA
  rw [rA] at ra
  have a1 : (0 : Int) ≤ min (p : Int) 11 := by omega
  have a2 : min (p : Int) 11 ≤ (s.size : Int) := by omega
  subst hd
  have hq : decide (p < s.size) = false := by simp; omega
  have va := fun w => refValid_any n 1 w fn.1.1 fn.1.2 fn.2.1 fn.2.2
  rw [okB_true ho] at va
  have ta := fun w => refText_any n 1 w ho
  obtain ⟨U, hU⟩ : ∃ U, txtB n 1 = U := ⟨_, rfl⟩
  rw [hU] at ta
  have hne : ¬ U.toList = s.toList := by rw [Lib.toList_data, Lib.toList_data, ← hU]; exact hx
  have e5 : (U.toList != s.toList) = true := by rw [bne_iff_ne]; exact hne
  have e6 : (U.toList == s.toList) = false := by rw [beq_eq_false_iff_ne]; exact hne
  have e7 : ¬ U = s := fun h => hne (by rw [h])
  have TA := Lib.hid ta; clear ta hx hU hne
  have VA := Lib.hid va; have RA := Lib.hid ra
  have HP := Lib.hid hp0
  clear va ra rA sA hn fn ho hp
  go_enter Tryd.func10, Tryd.ntmps10
  go_wp2_with fail
  go_loop [5, 6] (fun x i => ∃ j q : Nat, j ≤ s.size ∧ (∃ y : Int, i = .int .i64 y ∧ Hid (y = (j : Int) - 1)) ∧ x = .int .i64 q ∧ Hid (q = j + Ra.slash (s.data.toList.drop j)) ∧ q ≤ s.size) (fun _ i => (intOf i + 1).toNat)
  case atStart => exact ⟨s.size, s.size, Nat.le_refl _, ⟨_, rfl, Lib.hid rfl⟩, rfl, Lib.hid (by rw [List.drop_of_length_le (by simp)]; rfl), Nat.le_refl _⟩
  case round =>
    obtain ⟨j, q, hj, ⟨y, rfl, HY⟩, rfl, HQ, hqs⟩ := hrel
    by_cases hj0 : 1 ≤ j
    · obtain ⟨k, rfl⟩ : ∃ k, j = k + 1 := ⟨j - 1, by omega⟩
      have hk : k < s.size := by omega
      have hst := Ra.slash_step (l := s.data.toList) (i := k) (by simpa using hk)
      rw [show s.data.toList[k]'(by simpa using hk) = s[k] from rfl] at hst
      have HS := Lib.hid hst
      obtain rfl : y = (k : Int) := by have := HY.out; omega
      clear hst HY
      by_cases hm : s[k] = 47
      · have hm1 : ((s[k].toNat : Int) == 47) = true := by rw [hm]; rfl
        have HM := Lib.hid hm; clear hm
        go_wp2_with fail
        go_round
        case rel => exact ⟨k, k, by omega, ⟨_, rfl, Lib.hid rfl⟩, rfl, Lib.hid (by rw [HS.out, if_pos HM.out]; omega), by omega⟩
        case measure => simp [intOf]
      · have hm1 : ((s[k].toNat : Int) == 47) = false := by
          rw [beq_eq_false_iff_ne]; intro h; apply hm; apply UInt8.toNat.inj; show s[k].toNat = 47; omega
        have HM := Lib.hid hm; clear hm
        go_wp2_with fail
        go_round
        case rel => exact ⟨k, q, by omega, ⟨_, rfl, Lib.hid rfl⟩, rfl, Lib.hid (by have := HQ.out; rw [HS.out, if_neg HM.out]; omega), hqs⟩
        case measure => simp [intOf]
    · obtain rfl : y = -1 := by have := HY.out; omega
      obtain rfl : q = p := by
        have := HQ.out; rw [show j = 0 by omega, List.drop_zero, HP.out] at this; omega
      clear HY HQ hj0 hj
      go_wp2_with fail
      refine (RA.out _).mono ?_; rintro e w1 ⟨rfl, rfl⟩
      go_wp2_with fail
      refine (VA.out _).mono ?_; rintro e w1 ⟨rfl, g1⟩
      have R1 := Lib.hid ((RefAt.new w n 1).step g1)
      have a3 := R1.out.a.2.1; have a4 := R1.out.a.2.2
      go_wp2_with fail
      clear a3 a4
      refine (TA.out _).mono ?_; rintro e w2 ⟨rfl, g2⟩
      have R2 := Lib.hid (R1.out.step g2)
      have r0 := R2.out.r.2.1; have r1 := R2.out.r.2.2; have f0 := R2.out.fr 0; have f1 := R2.out.fr 1; have a3 := R2.out.a.2.1; have a4 := R2.out.a.2.2
      go_wp2_with fail
      refine bodyPost_ret (v := .tuple #[ratV 0 0, .int .i64 30]) (by simp [results, Tryd.results10, go_sem, r0, r1]) rfl ⟨rfl, ?_⟩
      exact (R2.out.bel.setCell (Nat.le_refl _) _).setCell (Nat.le_refl _) _

set_option maxRecDepth 100000 in
set_option maxHeartbeats 2000000 in
theorem refParse_plain_some (s : ByteArray) (w : World) (hs : s.size ≤ 22) (n d : Int) (hn : Ra.refNum s.data.toList = n) (hp : Ra.slash s.data.toList = s.size) (hd : 1 = d) (fn : Fits n ∧ Fits d) (ho : Ra.Ok n d) (hx : Ra.txt n d = s.data.toList) :
    Calls Tryd.prog 10 #[.string s] w fun e w' => e = .returned (.tuple #[ratV n d, .int .i64 0]) ∧ Below w.heap.size w w' := by
  have h1 : decide (22 < (s.size : Int)) = false := by simp; omega
  have hlen : s.data.toList.length = s.size := by simp
  obtain ⟨p, hp0⟩ : ∃ p, Ra.slash s.data.toList = p := ⟨_, rfl⟩
  rw [hp0] at hp
  have hps : p ≤ s.size := by have := Ra.slash_le s.data.toList; omega
  obtain ⟨SA, hSA⟩ : ∃ S, s.extract 0 (min (p : Int) 11).toNat = S := ⟨_, rfl⟩
  have rA : Ra.rd SA.data.toList = n := by
    rw [← hSA, extract_list, show (min (p : Int) 11).toNat = min p 11 by omega, ← hn]; unfold Ra.refNum; rw [hp0]; rfl
  have sA : SA.size ≤ 11 := by rw [← hSA, ByteArray.size_extract]; omega
  have ra := fun w => refRead_any SA w sA
  rw [rA] at ra
  have a1 : (0 : Int) ≤ min (p : Int) 11 := by omega
  have a2 : min (p : Int) 11 ≤ (s.size : Int) := by omega
  subst hd
  have hq : decide (p < s.size) = false := by simp; omega
  have va := fun w => refValid_any n 1 w fn.1.1 fn.1.2 fn.2.1 fn.2.2
  rw [okB_true ho] at va
  have ta := fun w => refText_any n 1 w ho
  have hx' : txtB n 1 = s := by unfold txtB; rw [hx]
  rw [hx'] at ta
  have TA := Lib.hid ta; clear ta hx hx'
  have e5 : (s.toList != s.toList) = false := by rw [bne, beq_self_eq_true]; rfl
  have VA := Lib.hid va; have RA := Lib.hid ra
  have HP := Lib.hid hp0
  clear va ra rA sA hn fn ho hp
  go_enter Tryd.func10, Tryd.ntmps10
  go_wp2_with fail
  go_loop [5, 6] (fun x i => ∃ j q : Nat, j ≤ s.size ∧ (∃ y : Int, i = .int .i64 y ∧ Hid (y = (j : Int) - 1)) ∧ x = .int .i64 q ∧ Hid (q = j + Ra.slash (s.data.toList.drop j)) ∧ q ≤ s.size) (fun _ i => (intOf i + 1).toNat)
  case atStart => exact ⟨s.size, s.size, Nat.le_refl _, ⟨_, rfl, Lib.hid rfl⟩, rfl, Lib.hid (by rw [List.drop_of_length_le (by simp)]; rfl), Nat.le_refl _⟩
  case round =>
    obtain ⟨j, q, hj, ⟨y, rfl, HY⟩, rfl, HQ, hqs⟩ := hrel
    by_cases hj0 : 1 ≤ j
    · obtain ⟨k, rfl⟩ : ∃ k, j = k + 1 := ⟨j - 1, by omega⟩
      have hk : k < s.size := by omega
      have hst := Ra.slash_step (l := s.data.toList) (i := k) (by simpa using hk)
      rw [show s.data.toList[k]'(by simpa using hk) = s[k] from rfl] at hst
      have HS := Lib.hid hst
      obtain rfl : y = (k : Int) := by have := HY.out; omega
      clear hst HY
      by_cases hm : s[k] = 47
      · have hm1 : ((s[k].toNat : Int) == 47) = true := by rw [hm]; rfl
        have HM := Lib.hid hm; clear hm
        go_wp2_with fail
        go_round
        case rel => exact ⟨k, k, by omega, ⟨_, rfl, Lib.hid rfl⟩, rfl, Lib.hid (by rw [HS.out, if_pos HM.out]; omega), by omega⟩
        case measure => simp [intOf]
      · have hm1 : ((s[k].toNat : Int) == 47) = false := by
          rw [beq_eq_false_iff_ne]; intro h; apply hm; apply UInt8.toNat.inj; show s[k].toNat = 47; omega
        have HM := Lib.hid hm; clear hm
        go_wp2_with fail
        go_round
        case rel => exact ⟨k, q, by omega, ⟨_, rfl, Lib.hid rfl⟩, rfl, Lib.hid (by have := HQ.out; rw [HS.out, if_neg HM.out]; omega), hqs⟩
        case measure => simp [intOf]
    · obtain rfl : y = -1 := by have := HY.out; omega
      obtain rfl : q = p := by
        have := HQ.out; rw [show j = 0 by omega, List.drop_zero, HP.out] at this; omega
      clear HY HQ hj0 hj
      go_wp2_with fail
      refine (RA.out _).mono ?_; rintro e w1 ⟨rfl, rfl⟩
      go_wp2_with fail
      refine (VA.out _).mono ?_; rintro e w1 ⟨rfl, g1⟩
      have R1 := Lib.hid ((RefAt.new w n 1).step g1)
      have a3 := R1.out.a.2.1; have a4 := R1.out.a.2.2
      go_wp2_with fail
      clear a3 a4
      refine (TA.out _).mono ?_; rintro e w2 ⟨rfl, g2⟩
      have R2 := Lib.hid (R1.out.step g2)
      have r0 := R2.out.r.2.1; have r1 := R2.out.r.2.2; have f0 := R2.out.fr 0; have f1 := R2.out.fr 1; have a3 := R2.out.a.2.1; have a4 := R2.out.a.2.2
      go_wp2_with fail
      refine bodyPost_ret (v := .tuple #[ratV n 1, .int .i64 0]) (by simp [results, Tryd.results10, go_sem, r0, r1]) rfl ⟨rfl, ?_⟩
      exact (R2.out.bel.setCell (Nat.le_refl _) _).setCell (Nat.le_refl _) _

set_option maxRecDepth 100000 in
set_option maxHeartbeats 2000000 in
theorem refParse_slash_bad (s : ByteArray) (w : World) (hs : s.size ≤ 22) (n d : Int) (hn : Ra.refNum s.data.toList = n) (hp : Ra.slash s.data.toList < s.size) (hd : Ra.refDen s.data.toList = d) (fn : Fits n ∧ Fits d) (ho : ¬ Ra.Ok n d) :
    Calls Tryd.prog 10 #[.string s] w fun e w' => e = .returned (.tuple #[ratV 0 0, .int .i64 30]) ∧ Below w.heap.size w w' := by
  have h1 : decide (22 < (s.size : Int)) = false := by simp; omega
  have hlen : s.data.toList.length = s.size := by simp
  obtain ⟨p, hp0⟩ : ∃ p, Ra.slash s.data.toList = p := ⟨_, rfl⟩
  rw [hp0] at hp
  have hps : p ≤ s.size := by have := Ra.slash_le s.data.toList; omega
  obtain ⟨SA, hSA⟩ : ∃ S, s.extract 0 (min (p : Int) 11).toNat = S := ⟨_, rfl⟩
  have rA : Ra.rd SA.data.toList = n := by
    rw [← hSA, extract_list, show (min (p : Int) 11).toNat = min p 11 by omega, ← hn]; unfold Ra.refNum; rw [hp0]; rfl
  have sA : SA.size ≤ 11 := by rw [← hSA, ByteArray.size_extract]; omega
  have ra := fun w => refRead_any SA w sA
  rw [rA] at ra
  have a1 : (0 : Int) ≤ min (p : Int) 11 := by omega
  have a2 : min (p : Int) 11 ≤ (s.size : Int) := by omega
  obtain ⟨SB, hSB⟩ : ∃ S, s.extract (p + 1) (min (s.size : Int) ((p : Int) + 12)).toNat = S := ⟨_, rfl⟩
  have rB : Ra.rd SB.data.toList = d := by
    rw [← hSB, extract_list, show (min (s.size : Int) ((p : Int) + 12)).toNat = min s.size (p + 12) by omega, ← hd]; unfold Ra.refDen; rw [hp0, hlen, if_pos hp]
  have sB : SB.size ≤ 11 := by rw [← hSB, ByteArray.size_extract]; omega
  have rb := fun w => refRead_any SB w sB
  rw [rB] at rb
  have b1 : (0 : Int) ≤ (p : Int) + 1 := by omega
  have b2 : (p : Int) + 1 ≤ min (s.size : Int) ((p : Int) + 12) := by omega
  have b3 : min (s.size : Int) ((p : Int) + 12) ≤ (s.size : Int) := by omega
  have RB := Lib.hid rb
  have hq : decide (p < s.size) = true := by simp; omega
  clear rB sB rb hd
  have va := fun w => refValid_any n d w fn.1.1 fn.1.2 fn.2.1 fn.2.2
  rw [okB_false ho] at va
  have VA := Lib.hid va; have RA := Lib.hid ra
  have HP := Lib.hid hp0
  clear va ra rA sA hn fn ho hp
  go_enter Tryd.func10, Tryd.ntmps10
  go_wp2_with fail
  go_loop [5, 6] (fun x i => ∃ j q : Nat, j ≤ s.size ∧ (∃ y : Int, i = .int .i64 y ∧ Hid (y = (j : Int) - 1)) ∧ x = .int .i64 q ∧ Hid (q = j + Ra.slash (s.data.toList.drop j)) ∧ q ≤ s.size) (fun _ i => (intOf i + 1).toNat)
  case atStart => exact ⟨s.size, s.size, Nat.le_refl _, ⟨_, rfl, Lib.hid rfl⟩, rfl, Lib.hid (by rw [List.drop_of_length_le (by simp)]; rfl), Nat.le_refl _⟩
  case round =>
    obtain ⟨j, q, hj, ⟨y, rfl, HY⟩, rfl, HQ, hqs⟩ := hrel
    by_cases hj0 : 1 ≤ j
    · obtain ⟨k, rfl⟩ : ∃ k, j = k + 1 := ⟨j - 1, by omega⟩
      have hk : k < s.size := by omega
      have hst := Ra.slash_step (l := s.data.toList) (i := k) (by simpa using hk)
      rw [show s.data.toList[k]'(by simpa using hk) = s[k] from rfl] at hst
      have HS := Lib.hid hst
      obtain rfl : y = (k : Int) := by have := HY.out; omega
      clear hst HY
      by_cases hm : s[k] = 47
      · have hm1 : ((s[k].toNat : Int) == 47) = true := by rw [hm]; rfl
        have HM := Lib.hid hm; clear hm
        go_wp2_with fail
        go_round
        case rel => exact ⟨k, k, by omega, ⟨_, rfl, Lib.hid rfl⟩, rfl, Lib.hid (by rw [HS.out, if_pos HM.out]; omega), by omega⟩
        case measure => simp [intOf]
      · have hm1 : ((s[k].toNat : Int) == 47) = false := by
          rw [beq_eq_false_iff_ne]; intro h; apply hm; apply UInt8.toNat.inj; show s[k].toNat = 47; omega
        have HM := Lib.hid hm; clear hm
        go_wp2_with fail
        go_round
        case rel => exact ⟨k, q, by omega, ⟨_, rfl, Lib.hid rfl⟩, rfl, Lib.hid (by have := HQ.out; rw [HS.out, if_neg HM.out]; omega), hqs⟩
        case measure => simp [intOf]
    · obtain rfl : y = -1 := by have := HY.out; omega
      obtain rfl : q = p := by
        have := HQ.out; rw [show j = 0 by omega, List.drop_zero, HP.out] at this; omega
      clear HY HQ hj0 hj
      go_wp2_with fail
      refine (RA.out _).mono ?_; rintro e w1 ⟨rfl, rfl⟩
      go_wp2_with fail
      refine (RB.out _).mono ?_; rintro e w1 ⟨rfl, rfl⟩
      go_wp2_with fail
      refine (VA.out _).mono ?_; rintro e w1 ⟨rfl, g1⟩
      have R1 := Lib.hid ((RefAt.new w n d).step g1)
      have r0 := R1.out.r.2.1; have r1 := R1.out.r.2.2; have f0 := R1.out.fr 0; have f1 := R1.out.fr 1; have a3 := R1.out.a.2.1; have a4 := R1.out.a.2.2
      go_wp2_with fail
      refine bodyPost_ret (v := .tuple #[ratV 0 0, .int .i64 30]) (by simp [results, Tryd.results10, go_sem, r0, r1]) rfl ⟨rfl, ?_⟩
      exact (R1.out.bel.setCell (Nat.le_refl _) _).setCell (Nat.le_refl _) _

set_option maxRecDepth 100000 in
set_option maxHeartbeats 2000000 in
theorem refParse_slash_other (s : ByteArray) (w : World) (hs : s.size ≤ 22) (n d : Int) (hn : Ra.refNum s.data.toList = n) (hp : Ra.slash s.data.toList < s.size) (hd : Ra.refDen s.data.toList = d) (fn : Fits n ∧ Fits d) (ho : Ra.Ok n d) (hx : Ra.txt n d ≠ s.data.toList) :
    Calls Tryd.prog 10 #[.string s] w fun e w' => e = .returned (.tuple #[ratV 0 0, .int .i64 30]) ∧ Below w.heap.size w w' := by
  have h1 : decide (22 < (s.size : Int)) = false := by simp; omega
  have hlen : s.data.toList.length = s.size := by simp
  obtain ⟨p, hp0⟩ : ∃ p, Ra.slash s.data.toList = p := ⟨_, rfl⟩
  rw [hp0] at hp
  have hps : p ≤ s.size := by have := Ra.slash_le s.data.toList; omega
  obtain ⟨SA, hSA⟩ : ∃ S, s.extract 0 (min (p : Int) 11).toNat = S := ⟨_, rfl⟩
  have rA : Ra.rd SA.data.toList = n := by
    rw [← hSA, extract_list, show (min (p : Int) 11).toNat = min p 11 by omega, ← hn]; unfold Ra.refNum; rw [hp0]; rfl
  have sA : SA.size ≤ 11 := by rw [← hSA, ByteArray.size_extract]; omega
  have ra := fun w => refRead_any SA w sA
  rw [rA] at ra
  have a1 : (0 : Int) ≤ min (p : Int) 11 := by omega
  have a2 : min (p : Int) 11 ≤ (s.size : Int) := by omega
  obtain ⟨SB, hSB⟩ : ∃ S, s.extract (p + 1) (min (s.size : Int) ((p : Int) + 12)).toNat = S := ⟨_, rfl⟩
  have rB : Ra.rd SB.data.toList = d := by
    rw [← hSB, extract_list, show (min (s.size : Int) ((p : Int) + 12)).toNat = min s.size (p + 12) by omega, ← hd]; unfold Ra.refDen; rw [hp0, hlen, if_pos hp]
  have sB : SB.size ≤ 11 := by rw [← hSB, ByteArray.size_extract]; omega
  have rb := fun w => refRead_any SB w sB
  rw [rB] at rb
  have b1 : (0 : Int) ≤ (p : Int) + 1 := by omega
  have b2 : (p : Int) + 1 ≤ min (s.size : Int) ((p : Int) + 12) := by omega
  have b3 : min (s.size : Int) ((p : Int) + 12) ≤ (s.size : Int) := by omega
  have RB := Lib.hid rb
  have hq : decide (p < s.size) = true := by simp; omega
  clear rB sB rb hd
  have va := fun w => refValid_any n d w fn.1.1 fn.1.2 fn.2.1 fn.2.2
  rw [okB_true ho] at va
  have ta := fun w => refText_any n d w ho
  obtain ⟨U, hU⟩ : ∃ U, txtB n d = U := ⟨_, rfl⟩
  rw [hU] at ta
  have hne : ¬ U.toList = s.toList := by rw [Lib.toList_data, Lib.toList_data, ← hU]; exact hx
  have e5 : (U.toList != s.toList) = true := by rw [bne_iff_ne]; exact hne
  have e6 : (U.toList == s.toList) = false := by rw [beq_eq_false_iff_ne]; exact hne
  have e7 : ¬ U = s := fun h => hne (by rw [h])
  have TA := Lib.hid ta; clear ta hx hU hne
  have VA := Lib.hid va; have RA := Lib.hid ra
  have HP := Lib.hid hp0
  clear va ra rA sA hn fn ho hp
  go_enter Tryd.func10, Tryd.ntmps10
  go_wp2_with fail
  go_loop [5, 6] (fun x i => ∃ j q : Nat, j ≤ s.size ∧ (∃ y : Int, i = .int .i64 y ∧ Hid (y = (j : Int) - 1)) ∧ x = .int .i64 q ∧ Hid (q = j + Ra.slash (s.data.toList.drop j)) ∧ q ≤ s.size) (fun _ i => (intOf i + 1).toNat)
  case atStart => exact ⟨s.size, s.size, Nat.le_refl _, ⟨_, rfl, Lib.hid rfl⟩, rfl, Lib.hid (by rw [List.drop_of_length_le (by simp)]; rfl), Nat.le_refl _⟩
  case round =>
    obtain ⟨j, q, hj, ⟨y, rfl, HY⟩, rfl, HQ, hqs⟩ := hrel
    by_cases hj0 : 1 ≤ j
    · obtain ⟨k, rfl⟩ : ∃ k, j = k + 1 := ⟨j - 1, by omega⟩
      have hk : k < s.size := by omega
      have hst := Ra.slash_step (l := s.data.toList) (i := k) (by simpa using hk)
      rw [show s.data.toList[k]'(by simpa using hk) = s[k] from rfl] at hst
      have HS := Lib.hid hst
      obtain rfl : y = (k : Int) := by have := HY.out; omega
      clear hst HY
      by_cases hm : s[k] = 47
      · have hm1 : ((s[k].toNat : Int) == 47) = true := by rw [hm]; rfl
        have HM := Lib.hid hm; clear hm
        go_wp2_with fail
        go_round
        case rel => exact ⟨k, k, by omega, ⟨_, rfl, Lib.hid rfl⟩, rfl, Lib.hid (by rw [HS.out, if_pos HM.out]; omega), by omega⟩
        case measure => simp [intOf]
      · have hm1 : ((s[k].toNat : Int) == 47) = false := by
          rw [beq_eq_false_iff_ne]; intro h; apply hm; apply UInt8.toNat.inj; show s[k].toNat = 47; omega
        have HM := Lib.hid hm; clear hm
        go_wp2_with fail
        go_round
        case rel => exact ⟨k, q, by omega, ⟨_, rfl, Lib.hid rfl⟩, rfl, Lib.hid (by have := HQ.out; rw [HS.out, if_neg HM.out]; omega), hqs⟩
        case measure => simp [intOf]
    · obtain rfl : y = -1 := by have := HY.out; omega
      obtain rfl : q = p := by
        have := HQ.out; rw [show j = 0 by omega, List.drop_zero, HP.out] at this; omega
      clear HY HQ hj0 hj
      go_wp2_with fail
      refine (RA.out _).mono ?_; rintro e w1 ⟨rfl, rfl⟩
      go_wp2_with fail
      refine (RB.out _).mono ?_; rintro e w1 ⟨rfl, rfl⟩
      go_wp2_with fail
      refine (VA.out _).mono ?_; rintro e w1 ⟨rfl, g1⟩
      have R1 := Lib.hid ((RefAt.new w n d).step g1)
      have a3 := R1.out.a.2.1; have a4 := R1.out.a.2.2
      go_wp2_with fail
      clear a3 a4
      refine (TA.out _).mono ?_; rintro e w2 ⟨rfl, g2⟩
      have R2 := Lib.hid (R1.out.step g2)
      have r0 := R2.out.r.2.1; have r1 := R2.out.r.2.2; have f0 := R2.out.fr 0; have f1 := R2.out.fr 1; have a3 := R2.out.a.2.1; have a4 := R2.out.a.2.2
      go_wp2_with fail
      refine bodyPost_ret (v := .tuple #[ratV 0 0, .int .i64 30]) (by simp [results, Tryd.results10, go_sem, r0, r1]) rfl ⟨rfl, ?_⟩
      exact (R2.out.bel.setCell (Nat.le_refl _) _).setCell (Nat.le_refl _) _

set_option maxRecDepth 100000 in
set_option maxHeartbeats 2000000 in
theorem refParse_slash_some (s : ByteArray) (w : World) (hs : s.size ≤ 22) (n d : Int) (hn : Ra.refNum s.data.toList = n) (hp : Ra.slash s.data.toList < s.size) (hd : Ra.refDen s.data.toList = d) (fn : Fits n ∧ Fits d) (ho : Ra.Ok n d) (hx : Ra.txt n d = s.data.toList) :
    Calls Tryd.prog 10 #[.string s] w fun e w' => e = .returned (.tuple #[ratV n d, .int .i64 0]) ∧ Below w.heap.size w w' := by
  have h1 : decide (22 < (s.size : Int)) = false := by simp; omega
  have hlen : s.data.toList.length = s.size := by simp
  obtain ⟨p, hp0⟩ : ∃ p, Ra.slash s.data.toList = p := ⟨_, rfl⟩
  rw [hp0] at hp
  have hps : p ≤ s.size := by have := Ra.slash_le s.data.toList; omega
  obtain ⟨SA, hSA⟩ : ∃ S, s.extract 0 (min (p : Int) 11).toNat = S := ⟨_, rfl⟩
  have rA : Ra.rd SA.data.toList = n := by
    rw [← hSA, extract_list, show (min (p : Int) 11).toNat = min p 11 by omega, ← hn]; unfold Ra.refNum; rw [hp0]; rfl
  have sA : SA.size ≤ 11 := by rw [← hSA, ByteArray.size_extract]; omega
  have ra := fun w => refRead_any SA w sA
  rw [rA] at ra
  have a1 : (0 : Int) ≤ min (p : Int) 11 := by omega
  have a2 : min (p : Int) 11 ≤ (s.size : Int) := by omega
  obtain ⟨SB, hSB⟩ : ∃ S, s.extract (p + 1) (min (s.size : Int) ((p : Int) + 12)).toNat = S := ⟨_, rfl⟩
  have rB : Ra.rd SB.data.toList = d := by
    rw [← hSB, extract_list, show (min (s.size : Int) ((p : Int) + 12)).toNat = min s.size (p + 12) by omega, ← hd]; unfold Ra.refDen; rw [hp0, hlen, if_pos hp]
  have sB : SB.size ≤ 11 := by rw [← hSB, ByteArray.size_extract]; omega
  have rb := fun w => refRead_any SB w sB
  rw [rB] at rb
  have b1 : (0 : Int) ≤ (p : Int) + 1 := by omega
  have b2 : (p : Int) + 1 ≤ min (s.size : Int) ((p : Int) + 12) := by omega
  have b3 : min (s.size : Int) ((p : Int) + 12) ≤ (s.size : Int) := by omega
  have RB := Lib.hid rb
  have hq : decide (p < s.size) = true := by simp; omega
  clear rB sB rb hd
  have va := fun w => refValid_any n d w fn.1.1 fn.1.2 fn.2.1 fn.2.2
  rw [okB_true ho] at va
  have ta := fun w => refText_any n d w ho
  have hx' : txtB n d = s := by unfold txtB; rw [hx]
  rw [hx'] at ta
  have TA := Lib.hid ta; clear ta hx hx'
  have e5 : (s.toList != s.toList) = false := by rw [bne, beq_self_eq_true]; rfl
  have VA := Lib.hid va; have RA := Lib.hid ra
  have HP := Lib.hid hp0
  clear va ra rA sA hn fn ho hp
  go_enter Tryd.func10, Tryd.ntmps10
  go_wp2_with fail
  go_loop [5, 6] (fun x i => ∃ j q : Nat, j ≤ s.size ∧ (∃ y : Int, i = .int .i64 y ∧ Hid (y = (j : Int) - 1)) ∧ x = .int .i64 q ∧ Hid (q = j + Ra.slash (s.data.toList.drop j)) ∧ q ≤ s.size) (fun _ i => (intOf i + 1).toNat)
  case atStart => exact ⟨s.size, s.size, Nat.le_refl _, ⟨_, rfl, Lib.hid rfl⟩, rfl, Lib.hid (by rw [List.drop_of_length_le (by simp)]; rfl), Nat.le_refl _⟩
  case round =>
    obtain ⟨j, q, hj, ⟨y, rfl, HY⟩, rfl, HQ, hqs⟩ := hrel
    by_cases hj0 : 1 ≤ j
    · obtain ⟨k, rfl⟩ : ∃ k, j = k + 1 := ⟨j - 1, by omega⟩
      have hk : k < s.size := by omega
      have hst := Ra.slash_step (l := s.data.toList) (i := k) (by simpa using hk)
      rw [show s.data.toList[k]'(by simpa using hk) = s[k] from rfl] at hst
      have HS := Lib.hid hst
      obtain rfl : y = (k : Int) := by have := HY.out; omega
      clear hst HY
      by_cases hm : s[k] = 47
      · have hm1 : ((s[k].toNat : Int) == 47) = true := by rw [hm]; rfl
        have HM := Lib.hid hm; clear hm
        go_wp2_with fail
        go_round
        case rel => exact ⟨k, k, by omega, ⟨_, rfl, Lib.hid rfl⟩, rfl, Lib.hid (by rw [HS.out, if_pos HM.out]; omega), by omega⟩
        case measure => simp [intOf]
      · have hm1 : ((s[k].toNat : Int) == 47) = false := by
          rw [beq_eq_false_iff_ne]; intro h; apply hm; apply UInt8.toNat.inj; show s[k].toNat = 47; omega
        have HM := Lib.hid hm; clear hm
        go_wp2_with fail
        go_round
        case rel => exact ⟨k, q, by omega, ⟨_, rfl, Lib.hid rfl⟩, rfl, Lib.hid (by have := HQ.out; rw [HS.out, if_neg HM.out]; omega), hqs⟩
        case measure => simp [intOf]
    · obtain rfl : y = -1 := by have := HY.out; omega
      obtain rfl : q = p := by
        have := HQ.out; rw [show j = 0 by omega, List.drop_zero, HP.out] at this; omega
      clear HY HQ hj0 hj
      go_wp2_with fail
      refine (RA.out _).mono ?_; rintro e w1 ⟨rfl, rfl⟩
      go_wp2_with fail
      refine (RB.out _).mono ?_; rintro e w1 ⟨rfl, rfl⟩
      go_wp2_with fail
      refine (VA.out _).mono ?_; rintro e w1 ⟨rfl, g1⟩
      have R1 := Lib.hid ((RefAt.new w n d).step g1)
      have a3 := R1.out.a.2.1; have a4 := R1.out.a.2.2
      go_wp2_with fail
      clear a3 a4
      refine (TA.out _).mono ?_; rintro e w2 ⟨rfl, g2⟩
      have R2 := Lib.hid (R1.out.step g2)
      have r0 := R2.out.r.2.1; have r1 := R2.out.r.2.2; have f0 := R2.out.fr 0; have f1 := R2.out.fr 1; have a3 := R2.out.a.2.1; have a4 := R2.out.a.2.2
      go_wp2_with fail
      refine bodyPost_ret (v := .tuple #[ratV n d, .int .i64 0]) (by simp [results, Tryd.results10, go_sem, r0, r1]) rfl ⟨rfl, ?_⟩
      exact (R2.out.bel.setCell (Nat.le_refl _) _).setCell (Nat.le_refl _) _
end Go.Proofs.YtkkhmgcjaehnkaaDoor
