/-
  Facts on paper: encodings and their reading are inverse to each other; keys; which fact prevails.
-/
import Derived.Test.YtnmjcjkjdbkpnaaDoorFc
namespace Go.Proofs.YtnmjcjkjdbkpnaaDoor.Fc
open Wa.Enc

theorem readN {n : Int} (h : InR n) (p r : List UInt8) : intV (p ++ (putBytes n ++ r)) p.length = (n, ((p ++ putBytes n).length : Int), 0) := by
  rw [putBytes_in h.1 h.2, intV_put h.1 h.2]; simp
theorem inR_small {n : Int} (h1 : -10000000 ≤ n) (h2 : n ≤ 10000000) : InR n := ⟨by omega, by omega⟩
theorem rdL_put (G : Fact) (r : List UInt8) : ∀ (l : List Nat) (p : List UInt8) (F : Fact), (∀ x ∈ l, InR (get G x)) →
    rdL (p ++ (numsB (vals G l) ++ r)) l p.length F = some (l.foldl (fun H x => set H (get G x) x) F, ((p ++ numsB (vals G l)).length : Int))
  | [], p, F, _ => by simp [rdL, vals, numsB]
  | x :: l, p, F, h => by
    have hv : vals G (x :: l) = get G x :: vals G l := rfl
    rw [hv, numsB_cons, List.append_assoc]
    unfold rdL
    rw [readN (h x (by simp))]
    simp only [if_pos]
    have := rdL_put G r l (p ++ putBytes (get G x)) (set F (get G x) x) (fun y hy => h y (List.mem_cons_of_mem _ hy))
    rw [List.append_assoc] at this
    rw [this, List.foldl_cons, List.append_assoc]
theorem fold_k (G : Fact) : ∀ (l : List Nat) (F : Fact), (l.foldl (fun H x => set H (get G x) x) F).k = F.k ∧ (l.foldl (fun H x => set H (get G x) x) F).v = F.v ∧ (l.foldl (fun H x => set H (get G x) x) F).d = F.d ∧ (l.foldl (fun H x => set H (get G x) x) F).gone = F.gone ∧ (l.foldl (fun H x => set H (get G x) x) F).tx = F.tx
  | [], _ => ⟨rfl, rfl, rfl, rfl, rfl⟩
  | x :: l, F => by
    have h := fold_k G l (set F (get G x) x)
    have h2 := set_k F (get G x) x
    rw [List.foldl_cons, h.1, h.2.1, h.2.2.1, h.2.2.2.1, h.2.2.2.2]; exact h2
theorem fold_get (G : Fact) : ∀ (l : List Nat) (F : Fact), (∀ x ∈ l, x < 14) → ∀ y, y < 14 → get (l.foldl (fun H x => set H (get G x) x) F) y = if y ∈ l then get G y else get F y
  | [], F, _, y, _ => by simp
  | x :: l, F, hl, y, hy => by
    rw [List.foldl_cons, fold_get G l _ (fun z hz => hl z (List.mem_cons_of_mem _ hz)) y hy, get_set F _ x y (hl x (by simp)) hy]
    by_cases h1 : y ∈ l <;> by_cases h2 : y = x <;> simp [h1, h2]
theorem zeroF_get (k v d : Int) : ∀ x, get (zeroF k v d) x = 0 := by
  intro x; unfold zeroF get; split <;> rfl
/-- The fields of a valid fact are all there is of it. -/
theorem fold_all {G : Fact} (h : validB G = true) : (fieldsL G.k).foldl (fun H x => set H (get G x) x) (zeroF G.k G.v G.d) = { G with gone := false, tx := ⟨#[]⟩ } := by
  obtain ⟨a, b, c, d, e⟩ := fold_k G (fieldsL G.k) (zeroF G.k G.v G.d)
  refine ext_get a b c d e fun x hx => ?_
  rw [fold_get G _ _ fields_lt x hx]
  have hg : get { G with gone := false, tx := ⟨#[]⟩ } x = get G x := by unfold get; split <;> rfl
  rw [hg]
  split
  · rfl
  · rename_i hm; rw [zeroF_get, valid_zero h hx hm]
theorem gone_eq (F : Fact) : (goneN F == 1) = F.gone := by unfold goneN; cases F.gone <;> rfl
theorem gone_in (F : Fact) : within (goneN F) 0 1 = true := by unfold goneN; cases F.gone <;> rfl
theorem gone_inR (F : Fact) : InR (goneN F) := by unfold goneN InR; cases F.gone <;> simp
theorem text_len {F : Fact} (h : validB F = true) : F.tx.data.toList.length ≤ 8192 ∧ (F.k ≠ 5 → F.tx = ⟨#[]⟩) := by
  obtain ⟨-, -, -, ht, -, -, -⟩ := valid_iff.1 h
  unfold textOK at ht
  simp only [Bool.or_eq_true, Bool.and_eq_true, beq_iff_eq, decide_eq_true_eq] at ht
  have hs : F.tx.data.toList.length = F.tx.size := by simp
  refine ⟨by omega, fun hk => ?_⟩
  rcases ht with h0 | ⟨h0, -⟩
  · apply ByteArray.ext
    exact Array.size_eq_zero_iff.1 h0
  · exact absurd h0 hk
theorem mk_list (l : List UInt8) : (⟨l.toArray⟩ : ByteArray).data.toList = l := by simp
theorem mk_self (t : ByteArray) : (⟨t.data.toList.toArray⟩ : ByteArray) = t := by cases t; simp
/-- The reading of an encoding with something behind it. -/
theorem dec_more {F : Fact} (h : validB F = true) (r : List UInt8) : decR (encB F ++ r) = if r = [] then .ok F else .error 10 := by
  obtain ⟨⟨k1, k2⟩, ⟨v1, v2⟩, ⟨d1, d2⟩, ht, hs, hz, hf⟩ := valid_iff.1 h
  obtain ⟨T, hT⟩ : ∃ T, (if F.k = 5 then pstrBytes F.tx.data.toList else []) = T := ⟨_, rfl⟩
  have hg := gone_inR F
  have hK := readN (inR_small (n := F.k) (by omega) (by omega)) [] (putBytes F.v ++ (putBytes F.d ++ (putBytes (goneN F) ++ (numsB (vals F (fieldsL F.k)) ++ (T ++ r)))))
  have hV := readN (inR_small (n := F.v) (by omega) (by omega)) (putBytes F.k) (putBytes F.d ++ (putBytes (goneN F) ++ (numsB (vals F (fieldsL F.k)) ++ (T ++ r))))
  have hD := readN (inR_small (n := F.d) (by omega) (by omega)) (putBytes F.k ++ putBytes F.v) (putBytes (goneN F) ++ (numsB (vals F (fieldsL F.k)) ++ (T ++ r)))
  have hG := readN hg (putBytes F.k ++ putBytes F.v ++ putBytes F.d) (numsB (vals F (fieldsL F.k)) ++ (T ++ r))
  have hR := rdL_put F (T ++ r) (fieldsL F.k) (putBytes F.k ++ putBytes F.v ++ putBytes F.d ++ putBytes (goneN F)) (zeroF F.k F.v F.d) (fun x hx => by
    have := valid_get h (fields_lt x hx); exact inR_small this.1 this.2)
  rw [fold_all h] at hR
  have hE : encB F ++ r = putBytes F.k ++ (putBytes F.v ++ (putBytes F.d ++ (putBytes (goneN F) ++ (numsB (vals F (fieldsL F.k)) ++ (T ++ r))))) := by
    unfold encB headN
    rw [hT]
    simp [numsB, List.append_assoc]
  simp only [List.nil_append, List.append_assoc, List.length_nil, Int.natCast_zero] at hK hV hD hG hR
  have hL : ((encB F ++ r).length : Int) = (putBytes F.k ++ (putBytes F.v ++ (putBytes F.d ++ (putBytes (goneN F) ++ numsB (vals F (fieldsL F.k)))))).length + T.length + r.length := by
    rw [hE]; simp; omega
  obtain ⟨s, hs'⟩ : ∃ s, encB F ++ r = s := ⟨_, rfl⟩
  rw [← hE, hs'] at hK hV hD hG hR
  rw [hs'] at hL
  rw [hs']
  have hC : ∀ a : Int, a = (putBytes F.k ++ (putBytes F.v ++ (putBytes F.d ++ (putBytes (goneN F) ++ numsB (vals F (fieldsL F.k)))))).length + T.length → closeR s { F with gone := false } (goneN F) a = if r = [] then .ok F else .error 10 := by
    intro a ha
    unfold closeR
    cases r with
    | nil =>
      rw [if_neg (by rw [hL, ha]; simp), gone_in, if_neg (by simp), gone_eq]
      simp only [if_pos]
      rw [if_pos h]
    | cons b r => rw [if_pos (by rw [hL, ha]; simp; omega), if_neg (by simp)]
  unfold decR
  rw [hK]
  simp only [if_pos, show within F.k 1 11 = true from within_iff.2 ⟨k1, k2⟩]
  unfold headR1
  rw [hV]
  simp only [if_pos]
  unfold headR2
  rw [hD]
  simp only [if_pos]
  unfold headR3
  rw [hG]
  simp only [if_pos]
  unfold numsR
  rw [hR]
  simp only
  unfold textR
  by_cases hk : F.k = 5
  · simp only [if_pos hk] at hT ⊢
    have hl := text_len h
    have hS := strV_put (t := F.tx.data.toList) (by omega) (putBytes F.k ++ (putBytes F.v ++ (putBytes F.d ++ (putBytes (goneN F) ++ numsB (vals F (fieldsL F.k)))))) r
    have hT2 : enc (zig F.tx.data.toList.length) ++ F.tx.data.toList = T := by rw [← hT]; unfold pstrBytes; rw [if_neg (by omega)]
    rw [hT2] at hS
    simp only [List.append_assoc] at hS
    rw [← hE, hs'] at hS
    rw [hS]
    simp only [if_pos]
    rw [mk_self]
    exact hC _ rfl
  · simp only [if_neg hk] at hT ⊢
    rw [show ({ F with gone := false, tx := ⟨#[]⟩ } : Fact) = { F with gone := false } by rw [← (text_len h).2 hk]]
    exact hC _ (by rw [← hT]; simp)
theorem dec_enc {F : Fact} (h : validB F = true) : decR (encB F) = .ok F := by
  have := dec_more h []
  rw [List.append_nil] at this
  rw [this, if_pos rfl]
/-- What is read is what was encoded. -/
theorem readN_ok {s : List UInt8} {a : Int} (h : (intV s a).2.2 = 0) : 0 ≤ a ∧ a ≤ (intV s a).2.1 ∧ (intV s a).2.1 ≤ s.length ∧ InR (intV s a).1 ∧ s.drop a.toNat = putBytes (intV s a).1 ++ s.drop (intV s a).2.1.toNat := by
  obtain ⟨x, e⟩ : ∃ x, intV s a = x := ⟨_, rfl⟩
  obtain ⟨e1, e2, e3⟩ := x
  rw [e] at h ⊢
  simp only at h ⊢
  subst h
  obtain ⟨g1, g2, g3, g4, g5, g6, g7, r, hr⟩ := intV_ok e
  refine ⟨g1, g5, g6, ⟨g3, g4⟩, ?_⟩
  rw [putBytes_in g3 g4, hr, show e2.toNat = a.toNat + (enc (zig e1)).length by omega, ← List.drop_drop, hr, List.drop_left]
theorem rdL_ok {s : List UInt8} : ∀ (l : List Nat) (a : Int) (F G : Fact) (a' : Int), rdL s l a F = some (G, a') → l.Nodup → (∀ x ∈ l, x < 14) → 0 ≤ a → a ≤ s.length →
    a ≤ a' ∧ a' ≤ s.length ∧ s.drop a.toNat = numsB (vals G l) ++ s.drop a'.toNat ∧ (∀ y, y < 14 → y ∉ l → get G y = get F y) ∧ (G.k = F.k ∧ G.v = F.v ∧ G.d = F.d ∧ G.gone = F.gone ∧ G.tx = F.tx)
  | [], a, F, G, a', h, _, _, h0, h1 => by
    unfold rdL at h; injection h with h; injection h with h2 h3; subst h2; subst h3
    exact ⟨Int.le_refl _, h1, by simp [vals, numsB], fun _ _ _ => rfl, rfl, rfl, rfl, rfl, rfl⟩
  | x :: l, a, F, G, a', h, hn, hl, h0, h1 => by
    unfold rdL at h
    split at h
    · rename_i he
      obtain ⟨g1, g2, g3, g4, g5⟩ := readN_ok he
      obtain ⟨hx, hn2⟩ := List.nodup_cons.1 hn
      obtain ⟨i1, i2, i3, i4, i5⟩ := rdL_ok l _ _ G a' h hn2 (fun z hz => hl z (List.mem_cons_of_mem _ hz)) (by omega) g3
      have hx14 := hl x (by simp)
      have hgx : get G x = (intV s a).1 := by
        rw [i4 x hx14 hx, get_set F _ x x hx14 hx14, if_pos rfl]
      refine ⟨by omega, i2, ?_, fun y hy hm => ?_, ?_⟩
      · rw [g5, i3, ← List.append_assoc]
        show _ = (putBytes (get G x) ++ numsB (vals G l)) ++ _
        rw [hgx]
      · rw [i4 y hy (fun h => hm (List.mem_cons_of_mem _ h)), get_set F _ x y hx14 hy, if_neg (fun e => hm (by rw [e]; simp))]
      · have := set_k F (intV s a).1 x
        rw [i5.1, i5.2.1, i5.2.2.1, i5.2.2.2.1, i5.2.2.2.2]; exact this
    · cases h
theorem strV_ok2 {s : List UInt8} {a : Int} (h : (strV s a).2.2 = 0) : 0 ≤ a ∧ a ≤ (strV s a).2.1 ∧ (strV s a).2.1 ≤ s.length ∧ s.drop a.toNat = pstrBytes (strV s a).1 ++ s.drop (strV s a).2.1.toNat := by
  obtain ⟨x, e⟩ : ∃ x, strV s a = x := ⟨_, rfl⟩
  obtain ⟨t, nx, er⟩ := x
  rw [e] at h ⊢
  simp only at h ⊢
  subst h
  obtain ⟨g1, g2, g3, g4, g5, g6⟩ := strV_ok e
  refine ⟨g1, g4, g5, ?_⟩
  unfold pstrBytes
  rw [if_neg (by omega), ← g6]
  conv => lhs; rw [← List.take_append_drop (nx.toNat - a.toNat) (s.drop a.toNat)]
  rw [List.drop_drop, show a.toNat + (nx.toNat - a.toNat) = nx.toNat by omega]
theorem close_ok {s : List UInt8} {F G : Fact} {g a : Int} (h : closeR s F g a = .ok G) : a = s.length ∧ within g 0 1 = true ∧ G = { F with gone := g == 1 } ∧ validB G = true := by
  unfold closeR at h
  split at h
  · cases h
  · rename_i ha
    split at h
    · cases h
    · rename_i hg
      split at h
      · rename_i hv
        injection h with h
        exact ⟨by omega, by simpa using hg, h.symm, by rw [← h]; exact hv⟩
      · cases h
theorem goneN_of {F : Fact} {g : Int} (h : within g 0 1 = true) : goneN { F with gone := g == 1 } = g := by
  have := within_iff.1 h
  unfold goneN
  simp only
  by_cases h1 : g = 1
  · subst h1; rfl
  · rw [show (g == 1) = false by simpa using h1]; simp; omega
theorem vals_gone (F : Fact) (b : Bool) (t : ByteArray) (l : List Nat) : vals { F with gone := b, tx := t } l = vals F l := by
  unfold vals; refine List.map_congr_left fun x _ => ?_; unfold get; split <;> rfl
theorem enc_dec {s : List UInt8} {G : Fact} (h : decR s = .ok G) : validB G = true ∧ encB G = s := by
  unfold decR at h
  split at h
  · rename_i e0
    split at h
    · rename_i hk
      unfold headR1 at h
      split at h
      · rename_i e1
        unfold headR2 at h
        split at h
        · rename_i e2
          unfold headR3 at h
          split at h
          · rename_i e3
            obtain ⟨p1, p2, p3, p4, p5⟩ := readN_ok e0
            obtain ⟨q1, q2, q3, q4, q5⟩ := readN_ok e1
            obtain ⟨r1, r2, r3, r4, r5⟩ := readN_ok e2
            obtain ⟨s1, s2, s3, s4, s5⟩ := readN_ok e3
            generalize (intV s (intV s (intV s (intV s 0).2.1).2.1).2.1) = N3 at *
            generalize (intV s (intV s (intV s 0).2.1).2.1) = N2 at *
            generalize (intV s (intV s 0).2.1) = N1 at *
            generalize intV s 0 = N0 at *
            unfold numsR at h
            cases hr : rdL s (fieldsL N0.1) N3.2.1 (zeroF N0.1 N1.1 N2.1) with
            | none => rw [hr] at h; cases h
            | some y =>
              obtain ⟨F, a'⟩ := y
              rw [hr] at h
              simp only at h
              obtain ⟨t1, t2, t3, t4, t5⟩ := rdL_ok _ _ _ _ _ hr (fields_nodup _) fields_lt (by omega) s3
              obtain ⟨f1, f2, f3, f4, f5⟩ := t5
              simp only [zeroF] at f1 f2 f3 f4 f5
              unfold textR at h
              have hd : s = putBytes N0.1 ++ (putBytes N1.1 ++ (putBytes N2.1 ++ (putBytes N3.1 ++ (numsB (vals F (fieldsL N0.1)) ++ s.drop a'.toNat)))) := by
                rw [← t3, ← s5, ← r5, ← q5]
                simpa using p5
              split at h
              · rename_i hk5
                split at h
                · rename_i e5
                  obtain ⟨u1, u2, u3, u4⟩ := strV_ok2 e5
                  obtain ⟨w1, w2, w3, w4⟩ := close_ok h
                  refine ⟨w4, ?_⟩
                  have hend : s.drop (strV s a').2.1.toNat = [] := by rw [w1]; simp
                  rw [hend, List.append_nil] at u4
                  subst w3
                  have hg := goneN_of (F := { F with tx := ⟨(strV s a').1.toArray⟩ }) w2
                  unfold encB headN
                  rw [hg, vals_gone, vals_gone F F.gone]
                  simp only [f1, f2, f3]
                  rw [f1] at hk5
                  rw [if_pos hk5, ← u4]
                  conv => rhs; rw [hd]
                  simp [numsB]
                · cases h
              · rename_i hk5
                obtain ⟨w1, w2, w3, w4⟩ := close_ok h
                refine ⟨w4, ?_⟩
                have hend : s.drop a'.toNat = [] := by rw [w1]; simp
                rw [hend] at hd
                subst w3
                have hg := goneN_of (F := F) w2
                unfold encB headN
                rw [hg, show ({ F with gone := N3.1 == 1 } : Fact) = { F with gone := N3.1 == 1, tx := F.tx } from rfl, vals_gone]
                simp only [f1, f2, f3]
                rw [f1] at hk5
                rw [if_neg hk5]
                conv => rhs; rw [hd]
                simp [numsB]
          · cases h
        · cases h
      · cases h
    · cases h
  · cases h
/-- How the reading can fail. -/
theorem dec_err {s : List UInt8} {e : Int} (h : decR s = .error e) : e = 10 ∨ e = 150 := by
  have hc : ∀ F g a, closeR s F g a = .error e → e = 10 ∨ e = 150 := by
    intro F g a h; unfold closeR at h
    repeat' split at h
    all_goals first | (injection h with h; subst h; simp) | cases h
  unfold decR headR1 headR2 headR3 numsR textR at h
  repeat' split at h
  all_goals first | (injection h with h; subst h; simp) | exact hc _ _ _ h | cases h
/-- No proper beginning of an encoding is read. -/
theorem dec_cut {F : Fact} (h : validB F = true) {i : Nat} (hi : i < (encB F).length) (G : Fact) : decR ((encB F).take i) ≠ .ok G := by
  intro hd
  obtain ⟨hv, he⟩ := enc_dec hd
  have h1 := dec_more hv ((encB F).drop i)
  rw [he, List.take_append_drop, dec_enc h, if_neg (by intro h0; have := congrArg List.length h0; simp at this; omega)] at h1
  cases h1
theorem enc_inj {F G : Fact} (hF : validB F = true) (hG : validB G = true) (h : encB F = encB G) : F = G := by
  have h1 := dec_enc hF
  rw [h, dec_enc hG] at h1
  injection h1 with h1; exact h1.symm
theorem put_inj {n m : Int} (hn : InR n) (hm : InR m) {r r' : List UInt8} (h : putBytes n ++ r = putBytes m ++ r') : n = m ∧ r = r' := by
  have h1 := readN hn [] r
  have h2 := readN hm [] r'
  simp only [List.nil_append] at h1 h2
  rw [h, h2] at h1
  have e : n = m := (congrArg (fun x => x.1) h1).symm
  subst e
  exact ⟨rfl, List.append_cancel_left h⟩
theorem nums_inj : ∀ (l m : List Int), l.length = m.length → (∀ x ∈ l, InR x) → (∀ x ∈ m, InR x) → numsB l = numsB m → l = m
  | [], [], _, _, _, _ => rfl
  | [], _ :: _, h, _, _, _ => by simp at h
  | _ :: _, [], h, _, _, _ => by simp at h
  | n :: l, m :: k, h, h1, h2, h3 => by
    rw [numsB_cons, numsB_cons] at h3
    obtain ⟨rfl, h4⟩ := put_inj (h1 n (by simp)) (h2 m (by simp)) h3
    rw [nums_inj l k (by simpa using h) (fun x hx => h1 x (List.mem_cons_of_mem _ hx)) (fun x hx => h2 x (List.mem_cons_of_mem _ hx)) h4]
theorem key_iff {F G : Fact} (hF : validB F = true) (hG : validB G = true) : keyB F = keyB G ↔ F.k = G.k ∧ ∀ x ∈ keyL F.k, get F x = get G x := by
  obtain ⟨⟨k1, k2⟩, -⟩ := valid_iff.1 hF
  obtain ⟨⟨k3, k4⟩, -⟩ := valid_iff.1 hG
  unfold keyB
  rw [if_pos hF, if_pos hG]
  have hin : ∀ {H : Fact}, validB H = true → ∀ {k : Int}, ∀ x ∈ vals H (keyL k), InR x := by
    intro H hH k x hx
    unfold vals at hx
    obtain ⟨y, hy, rfl⟩ := List.mem_map.1 hx
    have := valid_get hH (keys_lt y hy)
    exact inR_small this.1 this.2
  constructor
  · intro h
    rw [show numsB [F.k] = putBytes F.k by simp [numsB], show numsB [G.k] = putBytes G.k by simp [numsB]] at h
    obtain ⟨hk, h2⟩ := put_inj (inR_small (by omega) (by omega)) (inR_small (by omega) (by omega)) h
    refine ⟨hk, fun x hx => ?_⟩
    rw [← hk] at h2
    have := nums_inj _ _ (by simp [vals]) (hin hF) (hin hG) h2
    exact List.map_inj_left.1 this x hx
  · rintro ⟨hk, h⟩
    have hv : vals F (keyL F.k) = vals G (keyL F.k) := List.map_congr_left fun x hx => h x hx
    rw [hv, hk]
theorem putB_ne {n : Int} (h : InR n) : putBytes n ≠ [] := by
  rw [putBytes_in h.1 h.2]; intro h0; have := enc_pos (zig n); rw [h0] at this; simp at this
theorem key_ne {F : Fact} (hF : validB F = true) : keyB F ≠ [] := by
  obtain ⟨⟨k1, k2⟩, -⟩ := valid_iff.1 hF
  unfold keyB
  rw [if_pos hF]
  intro h
  have h2 := (List.append_eq_nil_iff.1 h).1
  exact putB_ne (inR_small (n := F.k) (by omega) (by omega)) (by simpa [numsB] using h2)
theorem key_nil {F : Fact} : keyB F = [] ↔ validB F = false := by
  constructor
  · intro h
    cases hv : validB F with
    | false => rfl
    | true => exact absurd h (key_ne hv)
  · intro h; unfold keyB; rw [h]; simp
theorem prev_iff {F G : Fact} : prevB F G = true ↔ validB F = true ∧ validB G = true ∧ keyB F = keyB G ∧ (F.v > G.v ∨ F.v = G.v ∧ encB G < encB F) := by
  unfold prevB
  constructor
  · intro h
    split at h
    · cases h
    · rename_i hk
      have h1 : ¬ keyB F = [] := fun e => hk (.inl e)
      have h2 : keyB F = keyB G := Classical.byContradiction fun e => hk (.inr e)
      have hF : validB F = true := by
        cases hv : validB F with
        | true => rfl
        | false => exact absurd (key_nil.2 hv) h1
      have hG : validB G = true := by
        cases hv : validB G with
        | true => rfl
        | false => rw [h2] at h1; exact absurd (key_nil.2 hv) h1
      refine ⟨hF, hG, h2, ?_⟩
      split at h
      · rename_i hne; simp at h; exact .inl h
      · rename_i hne; unfold ltB at h; simp at hne; exact .inr ⟨hne, by simpa using h⟩
  · rintro ⟨hF, hG, hk, h⟩
    rw [if_neg (by intro h; rcases h with h | h; exact key_ne hF h; exact h hk)]
    rcases h with h | ⟨h, h2⟩
    · rw [if_pos (by omega)]; simpa using h
    · rw [if_neg (by simpa using h)]; unfold ltB; simpa using h2
theorem bytes_lt_irrefl (a : List UInt8) : ¬ a < a := List.lt_irrefl a
theorem bytes_lt_trans {a b c : List UInt8} (h : a < b) (h2 : b < c) : a < c := List.lt_trans h h2
theorem bytes_total {a b : List UInt8} (h : a ≠ b) : a < b ∨ b < a := by
  rcases Std.Trichotomous.rel_or_eq_or_rel_swap (r := (· < · : List UInt8 → List UInt8 → Prop)) (a := a) (b := b) with h1 | h1 | h1
  · exact .inl h1
  · exact absurd h1 h
  · exact .inr h1
theorem prev_irrefl (F : Fact) : prevB F F = false := by
  cases h : prevB F F with
  | false => rfl
  | true =>
    obtain ⟨-, -, -, h⟩ := prev_iff.1 h
    rcases h with h | ⟨-, h⟩
    · omega
    · exact absurd h (bytes_lt_irrefl _)
theorem prev_one {F G : Fact} (hF : validB F = true) (hG : validB G = true) (hk : keyB F = keyB G) (h : F ≠ G) : prevB F G = !prevB G F := by
  have hne : encB F ≠ encB G := fun e => h (enc_inj hF hG e)
  rcases Int.lt_trichotomy F.v G.v with hv | hv | hv
  · have h1 : prevB F G = false := by
      cases h : prevB F G with
      | false => rfl
      | true => obtain ⟨-, -, -, h⟩ := prev_iff.1 h; omega
    have h2 : prevB G F = true := prev_iff.2 ⟨hG, hF, hk.symm, .inl hv⟩
    rw [h1, h2]; rfl
  · rcases bytes_total hne with hl | hl
    · have h1 : prevB F G = false := by
        cases h : prevB F G with
        | false => rfl
        | true =>
          obtain ⟨-, -, -, h⟩ := prev_iff.1 h
          rcases h with h | ⟨-, h⟩
          · omega
          · exact absurd (bytes_lt_trans hl h) (bytes_lt_irrefl _)
      have h2 : prevB G F = true := prev_iff.2 ⟨hG, hF, hk.symm, .inr ⟨hv.symm, hl⟩⟩
      rw [h1, h2]; rfl
    · have h1 : prevB G F = false := by
        cases h : prevB G F with
        | false => rfl
        | true =>
          obtain ⟨-, -, -, h⟩ := prev_iff.1 h
          rcases h with h | ⟨-, h⟩
          · omega
          · exact absurd (bytes_lt_trans hl h) (bytes_lt_irrefl _)
      have h2 : prevB F G = true := prev_iff.2 ⟨hF, hG, hk, .inr ⟨hv, hl⟩⟩
      rw [h1, h2]; rfl
  · have h1 : prevB G F = false := by
      cases h : prevB G F with
      | false => rfl
      | true => obtain ⟨-, -, -, h⟩ := prev_iff.1 h; omega
    have h2 : prevB F G = true := prev_iff.2 ⟨hF, hG, hk, .inl hv⟩
    rw [h1, h2]; rfl
theorem prev_trans {F G H : Fact} (h1 : prevB F G = true) (h2 : prevB G H = true) : prevB F H = true := by
  obtain ⟨a1, a2, a3, a4⟩ := prev_iff.1 h1
  obtain ⟨b1, b2, b3, b4⟩ := prev_iff.1 h2
  refine prev_iff.2 ⟨a1, b2, a3.trans b3, ?_⟩
  rcases a4 with a4 | ⟨a4, a5⟩ <;> rcases b4 with b4 | ⟨b4, b5⟩
  · exact .inl (by omega)
  · exact .inl (by omega)
  · exact .inl (by omega)
  · exact .inr ⟨by omega, bytes_lt_trans b5 a5⟩
end Go.Proofs.YtnmjcjkjdbkpnaaDoor.Fc
