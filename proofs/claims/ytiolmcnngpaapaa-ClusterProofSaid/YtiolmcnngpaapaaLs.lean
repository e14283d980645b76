/-
  Contract of leastStarts.
-/
import Derived.Test.YtiolmcnngpaapaaRz
import Derived.Test.YtiolmcnngpaapaaRep
namespace Go.Proofs.Ytiolmcnngpaapaa
open Go.RowKit Go.Shelf Cy

/-- After k rounds. -/
def Least (p : Int) (l : List Arc) (n k : Nat) (x : List Int) : Prop := least p l n (zeros n) = least p l (n - k) x ∧ x.length = n ∧ Bd (3000000 * 200 * k) x
theorem fold_bd {p : Int} {n : Nat} {L : List Arc} (hG : Grd n p L) : ∀ (l : List Arc) (s : List Int × Bool) (M : Int), (∀ a ∈ l, a ∈ L) → s.1.length = n → Bd M s.1 → Bd (M + 3000000 * l.length) (l.foldl (stepF p) s).1 := by
  intro l; induction l with
  | nil => intro s M _ _ h; simpa using h
  | cons a l ih =>
    intro s M hl hs h
    rw [List.foldl_cons]
    have h1 := hG a (hl a (by simp))
    have := ih (stepF p s a) (M + 3000000) (fun b hb => hl b (by simp [hb])) (by rw [stepF_len, hs]) (h.step h1.2.2.2.2.2 (by omega))
    rw [show M + 3000000 * ((a :: l).length : Int) = M + 3000000 + 3000000 * (l.length : Int) by simp only [List.length_cons]; push_cast; omega]
    exact this
theorem Bd.mono {M N : Int} {x : List Int} (h : Bd M x) (hm : M ≤ N) : Bd N x := fun j => by have := h j; omega
theorem Least.step {p : Int} {L : List Arc} {n k : Nat} {x : List Int} (hG : Grd n p L) (hL : L.length ≤ 200) (h : Least p L n k x) (hk : k < n) (hr : (raise p L x).2 = true) : Least p L n (k + 1) (raise p L x).1 := by
  obtain ⟨h1, h2, h3⟩ := h
  refine ⟨?_, by rw [raise_len, h2], ?_⟩
  · rw [h1, show n - k = (n - (k + 1)) + 1 by omega, least, if_pos hr]
  · have := fold_bd hG L (x, false) _ (fun _ h => h) h2 h3
    refine Bd.mono (show Bd _ (raise p L x).1 from this) ?_
    push_cast; omega
/-- What leastStarts leaves. -/
def LsPost (p : Int) (L : List Arc) (n : Nat) (w : World) (e : Ending) (w' : World) : Prop :=
  (∃ s g, starts p L n = some s ∧ e = .returned (.tuple #[.slice (some ⟨g, 0, none⟩) n n, .bool true]) ∧ IntRow w' g s ∧ w.heap.size ≤ g ∧ Below w.heap.size w w') ∨
  (starts p L n = none ∧ e = .returned (.tuple #[.slice none 0 0, .bool false]) ∧ Below w.heap.size w w')
set_option maxRecDepth 100000 in
set_option maxHeartbeats 1000000 in
theorem leastStarts_any (n : Nat) (p : Int) (L : List Arc) (a : Option Addr) (c : Nat) (w : World) (hn1 : 1 ≤ n) (hn : n ≤ 32) (hG : Grd n p L) (hA : ArcA w a c L) (hL : L.length ≤ 200) (hS4 : ∀ x, a = some x → x.block < w.heap.size) (hO : ∀ x ∈ L, ArcOk x) (hp : -1000000 ≤ p ∧ p ≤ 1000000) :
    Calls Try.prog 55 #[.int .i64 (n : Int), .slice a L.length c, .int .i64 p] w (LsPost p L n w) := by
  have hmk := make_ints n (by omega)
  have HG := Lib.hid hG; have HA := Lib.hid hA; have HL := Lib.hid hL; have HS4 := Lib.hid hS4; have HO := Lib.hid hO; have HP := Lib.hid hp
  have n0 : (0 : Int) ≤ (n : Int) := by omega
  have n1 : (n : Int) ≤ 32 := by omega
  have H0 := Lib.hid (show Least p L n 0 (zeros n) from ⟨by simp, zeros_len n, fun j => by rw [zeros_at]; simp⟩)
  have HB := Lib.hid (below_new w (.cells (Array.replicate n (Value.int .i64 0)) 3))
  have HR := Lib.hid (show IntRow (w.alloc (.cells (Array.replicate n (Value.int .i64 0)) 3)) w.heap.size (zeros n) from by
    unfold IntRow; rw [heap_alloc_new]; unfold zeros; rw [List.map_replicate, List.toArray_replicate])
  clear hG hA hL hS4 hO hp
  go_enter Try.func55, Try.ntmps55
  go_upto_region 2 with (fail)
  clear hmk
  generalize w.alloc (.cells (Array.replicate n (Value.int .i64 0)) 3) = W1 at *
  go_wp2_with fail
  go_loopw [12] (fun i wr => ∃ (k : Nat) (x : List Int), k ≤ n ∧ i = .int .i64 (k : Int) ∧ Hid (Least p L n k x) ∧ Hid (IntRow wr w.heap.size x) ∧ Hid (Below w.heap.size w wr)) (fun i _ => n - (intOf i).toNat)
  case atStart => exact ⟨0, zeros n, Nat.zero_le _, rfl, H0, HR, HB⟩
  case round =>
    clear HR HB H0
    obtain ⟨k, x, hk, rfl, HLe, HR, HB⟩ := hrel
    by_cases hlt : k < n
    · have k1 : (k : Int) < (n : Int) := by omega
      have k0 : (0 : Int) ≤ (k : Int) := by omega
      have HLn := Lib.hid (lengths_any L a c p wr)
      have hb2 := below_step (below_new wr (sliceObj a L.length c)) (below_new (wr.alloc (sliceObj a L.length c)) (intObj p))
      have hgl : w.heap.size < wr.heap.size := lt_of_block HR.out
      have HRz := Lib.hid (raise_any w.heap.size n p x wr.heap.size (wr.heap.size + 1) L a c ((wr.alloc (sliceObj a L.length c)).alloc (intObj p)) HLe.out.2.1
        (HR.out.ks (KS.ofBelow (S := fun _ => False) hb2) (fun h => h)) (HLe.out.2.2.mono (by omega)) HG.out
        (box_below (heap_alloc_new wr _) (below_new _ _)) (by have := heap_alloc_new (wr.alloc (sliceObj a L.length c)) (intObj p); rwa [World.size_alloc] at this)
        ((HA.out.below HB.out).below hb2) HL.out (by omega) (by omega) (fun y hy e => by have := HS4.out y hy; omega) (fun y hy => by have := HS4.out y hy; have := hb2.size; omega) HO.out HP.out)
      have HB2 := Lib.hid (below_step HB.out hb2)
      dsimp only [sliceObj, intObj] at HLn HRz HB2
      clear hb2
      go_wp2_with fail
      refine HLn.out.mono ?_
      rintro _ w2 ⟨rfl, rfl⟩
      clear HLn
      go_wp2_with fail
      refine HRz.out.mono ?_
      rintro _ w3 ⟨rfl, hr3, hc3⟩
      clear HRz
      have HR3 := Lib.hid hr3
      have HB3 := Lib.hid (HB2.out.trans (hc3.below HB2.out.size (fun i hi => by omega)))
      clear hr3 hc3
      have HSt := Lib.hid (fun h => HLe.out.step HG.out HL.out hlt h)
      have HEn := Lib.hid (show (raise p L x).2 = false → starts p L n = some (raise p L x).1 from fun h => by
        unfold starts; rw [HLe.out.1, show n - k = (n - (k + 1)) + 1 by omega, least, if_neg (by rw [h]; simp)])
      generalize hF : (raise p L x).2 = F at *
      generalize hX : (raise p L x).1 = X at *
      clear hF hX
      cases F with
      | true =>
        have HS2 := Lib.hid (HSt.out rfl)
        go_wp2_with fail
        go_roundw
        case rel => exact ⟨k + 1, X, hlt, by go_num, HS2, HR3, HB3⟩
        case measure => simp [intOf]; omega
      | false =>
        have HS2 := Lib.hid (HEn.out rfl)
        go_wp2_with fail
        go_ret2
        exact .inl ⟨X, w.heap.size, HS2.out, rfl, HR3.out, Nat.le_refl _, HB3.out⟩
    · have k1 : ¬ (k : Int) < (n : Int) := by omega
      have HS2 := Lib.hid (show starts p L n = none from by unfold starts; rw [HLe.out.1, show n - k = 0 by omega]; rfl)
      go_wp2_with fail
      go_ret2
      exact .inr ⟨HS2.out, rfl, HB.out⟩
end Go.Proofs.Ytiolmcnngpaapaa

