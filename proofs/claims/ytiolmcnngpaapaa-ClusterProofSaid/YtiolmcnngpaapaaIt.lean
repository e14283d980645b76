/-
  The iterator over the ends and the lengths of the arcs.
-/
import Derived.Test.YtiolmcnngpaapaaTold
import Derived.Stop.RegionWithIn
import Derived.Sort.CutIn
namespace Go.Proofs.Ytiolmcnngpaapaa
open Go.RowKit Go.Shelf Cy
attribute [local go_sem] Oper.semAt_some

abbrev endsV (x : Arc) : Value := .agg #[.int .i64 x.f, .int .i64 x.t]
abbrev endsObj (x : Arc) : Obj := .cells #[.int .i64 x.f, .int .i64 x.t] 99
abbrev sliceObj (a : Option Addr) (n c : Nat) : Obj := .cells #[.slice a n c] 39
/-- What a round may do: it may write to blocks of the set S. -/
def Rnd (S : Nat → Prop) (p : Int) (L : List Arc) (n l : Nat) (J Jx : List Arc → World → Prop) : Prop := ∀ pre (x : Arc) W1, J pre W1 → x ∈ L → pre.length < 201 → YieldAt Fence.wide (n - 1) Try.prog l #[endsV x, .int .i64 (len p x)] W1 fun e W' =>
      (e = .returned (.bool true) ∧ J (pre ++ [x]) W' ∧ KS S W1 W') ∨ (e = .returned (.bool false) ∧ Jx (pre ++ [x]) W')
def RndPost (S : Nat → Prop) (J Jx : List Arc → World → Prop) (pre : List Arc) (x : Arc) (W1 : World) (b : Bool) (W' : World) : Prop := (b = true ∧ J (pre ++ [x]) W' ∧ KS S W1 W') ∨ (b = false ∧ Jx (pre ++ [x]) W')
def LensPost (J Jx : List Arc → World → Prop) (L : List Arc) (e : Ending) (W' : World) : Prop := (∃ v, e = .returned v) ∧ ((∃ ys, ys = L ∧ J ys W') ∨ (∃ pre, pre <+: L ∧ Jx pre W'))
set_option maxRecDepth 100000 in
set_option maxHeartbeats 8000000 in
theorem lens1_in (S : Nat → Prop) (n : Nat) (hn : 1 ≤ n) (l Bl Bp : Nat) (L : List Arc) (a : Option Addr) (c : Nat) (p : Int) (W : World) (J Jx : List Arc → World → Prop) (hJ : AbidesFrom W.heap.size J) (hY : Rnd S p L n l J Jx)
    (hBl : W.heap[Bl]? = some (sliceObj a L.length c)) (hBp : W.heap[Bp]? = some (intObj p)) (hA : ArcA W a c L) (hL : L.length ≤ 200) (hS1 : ¬ S Bl) (hS2 : ¬ S Bp) (hS3 : ∀ x, a = some x → ¬ S x.block) (hO : ∀ x ∈ L, ArcOk x) (hp : -1000000 ≤ p ∧ p ≤ 1000000) (h0 : J [] W) :
    CallsIn Fence.wide n Try.prog 89 #[.func (.yield l) #[] #[], .pointer (some ⟨Bl, 0, none⟩), .pointer (some ⟨Bp, 0, none⟩)] W (LensPost J Jx L) := by
  refine callsIn_wide.2 ?_
  have HY := Lib.hid hY; have HJ := Lib.hid hJ; have H0 := Lib.hid h0; have HB := Lib.hid hBl; have HP := Lib.hid hBp; have HA := Lib.hid hA; have HO := Lib.hid hO; have HS1 := Lib.hid hS1; have HS2 := Lib.hid hS2; have HS3 := Lib.hid hS3; have HPb := Lib.hid hp
  clear hY hJ h0 hBl hBp hA hO hS1 hS2 hS3 hp
  have c0 := box_cell HB.out 0 (.slice a L.length c) rfl
  go_enter Try.func89, Try.ntmps89
  refine (wpIn_wide (n := n)).1 ?_
  gi_wp2_with fail
  gi_loopw [8] (fun iv wr => ∃ k : Nat, k ≤ L.length ∧ iv = .int .i64 (k : Int) ∧ Hid (J (L.take k) wr) ∧ Hid (KS S W wr)) (fun iv _ => L.length - (intOf iv).toNat)
  case atStart => exact ⟨0, Nat.zero_le _, rfl, H0, Lib.hid (KS.refl _ _)⟩
  case round =>
    clear c0
    obtain ⟨k, hk, rfl, HJs, HK⟩ := hrel
    by_cases hlt : k < L.length
    · obtain ⟨b, off, rfl, hb, hc⟩ := (HA.out.ks HK.out HS3.out).at (show 0 < L.length by omega)
      obtain ⟨t0, t1, t2, t3⟩ := arc_cells (hc k hlt)
      have HX := Lib.hid (HO.out L[k] (List.getElem_mem hlt))
      have HM := Lib.hid (List.getElem_mem hlt)
      have HT := Lib.hid (show L.take (k + 1) = L.take k ++ [L[k]] from List.take_succ_eq_append_getElem hlt)
      have k0 : (0 : Int) ≤ (k : Int) := by omega
      have k1 : (k : Int) < (L.length : Int) := by omega
      clear hc
      generalize L[k] = x at *
      have HGb := Lib.hid (below_new wr (arcObj x))
      have HKa := Lib.hid (HK.out.trans (KS.ofBelow HGb.out))
      have HNew := Lib.hid (heap_alloc_new wr (arcObj x))
      have cP := HKa.out.cell (p := ⟨Bp, 0, none⟩) HS2.out (box_cell HP.out 0 (.int .i64 p) rfl)
      have HL := Lib.hid (lengthOf_any p x (wr.alloc (arcObj x)).drew HX.out.1 HX.out.2 HPb.out)
      have J4 := Lib.hid (HJ.out _ _ ((wr.alloc (arcObj x)).alloc (arcObj x)).drew none HJs.out (grown_of_below (below_step HGb.out (below_new _ _)).drew) (fun r e => by cases e))
      have K4 := Lib.hid (show KS S W ((wr.alloc (arcObj x)).alloc (arcObj x)).drew from HK.out.trans (KS.ofBelow (below_step HGb.out (below_new _ _)).drew))
      obtain ⟨fn, tmps, assign, body, hy, hR⟩ := HY.out (L.take k) x _ J4.out HM.out (by rw [List.length_take]; omega)
      have HR := Lib.hid (hR.mono (R' := fun e W' => ∃ b : Bool, e = .returned (.bool b) ∧ RndPost S J Jx (L.take k) x ((wr.alloc (arcObj x)).alloc (arcObj x)).drew b W') (by
        rintro e W' (⟨rfl, h1, h2⟩ | ⟨rfl, h1⟩)
        · exact ⟨true, rfl, .inl ⟨rfl, h1, h2⟩⟩
        · exact ⟨false, rfl, .inr ⟨rfl, h1⟩⟩))
      clear hR
      obtain ⟨xf, xt, xw, xk⟩ := x
      dsimp only [arcObj, endsV] at HR HGb HKa HNew cP HL J4 K4 hy
      simp only at t0 t1 t2 t3
      generalize len p ⟨xf, xt, xw, xk⟩ = T at *
      gi_wp2_with fail
      generalize wr.alloc (.cells #[.int .i64 xf, .int .i64 xt, .int .i64 xw, .int .i64 xk] 71) = w2 at *
      have d0 := box_cell HNew.out 0 (.int .i64 xf) rfl
      have d1 := box_cell HNew.out 1 (.int .i64 xt) rfl
      have d2 := box_cell HNew.out 2 (.int .i64 xw) rfl
      have d3 := box_cell HNew.out 3 (.int .i64 xk) rfl
      have q1 : wr.heap.size < w2.heap.size := lt_of_block HNew.out
      have q2 : ¬ wr.heap.size = w2.heap.size := by omega
      have q3 : Bp < w2.heap.size := World.block_lt_of_cell? w2 _ cP
      have q4 : ¬ Bp = w2.heap.size := by omega
      gi_cut [22] from 12 (fun v wc => ∃ bb : Bool, v = .bool (!bb) ∧ Hid (RndPost S J Jx (L.take k) ⟨xf, xt, xw, xk⟩ (w2.alloc (.cells #[.int .i64 xf, .int .i64 xt, .int .i64 xw, .int .i64 xk] 71)).drew bb wc))
      case first =>
       gi_region_with (first | (refine ⟨trivial, (callsIn_wide.2 HL.out).mono ?_⟩; rintro e w' ⟨rfl, rfl⟩) | (refine HR.out.mono ?_; rintro e W3 ⟨bb, rfl, hJ5⟩))
       all_goals
        gi_wp2_with fail
        gi_meet
        case rel => exact ⟨bb, rfl, Lib.hid hJ5⟩
      case rest =>
        obtain ⟨bb, rfl, HRp⟩ := hcut
        clear hy d0 d1 d2 d3 cP q1 q2 q3 q4 t0 t1 t2 t3
        rcases HRp.out with ⟨rfl, hJ6, hk6⟩ | ⟨rfl, hJ6⟩
        · have HJ5 := Lib.hid (show J (L.take (k + 1)) wc from by rw [HT.out]; exact hJ6)
          have HK5 := Lib.hid (K4.out.trans hk6)
          clear hJ6 hk6 HRp
          gi_wp2
          go_roundw
          case rel => exact ⟨k + 1, hlt, by go_num, HJ5, HK5⟩
          case measure => simp [intOf]; omega
        · have HJ5 := Lib.hid (show Jx (L.take (k + 1)) wc from by rw [HT.out]; exact hJ6)
          clear hJ6 HRp
          gi_wp2
          refine bodyPost_ret (results_none rfl _ _ _) rfl ?_
          exact ⟨⟨_, rfl⟩, .inr ⟨_, List.take_prefix (k + 1) L, HJ5.out⟩⟩
    · have k1 : ¬ (k : Int) < (L.length : Int) := by omega
      have HJ5 := Lib.hid (show J L wr from by have := HJs.out; rwa [List.take_of_length_le (by omega)] at this)
      gi_wp2
      go_wp2_with fail
      go_end0
      exact ⟨⟨_, rfl⟩, .inl ⟨_, rfl, HJ5.out⟩⟩
theorem lengths_any (L : List Arc) (a : Option Addr) (c : Nat) (p : Int) (w : World) : Calls Try.prog 58 #[.slice a L.length c, .int .i64 p] w fun e w' => e = .returned (.func (.func 89) #[] #[.pointer (some ⟨w.heap.size, 0, none⟩), .pointer (some ⟨w.heap.size + 1, 0, none⟩)]) ∧ w' = (w.alloc (sliceObj a L.length c)).alloc (intObj p) := by
  have hmf : ∀ (fn : Fn) (first cap : Array Value) (w : World), (Instr.makeFunc fn first cap).run Try.prog w = .ok (.func fn first cap) w := fun _ _ _ _ => rfl
  go_enter Try.func58, Try.ntmps58
  go_wp2_with fail
  go_ret
  exact ⟨rfl, rfl⟩
/-- The lengths of the arcs as a sequence, for a caller that may write to blocks of the set S. -/
theorem lens_told (S : Nat → Prop) (n : Nat) (hn : 1 ≤ n) (Bl Bp : Nat) (L : List Arc) (a : Option Addr) (c : Nat) (p : Int) (w : World)
    (hBl : w.heap[Bl]? = some (sliceObj a L.length c)) (hBp : w.heap[Bp]? = some (intObj p)) (hA : ArcA w a c L) (hL : L.length ≤ 200) (hS1 : ¬ S Bl) (hS2 : ¬ S Bp) (hS3 : ∀ x, a = some x → ¬ S x.block) (hO : ∀ x ∈ L, ArcOk x) (hp : -1000000 ≤ p ∧ p ≤ 1000000) :
    SeqTold (fun x _ => x ∈ L) (KS S) Fence.wide n Try.prog 89 #[.pointer (some ⟨Bl, 0, none⟩), .pointer (some ⟨Bp, 0, none⟩)] (fun x : Arc => #[endsV x, .int .i64 (len p x)]) (fun ys => ys = L) (fun pre => pre <+: L) 201 w :=
  fun l J Jx W hW hJ _ hY h0 => lens1_in S n hn l Bl Bp L a c p W J Jx hJ hY (box_below hBl hW) (box_below hBp hW) (hA.below hW) hL hS1 hS2 hS3 hO hp h0
end Go.Proofs.Ytiolmcnngpaapaa

