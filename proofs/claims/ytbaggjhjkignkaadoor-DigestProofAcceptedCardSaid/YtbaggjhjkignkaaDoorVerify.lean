/-
  The contract of the package's Verify. Condition: the table of 64 words reads as the program's text lays it.
-/
import Derived.Test.YtbaggjhjkignkaaDoorProof
import Derived.Test.YtbaggjhjkignkaaDoorWays
import Derived.Test.YtbaggjhjkignkaaDoorDig
import Derived.Deep.RegionHeld3
namespace Go.Proofs.YtbaggjhjkignkaaDoor
open Go.RowKit Go.Shelf Tree

attribute [local go_sem] Oper.semAt_some

theorem info_fork : (Tryd.prog.info? 49).map (fun i => (i.zero, i.size, i.bytes)) = some (some (.agg #[.int .i64 0, .int .i64 0, .int .i64 0, .bool false]), 4, 32) := by kernel_rfl
theorem box_kept {W V : World} {B n₀ : Nat} {t : TypeId} {v : Value} {o : Obj} (hv : Boxed W B t v) (hl : ∀ k, v.ownBlock = some k → n₀ ≤ k ∧ k < W.heap.size) (hB : B < n₀) (hg : (W.alloc o).grownBy V v.ownBlock) : Boxed V B t v :=
  (hv.alloc o).kept hg (fun e => by have := (hl B e.symm).1; omega)

theorem app_of {W V : World} {n₀ : Nat} {v : Value} {o : Obj} (hn : n₀ ≤ W.heap.size) (hl : ∀ k, v.ownBlock = some k → n₀ ≤ k ∧ k < W.heap.size) (hg : (W.alloc o).grownBy V v.ownBlock) : Below n₀ W V ∧ ∀ j, j < W.heap.size → some j ≠ v.ownBlock → V.heap[j]? = W.heap[j]? :=
  ⟨((Below.refl n₀ W).alloc hn o).grown hg (by simp; omega) (fun k e => (hl k e).1), fun j hj hne => (hg.block j (by simp; omega) hne).trans (heap_alloc_old _ _ hj)⟩

/-- What Verify answers. -/
def verB (root : ByteArray) (n i : Nat) (s : ByteArray) (P : List ByteArray) : Bool := decide (valueR Sha.shaS s n i P.reverse = some root)
/-- A bool as an answer. -/
def BoolEnd (b : Bool) (w : World) (e : Ending) (w' : World) : Prop := e = .returned (.bool b) ∧ Below w.heap.size w w'

set_option maxRecDepth 100000 in
set_option maxHeartbeats 1600000 in
theorem verify_yes (root s : ByteArray) (n i : Nat) (P : List ByteArray) (a : Option Addr) (c : Nat) (w : World) (ht : Tab w) (hA : StrA w a c P) (hP : P.length < 1000) (hd : digsB P = true) (hs : s.size ≤ 1000) (hi : i < n) (hn : n < 9223372036854775808) :
    Calls Tryd.prog 24 #[.string root, .int .i64 n, .int .i64 i, .string s, .slice a P.length c] w (BoolEnd (verB root n i s P) w) := by
  refine (callsIn_wide (n := 6)).1 ?_
  refine callsIn_of_wp_marks Tryd.func24 rfl trivial ?_ rfl
  simp only [Tryd.ntmps24, List.size_toArray, List.length_cons, List.length_nil, Nat.reduceAdd, Nat.reduceSub, Array.replicate_succ, Array.replicate_zero, List.push_toArray, List.append_toArray, List.nil_append, List.cons_append]
  have h1 : decide ((i : Int) < 0) = false := by simp
  have h2 : decide ((n : Int) ≤ (i : Int)) = false := by simp; omega
  have hc := digs_any a c P w hA
  rw [hd] at hc
  have HC := Lib.hid hc
  clear hc
  gi_wp2_with (first | (refine ⟨trivial, ?_⟩; gi_at_call 38; refine (callsIn_wide.2 HC.out).mono ?_; rintro e w' ⟨rfl, rfl⟩) | (refine ⟨trivial, ?_⟩; gi_at_call 30; refine (forks_in _ _ _ _).mono ?_; rintro e w' ⟨rfl, rfl⟩))
  obtain ⟨W4, hW4⟩ : ∃ V, V = ((w.alloc (.cells #[.slice none 0 0] 54)).alloc (.cells #[.int .i64 (n : Int)] 3)).alloc (.cells #[.int .i64 (i : Int)] 3) := ⟨_, rfl⟩
  rw [← hW4]
  have hb4 : Below w.heap.size w W4 := by rw [hW4]; exact (((Below.refl _ w).alloc (Nat.le_refl _) _).alloc (by simp) _).alloc (by simp; omega) _
  have hs4 : W4.heap.size = w.heap.size + 3 := by rw [hW4]; simp
  have b1 : Boxed W4 w.heap.size 54 (.slice none 0 0) := by rw [hW4]; exact ((Boxed.new w _ _).alloc _).alloc _
  have b2 : Boxed W4 (w.heap.size + 1) 3 (.int .i64 (n : Int)) := by
    rw [hW4]
    have := Boxed.new (w.alloc (.cells #[.slice none 0 0] 54)) 3 (.int .i64 (n : Int))
    rw [World.size_alloc] at this
    exact this.alloc _
  have b3 : Boxed W4 (w.heap.size + 1 + 1) 3 (.int .i64 (i : Int)) := by
    rw [hW4]
    have := Boxed.new ((w.alloc (.cells #[.slice none 0 0] 54)).alloc (.cells #[.int .i64 (n : Int)] 3)) 3 (.int .i64 (i : Int))
    rw [World.size_alloc, World.size_alloc] at this
    exact this
  clear hW4
  have HTA := Lib.hid (And.intro ht hA)
  have HD := Lib.hid hd
  clear ht hA h1 h2 hd HC
  refine wpIn_rangeFunc_top rfl (by omega) (gf := 48) (lb := #[.pointer (some ⟨w.heap.size + 1, 0, none⟩), .pointer (some ⟨w.heap.size + 1 + 1, 0, none⟩)]) rfl trivial (enters_of Tryd.func48 (by kernel_rfl) rfl)
    (forks_stops 5 (w.heap.size + 1) (w.heap.size + 1 + 1) n i hn hi W4 b2.cell b3.cell) (Below.refl _ _) (fun _ => rfl)
    (fun bnd (pre : List (FkN n)) W => (∃ v, Boxed W w.heap.size 54 v ∧ W.ownsRow W4.heap.size 49 4 v pre.length (flatF (pre.map (·.1))) ∧ ((∀ k, v.ownBlock = some k → k < bnd) ∧ W4.heap.size ≤ bnd)) ∧ Below w.heap.size w W)
    (fun _ _ _ => False)
    (fun bnd => OwnFrom.and (Own.from (holdsRow_own W4.heap.size w.heap.size 54 49 4 (fun pre : List (FkN n) => pre.length) (fun pre => flatF (pre.map (·.1))) (fun _ v => (∀ k, v.ownBlock = some k → k < bnd) ∧ W4.heap.size ≤ bnd)) _)
      (ownFrom_below (Nat.le_refl _) (by omega)))
    (fun _ _ _ _ _ hs _ _ => hs)
    ⟨⟨_, b1, World.ownsRow_nil _ _ _ _, (fun k e => by cases e), Nat.le_refl _⟩, hb4⟩
    (fun U (x : FkN n) a' W => ∃ Bb : Nat, U.heap.size ≤ Bb ∧ W.heap[Bb]? = some (.cells (fkC x.1) 49 (0, 0)) ∧ (∀ (j : Nat) (o : Obj), U.heap[j]? = some o → o.isCells = true → W.heap[j]? = some o) ∧ a' = { tmps := #[.string root, .int .i64 (n : Nat), .int .i64 (i : Nat), .string s, .slice a P.length c, undef, undef, undef, undef, undef, .bool false, .pointer (some ⟨w.heap.size, 0, none⟩), .pointer (some ⟨Bb, 0, none⟩), undef, undef, undef, .int .i64 (i : Nat), .bool false, .bool false, .int .i64 (i : Nat), .int .i64 (n : Nat), .bool false, .bool false, .bool false, .slice a P.length c, .bool true, .bool false, .bool false, .int .i64 (n : Nat), .int .i64 (i : Nat), .func (.func 48) #[] #[.pointer (some ⟨w.heap.size + 1, 0, none⟩), .pointer (some ⟨w.heap.size + 1 + 1, 0, none⟩)], fkV x.1, undef, undef, undef, undef, undef, undef, undef, undef, undef, undef, undef, undef, undef, undef, undef, undef, undef, undef, undef, undef, undef, undef, undef, undef, undef, undef, undef, undef, undef, undef, undef], defers := [] })
    (fun U x a' u A B row hs hg hr => by
      obtain ⟨Bb, h1, h2, h3, h4⟩ := hs
      have keep : ∀ (j : Nat) (o : Obj), A.heap[j]? = some o → o.isCells = true → B.heap[j]? = some o := fun j o hj ho => (hg.block _ (Array.getElem?_eq_some_iff.1 hj).1 (fun e => by
        obtain ⟨_, o', ho', hc⟩ := hr _ e.symm
        rw [hj] at ho'; cases ho'; rw [ho] at hc; cases hc)).trans hj
      exact ⟨Bb, h1, keep _ _ h2 rfl, fun j o hj ho => keep _ _ (h3 j o hj ho) ho, h4⟩)
    ?assign ?body ?done ?stop
  case assign =>
    rintro l bnd pre ⟨⟨f1, f2, f3, f4⟩, hwi⟩ U K hbk ⟨⟨v, hv, hrow, hlt, hu4⟩, hbel⟩ hK
    unfold fkV at hK ⊢
    unfold fkC at hK
    gi_wp2
    refine hK _ _ ((KeepsOthers.alloc _ _).from _) ⟨⟨v, hv.alloc _, hrow.alloc _, hlt, hu4⟩, hbel.alloc hbel.size _⟩ ⟨U.heap.size, Nat.le_refl _, heap_alloc_new _ _, fun j o hj _ => (heap_alloc_old _ _ (Array.getElem?_eq_some_iff.1 hj).1).trans hj, rfl⟩
  case body =>
    rintro l bnd pre ⟨⟨f1, f2, f3, f4⟩, hwi⟩ U a' W hbk ⟨⟨v, hv, hrow, hlt, hu4⟩, hbel⟩ ⟨Bb, hBb, hcb, hkeep, rfl⟩ hlen _ _
    have hUW : U.heap.size ≤ W.heap.size := by have := (Array.getElem?_eq_some_iff.1 hcb).1; omega
    have hc1 := hv.cell
    have hf1 := hv.frozen
    have g0 : W.cell? ⟨Bb, 0, none⟩ = some (.int .i64 f1) := cell_of_row W _ 0 _ _ _ hcb
    have g1 : W.cell? ⟨Bb, 1, none⟩ = some (.int .i64 f2) := cell_of_row W _ 1 _ _ _ hcb
    have g2 : W.cell? ⟨Bb, 2, none⟩ = some (.int .i64 f3) := cell_of_row W _ 2 _ _ _ hcb
    have g3 : W.cell? ⟨Bb, 3, none⟩ = some (.bool f4) := cell_of_row W _ 3 _ _ _ hcb
    obtain ⟨i0, hi0, hz0, hz1, hz2⟩ := info_parts info_fork
    have hvl : ∀ k, v.ownBlock = some k → W4.heap.size ≤ k ∧ k < W.heap.size := hrow.lt
    have HVL := Lib.hid hvl
    have HLT := Lib.hid hlt
    have HKP := Lib.hid hkeep
    clear hvl hlt hkeep hcb
    gi_wp2_with (gi_at_builtin; refine wpListIn_append_own _ rfl _ _ 54 rfl W4.heap.size 49 i0 (.agg #[.int .i64 0, .int .i64 0, .int .i64 0, .bool false]) 4 32 Tryd.underlying54 hi0 hz0 hz1 hz2 rfl (by decide) _ _ _ rfl (hrow.alloc _) ⟨W.heap.size, 0, none⟩ 1 1 [.int .i64 f1, .int .i64 f2, .int .i64 f3, .bool f4] rfl rfl (World.news_of_block (cs := #[.int .i64 f1, .int .i64 f2, .int .i64 f3, .bool f4]) (t := 49) (fr := (0, 0)) (heap_alloc_new W _)) (by simp [Value.oneCell']) (by unfold maxLen; omega) (by omega) (by simp; omega) ?_; intro v' w6 ho6 hg6 _; obtain ⟨g9, cap9, rfl⟩ := ownsRow_succ ho6; have hv6 := box_kept hv HVL.out (by omega) hg6; have hc6 := hv6.cell; have hf6 := hv6.frozen)
    obtain ⟨p1, p2⟩ := app_of (by omega) HVL.out hg6
    have hsz := p1.size
    have hset : ∀ (j : Nat) (o : Obj), j ≠ w.heap.size → w6.heap[j]? = some o → (w6.setCell ⟨w.heap.size, 0, none⟩ (.slice (some ⟨g9, 0, none⟩) (pre.length + 1) cap9)).heap[j]? = some o := fun j o hj ho => (heap_setCell_other w6 ⟨w.heap.size, 0, none⟩ j _ hj).trans ho
    have hWV : ∀ (j : Nat) (o : Obj), j ≠ w.heap.size → some j ≠ v.ownBlock → W.heap[j]? = some o → (w6.setCell ⟨w.heap.size, 0, none⟩ (.slice (some ⟨g9, 0, none⟩) (pre.length + 1) cap9)).heap[j]? = some o := fun j o h1 h2 ho => hset j o h1 ((p2 j (Array.getElem?_eq_some_iff.1 ho).1 h2).trans ho)
    refine ⟨⟨by simpa using hsz, fun j o hj ho hc => hWV j o (by omega) (fun e => ?_) ho⟩, ⟨by simp; omega, fun j o hj ho hc => ?_⟩, ⟨_, hv6.set _, ?_, (fun k e => by have := (ho6.lt k e).2; simpa using this), by simp; omega⟩, ?_⟩
    · obtain ⟨cs, fz, hcs⟩ := Lib.ownsRow_kind hrow j e.symm
      rw [hcs] at ho; cases ho; cases hc
    · refine hWV j o ?_ (fun e => ?_) (HKP.out j o ho hc)
      · rcases hj with rfl | hj
        · omega
        · omega
      · have h1 := HVL.out j e.symm
        have h2 := HLT.out j e.symm
        rcases hj with rfl | hj
        · omega
        · omega
    · rw [List.map_append, List.length_append]
      show World.ownsRow _ _ _ _ _ (pre.length + 1) (flatF (pre.map (·.1) ++ [⟨f1, f2, f3, f4⟩]))
      rw [flatF_snoc]
      refine World.ownsRow.kept ho6 (grownBy_setCell' w6 w.heap.size _) (.inr (fun e => ?_))
      have := (ho6.lt _ e).1
      omega
    · exact (hbel.trans (p1.mono (by omega))).setCell (p := ⟨w.heap.size, 0, none⟩) (Nat.le_refl _) _
  case done =>
    rintro D bnd xs W hD hbW hS ⟨⟨v, hv, hrow, hlt, hu4⟩, hbel⟩ hK
    have hN : xs.length = (forksF 64 0 n i).length := by rw [← hS, List.length_map]
    have hN64 := forksF_length 64 0 n i
    rw [hS] at hrow
    have hforms := fkFn_of_row hrow hN.symm
    have hval := value_ways s 64 0 n i P.reverse (by omega) (by omega) (Nat.zero_le _) hi
    rw [Nat.sub_zero, Nat.sub_zero] at hval
    have hDW := (Array.getElem?_eq_some_iff.1 hK).1
    have hvc := hv.cell
    have HN := Lib.hid hN
    have HVAL := Lib.hid hval
    obtain ⟨fs, hfs⟩ : ∃ fs, fs = forksF 64 0 n i := ⟨_, rfl⟩
    rw [← hfs] at hforms HVAL HN hN64
    have hvl : ∀ k, v.ownBlock = some k → W4.heap.size ≤ k ∧ k < W.heap.size := hrow.lt
    have hvD : ∀ k, v.ownBlock = some k → k ≠ D := fun k e hk => by
      subst hk
      obtain ⟨cs, fz, hcs⟩ := Lib.ownsRow_kind hrow k e
      rw [hK] at hcs; cases hcs
    have hN6 : xs.length ≤ 64 := by have := HN.out; omega
    clear hS hval hrow hlt hu4 hfs hN
    by_cases hlen : P.length = xs.length
    · obtain ⟨A, cap, rfl⟩ : ∃ A cap, v = .slice A xs.length cap := by
        rcases hforms with ⟨e, e0⟩ | ⟨g, cap, e, _⟩
        · exact ⟨none, 0, by rw [e, e0]⟩
        · exact ⟨_, _, e⟩
      have HR := Lib.hid (reverseF_own (by omega) hforms)
      have hne : ((P.length : Int) != (xs.length : Int)) = false := by simp; omega
      have hne' : ((P.length : Int) == (xs.length : Int)) = true := by simp; omega
      have hrl : P.reverse.length = fs.length := by rw [List.length_reverse, ← HN.out, hlen]
      have hb : ∀ y, climb s fs P.reverse = y → verB root n i s P = decide (y = root) := fun y hy => by
        unfold verB
        rw [HVAL.out, if_pos hrl, hy]
        simp
      have HB := Lib.hid hb
      have HRL := Lib.hid hrl
      have HLEN := Lib.hid hlen
      have HV := Lib.hid (And.intro hvl hvD)
      have HH := Lib.hid (And.intro hv (And.intro hbel hK))
      clear hb hforms hlen hrl hvl hvD hv hbel hK hN64
      gi_wp2
      refine ⟨trivial, ?_⟩
      refine (callsIn_wide.2 HR.out).mono ?_
      rintro e V ⟨rfl, hrev, hg⟩
      have hvV : Boxed V w.heap.size 54 (.slice A xs.length cap) := HH.out.1.kept hg (fun e => by have := (HV.out.1 _ e.symm).1; omega)
      have hKV : V.heap[D]? = some (.deferred (some [])) := (hg.block D hDW (fun e => HV.out.2 _ e.symm rfl)).trans HH.out.2.2
      have hbV : Below w.heap.size w V := HH.out.2.1.grown hg (by omega) (fun k e => by have := (HV.out.1 k e).1; omega)
      have hvVc := hvV.cell
      have HX := Lib.hid (And.intro hrev (And.intro hKV hbV))
      have HTV := Lib.hid (HTA.out.1.below hbV)
      clear hrev hg hKV hbV hvc
      gi_wp2
      refine ⟨trivial, ?_⟩
      refine (callsIn_wide.2 (leaf_any s V HTV.out hs)).mono ?_
      rintro e V2 ⟨rfl, hb2⟩
      have hvc2 : V2.cell? ⟨w.heap.size, 0, none⟩ = some (.slice A xs.length cap) := (hb2.cell (p := ⟨w.heap.size, 0, none⟩) hvV.lt).trans hvVc
      have hX2 : (xs.length = 0 ∨ ∃ g, A = some ⟨g, 0, none⟩ ∧ cap ≤ maxLen ∧ xs.length ≤ cap ∧ FkFn V2 g xs.length (fun p => fs.getD (xs.length - 1 - p) ⟨0, 0, 0, false⟩)) ∧ V2.heap[D]? = some (.deferred (some [])) ∧ Below w.heap.size w V2 := by
        refine ⟨?_, (hb2.block D (Array.getElem?_eq_some_iff.1 HX.out.2.1).1).trans HX.out.2.1, below_step HX.out.2.2 hb2⟩
        rcases HX.out.1 with e0 | ⟨g, q1, q2, q3, q4, q5, q6⟩
        · exact .inl e0
        · exact .inr ⟨g, q1, q4, q5, q6.kept (hb2.block g q6.lt)⟩
      have HX2 := Lib.hid hX2
      have HC0 := Lib.hid (climbK_zero s fs P.reverse)
      clear hX2 hb2 hvVc hvV HX HTV
      gi_wp2
      obtain ⟨W5, hW5⟩ : ∃ V, V = V2 := ⟨_, rfl⟩
      rw [← hW5] at HX2 ⊢
      clear hW5 hvc2
      gi_loopw [13, 47] (fun x t wr => ∃ k : Nat, k ≤ xs.length ∧ t = .int .i64 k ∧ x = .string (climbK s fs P.reverse k) ∧ ((xs.length = 0 ∨ ∃ g, A = some ⟨g, 0, none⟩ ∧ cap ≤ maxLen ∧ xs.length ≤ cap ∧ FkFn wr g xs.length (fun p => fs.getD (xs.length - 1 - p) ⟨0, 0, 0, false⟩)) ∧ wr.heap[D]? = some (.deferred (some [])) ∧ Below w.heap.size w wr)) (fun _ t _ => xs.length - (intOf t).toNat)
      case atStart => exact ⟨0, by omega, rfl, by rw [HC0.out], HX2.out⟩
      case round =>
        clear HX2
        obtain ⟨k, hk, rfl, rfl, hX⟩ := hrel
        have HX := Lib.hid hX
        clear hX
        by_cases hkN : k < xs.length
        · obtain ⟨hX1, hX3, hX4⟩ := HX.out
          obtain ⟨g, rfl, hm, hcx, hF⟩ : ∃ g, A = some ⟨g, 0, none⟩ ∧ cap ≤ maxLen ∧ xs.length ≤ cap ∧ FkFn wr g xs.length (fun p => fs.getD (xs.length - 1 - p) ⟨0, 0, 0, false⟩) := by
            rcases hX1 with e | h
            · omega
            · exact h
          obtain ⟨pb, po, rfl, pl, pc⟩ := (HTA.out.2.below hX4).2.2 k (by have := HLEN.out; omega)
          have hkP : k < P.length := by have := HLEN.out; omega
          have hsucc := climbK_succ s fs P.reverse k (by have := HN.out; omega) HRL.out
          have hrk : P.reverse[fs.length - 1 - k]'(by have := HN.out; have := HRL.out; omega) = P[k] := by
            rw [List.getElem_reverse]
            congr 1
            have := HN.out; have := HLEN.out; omega
          have hfk : fs.getD (xs.length - 1 - k) ⟨0, 0, 0, false⟩ = fs[fs.length - 1 - k]'(by have := HN.out; omega) := by
            rw [List.getD, List.getElem?_eq_getElem (by have := HN.out; omega)]
            simp only [Option.getD_some]
            congr 1
            have := HN.out; omega
          rw [hrk, ← hfk] at hsucc
          have hp32 : P[k].size = 32 := digsB_true.1 HD.out _ (List.getElem_mem hkP)
          have hc32 := climb_size s (fs.drop (fs.length - k)) (P.reverse.drop (fs.length - k))
          have hc32' : (climbK s fs P.reverse k).size = 32 := hc32
          obtain ⟨g0, g1, g2, g3⟩ := hF.cells k hkN
          have hgl := hF.lt
          have hTw : Tab wr := HTA.out.1.below hX4
          have HSU := Lib.hid hsucc
          clear hsucc hrk hfk hc32 hF
          generalize hf9 : fs.getD (xs.length - 1 - k) ⟨0, 0, 0, false⟩ = f9 at *
          have HF9 := Lib.hid hf9
          clear hf9
          generalize P[k] = x at *
          generalize climbK s fs P.reverse k = y at *
          have hkI : (k : Int) < (xs.length : Int) := by omega
          have hkP' : (k : Int) < (P.length : Int) := by omega
          have hpc : (wr.alloc (.cells (fkC f9) 49)).cell? ⟨pb, po + k, none⟩ = some (.string x) := (((Below.refl wr.heap.size wr).alloc (Nat.le_refl _) _).cell (p := ⟨pb, po + k, none⟩) pl).trans pc
          obtain ⟨f1, f2, f3, f4⟩ := f9
          have hb9 : Below wr.heap.size wr (wr.alloc (.cells #[.int .i64 (f1 : Int), .int .i64 (f2 : Int), .int .i64 (f3 : Int), .bool f4] 49)) := (Below.refl _ _).alloc (Nat.le_refl _) _
          have HJ := Lib.hid (fun V (h : Below wr.heap.size wr V) => join_any ⟨f1, f2, f3, f4⟩ y x V (hTw.below h) (by omega) (by omega))
          have HB9 := Lib.hid hb9
          unfold fkC at hpc
          unfold fkV at HJ
          clear hp32 hc32' hTw hb9 hX1
          gi_wp2
          refine wpIn_wide.2 ?_
          have h0 : Below wr.heap.size wr ((wr.alloc (.cells #[.int .i64 (f1 : Int), .int .i64 (f2 : Int), .int .i64 (f3 : Int), .bool f4] 49)).drew) := HB9.out.drew
          have hnew : ∀ j, (wr.alloc (.cells #[.int .i64 (f1 : Int), .int .i64 (f2 : Int), .int .i64 (f3 : Int), .bool f4] 49)).drew.cell? ⟨wr.heap.size, j, none⟩ = #[Value.int .i64 (f1 : Int), .int .i64 (f2 : Int), .int .i64 (f3 : Int), .bool f4][j]? := fun j => cell_of_row _ _ j _ _ _ (heap_alloc_new wr _)
          have hS0 : Below wr.heap.size wr ((wr.alloc (.cells #[.int .i64 (f1 : Int), .int .i64 (f2 : Int), .int .i64 (f3 : Int), .bool f4] 49)).drew) ∧ ((wr.alloc (.cells #[.int .i64 (f1 : Int), .int .i64 (f2 : Int), .int .i64 (f3 : Int), .bool f4] 49)).drew).cell? ⟨pb, po + k, none⟩ = some (.string x) ∧ ((wr.alloc (.cells #[.int .i64 (f1 : Int), .int .i64 (f2 : Int), .int .i64 (f3 : Int), .bool f4] 49)).drew).cell? ⟨wr.heap.size, 0, none⟩ = some (.int .i64 (f1 : Int)) ∧ ((wr.alloc (.cells #[.int .i64 (f1 : Int), .int .i64 (f2 : Int), .int .i64 (f3 : Int), .bool f4] 49)).drew).cell? ⟨wr.heap.size, 1, none⟩ = some (.int .i64 (f2 : Int)) ∧ ((wr.alloc (.cells #[.int .i64 (f1 : Int), .int .i64 (f2 : Int), .int .i64 (f3 : Int), .bool f4] 49)).drew).cell? ⟨wr.heap.size, 2, none⟩ = some (.int .i64 (f3 : Int)) ∧ ((wr.alloc (.cells #[.int .i64 (f1 : Int), .int .i64 (f2 : Int), .int .i64 (f3 : Int), .bool f4] 49)).drew).cell? ⟨wr.heap.size, 3, none⟩ = some (.bool f4) := ⟨h0, hpc, hnew 0, hnew 1, hnew 2, hnew 3⟩
          have hcar : ∀ W W' : World, (Below wr.heap.size wr W ∧ W.cell? ⟨pb, po + k, none⟩ = some (.string x) ∧ W.cell? ⟨wr.heap.size, 0, none⟩ = some (.int .i64 (f1 : Int)) ∧ W.cell? ⟨wr.heap.size, 1, none⟩ = some (.int .i64 (f2 : Int)) ∧ W.cell? ⟨wr.heap.size, 2, none⟩ = some (.int .i64 (f3 : Int)) ∧ W.cell? ⟨wr.heap.size, 3, none⟩ = some (.bool f4)) → Below W.heap.size W W' → (Below wr.heap.size wr W' ∧ W'.cell? ⟨pb, po + k, none⟩ = some (.string x) ∧ W'.cell? ⟨wr.heap.size, 0, none⟩ = some (.int .i64 (f1 : Int)) ∧ W'.cell? ⟨wr.heap.size, 1, none⟩ = some (.int .i64 (f2 : Int)) ∧ W'.cell? ⟨wr.heap.size, 2, none⟩ = some (.int .i64 (f3 : Int)) ∧ W'.cell? ⟨wr.heap.size, 3, none⟩ = some (.bool f4)) := fun W W' h hb =>
            have q := fun (p : Addr) (u : Value) (hc : W.cell? p = some u) => (hb.cell (p := p) (block_lt_of_cell hc)).trans hc
            ⟨below_step h.1 hb, q _ _ h.2.1, q _ _ h.2.2.1, q _ _ h.2.2.2.1, q _ _ h.2.2.2.2.1, q _ _ h.2.2.2.2.2⟩
          have HCAR := Lib.hid hcar
          have HS0 := Lib.hid hS0
          clear hcar hS0 hnew h0 hpc
          go_region_held3 (fun w' => Below wr.heap.size wr w' ∧ w'.cell? ⟨pb, po + k, none⟩ = some (.string x) ∧ w'.cell? ⟨wr.heap.size, 0, none⟩ = some (.int .i64 (f1 : Int)) ∧ w'.cell? ⟨wr.heap.size, 1, none⟩ = some (.int .i64 (f2 : Int)) ∧ w'.cell? ⟨wr.heap.size, 2, none⟩ = some (.int .i64 (f3 : Int)) ∧ w'.cell? ⟨wr.heap.size, 3, none⟩ = some (.bool f4)) (first | exact HS0.out | exact HCAR.out _ _ (by assumption) hb8) ((go_at_call 40; refine (HJ.out _ (And.left (by assumption))).mono ?_; rintro e W8 ⟨rfl, hb8⟩))
          gi_wp2
          rename_i hHeld
          have hB8 := hHeld.1
          refine ⟨⟨k + 1, by omega, by simp, by rw [HSU.out], ?_, (hB8.block D (Array.getElem?_eq_some_iff.1 hX3).1).trans hX3, below_step hX4 hB8⟩, by simp [intOf]; omega⟩
          rcases HX.out.1 with e0 | ⟨g', e1, q1, q2, q3⟩
          · exact .inl e0
          · exact .inr ⟨g', e1, q1, q2, q3.kept (hB8.block g' q3.lt)⟩
        · have hkE : k = fs.length := by have := HN.out; omega
          have hall : climbK s fs P.reverse k = climb s fs P.reverse := by rw [hkE]; exact climbK_all s fs P.reverse
          have HALL := Lib.hid hall
          clear hall hkE
          gi_wp2
          obtain ⟨hX1, hX3, hX4⟩ := HX.out
          refine ⟨by simp, .inl ⟨_, _, rfl, run_takeDeferred hX3, ?_⟩⟩
          refine ⟨_, results_tmp rfl _ _ _, ?_⟩
          rw [HB.out _ HALL.out.symm]
          have hbb : (root.toList == (climbK s fs P.reverse k).toList) = decide (climbK s fs P.reverse k = root) := by
            rw [Lib.toList_data, Lib.toList_data]
            by_cases he : climbK s fs P.reverse k = root
            · rw [he]; simp
            · rw [decide_eq_false he]
              exact beq_eq_false_iff_ne.2 (fun h => he (ByteArray.ext (Array.toList_inj.1 h)).symm)
          exact ⟨by rw [← hbb]; rfl, hX4.trans (belowK_b (w := w) (Nat.le_refl _) wr D _ _ (by omega) hX3 rfl rfl)⟩
    · have hb : verB root n i s P = false := by
        unfold verB
        rw [HVAL.out, List.length_reverse, if_neg (by rw [← HN.out]; exact hlen)]
        simp
      obtain ⟨A, cap, rfl⟩ : ∃ A cap, v = .slice A xs.length cap := by
        rcases hforms with ⟨e, e0⟩ | ⟨g, cap, e, _⟩
        · exact ⟨none, 0, by rw [e, e0]⟩
        · exact ⟨_, _, e⟩
      have hne : ((P.length : Int) != (xs.length : Int)) = true := by simp; omega
      have hne' : ((P.length : Int) == (xs.length : Int)) = false := by simp; omega
      have HB := Lib.hid (And.intro hb hbel)
      clear hb hbel hforms hlen
      gi_wp2
      refine ⟨by simp, .inl ⟨_, _, rfl, run_takeDeferred hK, ?_⟩⟩
      refine ⟨_, results_tmp rfl _ _ _, ?_⟩
      rw [HB.out.1]
      exact ⟨rfl, HB.out.2.trans (belowK_b (w := w) (Nat.le_refl _) W D _ _ (by omega) hK rfl rfl)⟩
  case stop =>
    rintro D c pre W _ _ h _
    exact h.elim

set_option maxRecDepth 100000 in
set_option maxHeartbeats 1600000 in
theorem verify_no (root s : ByteArray) (n i : Int) (P : List ByteArray) (a : Option Addr) (c : Nat) (w : World) (hA : StrA w a c P) (hi : i < 0 ∨ n ≤ i ∨ digsB P = false) :
    Calls Tryd.prog 24 #[.string root, .int .i64 n, .int .i64 i, .string s, .slice a P.length c] w (BoolEnd false w) := by
  have HC := Lib.hid (digs_any a c P w hA)
  have HE := Lib.hid (show BoolEnd false w (.returned (.bool false)) w from ⟨rfl, Below.refl _ _⟩)
  by_cases h0 : i < 0
  · have hd0 : decide (i < 0) = true := by simp [h0]
    go_enter Tryd.func24, Tryd.ntmps24
    go_wp2_with fail
    go_ret
    exact HE.out
  · have hd0 : decide (i < 0) = false := by simp [h0]
    by_cases h1 : n ≤ i
    · have hd1 : decide (n ≤ i) = true := by simp [h1]
      go_enter Tryd.func24, Tryd.ntmps24
      go_wp2_with fail
      go_ret
      exact HE.out
    · have h2 : digsB P = false := hi.elim (fun h => absurd h h0) (fun h => h.elim (fun h => absurd h h1) id)
      rw [h2] at HC
      have hd1 : decide (n ≤ i) = false := by simp [h1]
      go_enter Tryd.func24, Tryd.ntmps24
      go_wp2_with (go_at_call 38; refine HC.out.mono ?_; rintro e w' ⟨rfl, rfl⟩)
      go_ret
      exact HE.out
end Go.Proofs.YtbaggjhjkignkaaDoor

