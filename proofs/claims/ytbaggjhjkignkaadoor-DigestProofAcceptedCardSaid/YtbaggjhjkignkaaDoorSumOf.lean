/-
  The contract of the package's sumOf: the digest of its parts, one after the other. Condition: the table of 64 words reads as the program's text lays it.
-/
import Derived.Test.YtbaggjhjkignkaaDoorBlocks
import Derived.Test.YtbaggjhjkignkaaDoorConcat
namespace Go.Proofs.YtbaggjhjkignkaaDoor
open Go.RowKit Go.Shelf

attribute [local go_sem] Oper.semAt_some

/-- A string of these bytes. -/
def bstr (l : List UInt8) : Value := .string ⟨l.toArray⟩
/-- What sumOf answers. -/
def SumEnd (L : List ByteArray) (w : World) (e : Ending) (w' : World) : Prop := e = .returned (bstr (Sha.digest (flat L))) ∧ Below w.heap.size w w'

theorem flat_le (L : List ByteArray) (k : Nat) : (flat (L.take k)).length ≤ (flat L).length := by
  have : flat L = flat (L.take k) ++ flat (L.drop k) := by unfold flat; rw [← List.flatMap_append, List.take_append_drop]
  rw [this, List.length_append]; omega
theorem flat_mem {L : List ByteArray} {x : ByteArray} (h : x ∈ L) : x.size ≤ (flat L).length := by
  obtain ⟨k, hk, rfl⟩ := List.getElem_of_mem h
  have h1 := flat_take L k hk
  have h2 := flat_le L (k + 1)
  omega
/-- The words behind some blocks. -/
def stAfter : List Blk → Sha.St := fun pre => pre.foldl (fun s b => Sha.block b.1 s) Sha.init
theorem stAfter_snoc (pre : List Blk) (x : Blk) : stAfter (pre ++ [x]) = Sha.block x.1 (stAfter pre) := by unfold stAfter; rw [List.foldl_append]; rfl
theorem stAfter_all (p : List UInt8) : ∀ (m : Nat) (xs : List Blk), xs.map (·.1) = (List.range m).map (Sha.blk p) → stAfter xs = Sha.after p m
  | 0, xs, h => by
    cases xs with
    | nil => rfl
    | cons a b => simp at h
  | m + 1, xs, h => by
    rw [List.range_succ, List.map_append, List.map_singleton] at h
    have hne : xs ≠ [] := fun e => by rw [e] at h; simp at h
    obtain ⟨ys, y, rfl⟩ : ∃ ys y, xs = ys ++ [y] := ⟨xs.dropLast, xs.getLast hne, (List.dropLast_concat_getLast hne).symm⟩
    rw [List.map_append, List.map_singleton] at h
    obtain ⟨h1, h2⟩ := List.append_inj' h rfl
    rw [stAfter_snoc, stAfter_all p m ys h1, Sha.after]
    congr 1
    simpa using h2
theorem StrOwn.own_arg {w : World} {base g cap : Nat} {L : List ByteArray} (h : StrOwn w base (.slice (some ⟨g, 0, none⟩) L.length cap) L) : L.length ≤ cap ∧ cap ≤ maxLen ∧ True := by
  obtain ⟨a, c, e, h1, h2, _⟩ := h.arg
  cases e
  exact ⟨h1, h2, trivial⟩
/-- A word's last byte. -/
def ob (y : Wd) : UInt8 := UInt8.ofNat y.toNat
theorem out_byte (y : Wd) : wv y % 256 = wv (bw (ob y)) := by
  unfold ob
  rw [wv_bw, UInt8.toNat_ofNat']
  unfold wv
  omega
theorem row_text {W : World} {n₀ n : Nat} {v : Value} {l : List UInt8} (h : W.ownsRow n₀ 5 1 v n (bytesV l)) (hn : l.length = n) (hl : 0 < n) :
    ∃ g cap, v = .slice (some ⟨g, 0, none⟩) n cap ∧ (convert 41 9 (.slice (some ⟨g, 0, none⟩) n cap)).run Tryd.prog W = .ok (.string ⟨l.toArray⟩) W := by
  subst hn
  obtain ⟨g, cap, rfl⟩ : ∃ g cap, v = .slice (some ⟨g, 0, none⟩) l.length cap := by
    rcases h.2 with ⟨_, h0⟩ | ⟨g, cap, _, hv, _⟩
    · omega
    · exact ⟨g, cap, hv⟩
  refine ⟨g, cap, rfl, run_convert_bytes_back W 41 9 5 ⟨g, 0, none⟩ cap l Tryd.underlying41 Tryd.underlying5 Tryd.underlying9 ?_⟩
  intro j hj
  refine h.cells (g := g) rfl j _ ?_
  rw [bytesV_at l j hj, wv_bw, List.getD, List.getElem?_eq_getElem hj]
  rfl
/-- The parts and their padding are the padded string. -/
theorem pad_text (l : List UInt8) : (⟨(Sha.padB l.length).toArray⟩ : ByteArray).data.toList = Sha.padB l.length := rfl

set_option maxRecDepth 100000 in
set_option maxHeartbeats 4000000 in
theorem sumOf_any (ba oa ca : Nat) (L : List ByteArray) (w : World) (hA : StrA w (some ⟨ba, oa, none⟩) ca L) (hL : L.length < 100) (hL0 : 0 < L.length) (hs : (flat L).length < 900000) (ht : Tab w) :
    Calls Tryd.prog 27 #[.slice (some ⟨ba, oa, none⟩) L.length ca] w (SumEnd L w) := by
  have hLs : ∀ x ∈ L, x.size ≤ 900000 := fun x hx => by have := flat_mem hx; omega
  refine (callsIn_wide (n := 6)).1 ?_
  refine callsIn_of_wp_marks Tryd.func27 rfl trivial ?_ rfl
  simp only [Tryd.ntmps27, List.size_toArray, List.length_cons, List.length_nil, Nat.reduceAdd, Nat.reduceSub, Array.replicate_succ, Array.replicate_zero, List.push_toArray, List.append_toArray, List.nil_append, List.cons_append]
  gi_wp2
  gi_loop [3, 13] (fun t i => ∃ k : Nat, k ≤ L.length ∧ i = .int .i64 k ∧ t = .int .i64 (((flat (L.take k)).length : Nat) : Int)) (fun _ i => L.length - (intOf i).toNat)
  case atStart => exact ⟨0, by omega, rfl, rfl⟩
  case round =>
    obtain ⟨k, hk, rfl, rfl⟩ := hrel
    by_cases hkL : k < L.length
    · obtain ⟨b, off, e, l1, l2⟩ := hA.2.2 k hkL
      cases e
      have hki : (k : Int) < (L.length : Int) := by omega
      have hnx := flat_take L k hkL
      have hle := flat_le L (k + 1)
      have hsz : (flat (L.take k)).length + L[k].size < 1000000 := by omega
      have HN := Lib.hid hnx
      clear hnx
      generalize L[k] = x at *
      gi_wp2
      go_round
      case rel => exact ⟨k + 1, by omega, by go_num, by rw [HN.out]; go_num⟩
      case measure => simp [intOf]; omega
    · have hke : (flat (L.take k)).length = (flat L).length := by rw [List.take_of_length_le (by omega)]
      have hkd : decide ((k : Int) < (L.length : Int)) = false := by simp; omega
      rw [hke]
      have HA := Lib.hid hA
      have HT := Lib.hid ht
      clear hke hA ht
      gi_wp2
      refine ⟨trivial, ?_⟩
      refine (callsIn_wide.2 (padding_any (flat L).length _ (by omega))).mono ?_
      rintro e w1 ⟨rfl, hb1⟩
      have hpd := pad_text (flat L)
      obtain ⟨pd, hpe⟩ : ∃ x : ByteArray, x = ⟨(Sha.padB (flat L).length).toArray⟩ := ⟨_, rfl⟩
      rw [← hpe] at hpd ⊢
      have HPD := Lib.hid hpd
      have HB1 := Lib.hid hb1
      clear hpe hpd hb1
      gi_wp2
      refine ⟨trivial, ?_⟩
      have hsl : ∀ a b c d : Value, True := fun _ _ _ _ => trivial
      clear hsl
      obtain ⟨W2, hW2⟩ : ∃ V, V = (w1.alloc (.cells #[.string pd] 9)).alloc (.cells #[.slice (some ⟨ba, oa, none⟩) L.length ca, .slice (some ⟨w1.heap.size, 0, none⟩) 1 1] 26) := ⟨_, rfl⟩
      rw [← hW2]
      obtain ⟨w0, hw0⟩ : ∃ V, V = w.alloc (.cells (wordsV Sha.init.list).toArray 56) := ⟨_, rfl⟩
      have hb1 : Below w0.heap.size w0 w1 := by rw [hw0]; exact HB1.out
      have hb0 : Below w.heap.size w w0 := by rw [hw0]; exact (Below.refl _ _).alloc (Nat.le_refl _) _
      have hs0 : w0.heap.size = w.heap.size + 1 := by rw [hw0]; simp
      have hs1 := hb1.size
      have hb2 : Below w1.heap.size w1 W2 := by rw [hW2]; exact ((Below.refl _ _).alloc (Nat.le_refl _) _).alloc (by simp) _
      have hb02 : Below w0.heap.size w0 W2 := below_step hb1 hb2
      have hbw : Below w.heap.size w W2 := below_step hb0 hb02
      have hr0 : RowAt W2 w.heap.size 56 Sha.init.list := by
        unfold RowAt
        rw [hb02.block _ (by omega), hw0]
        exact heap_alloc_new _ _
      have hA2 : StrA W2 (some ⟨ba, oa, none⟩) ca L := HA.out.below hbw
      have hB2 : StrA W2 (some ⟨w1.heap.size, 0, none⟩) 1 [pd] := by
        refine ⟨by simp, by decide, fun i hi => ?_⟩
        obtain rfl : i = 0 := by simpa using hi
        refine ⟨_, _, rfl, by rw [hW2]; simp; omega, ?_⟩
        rw [cell_of_row W2 _ _ #[.string pd] 9 (0, 0) (by rw [hW2]; exact heap_alloc2_old _ _ _)]
        rfl
      have hc2 : W2.heap[w1.heap.size + 1]? = some (.cells #[.slice (some ⟨ba, oa, none⟩) L.length ca, .slice (some ⟨w1.heap.size, 0, none⟩) 1 1] 26 (0, 0)) := by rw [hW2]; exact heap_alloc2_new _ _ _
      have hs2 := hb2.size
      refine (callsIn_wide.2 (concat_any ba oa ca L w1.heap.size 0 1 [pd] (w1.heap.size + 1) 2 W2 hA2 hB2 (by omega) hL0 (by simp) (by simp)
        (by rw [cell_of_row W2 _ _ _ _ _ hc2]; rfl) (by rw [cell_of_row W2 _ _ _ _ _ hc2]; rfl))).mono ?_
      rintro e w3 ⟨⟨v, rfl, hown⟩, hb3⟩
      obtain ⟨g, cap, rfl, hg1, hg2, hcap, hcell⟩ := hown.open (by simp)
      have hs3 := hb3.size
      have hr3 : RowAt w3 w.heap.size 56 Sha.init.list := by unfold RowAt; rw [hb3.block _ (by omega)]; exact hr0
      have hbw3 : Below w.heap.size w w3 := below_step hbw hb3
      have HX := Lib.hid (And.intro (And.intro hr3 hbw3) (And.intro hown hcell))
      have hlow : w.heap.size + 1 ≤ w1.heap.size := by omega
      clear hW2 hw0 hb1 hb0 hs0 hb2 hb02 hbw hr0 hA2 hB2 hc2 hb3 hr3 hbw3 hown hcell
      gi_wp2_with (refine ⟨trivial, ?_⟩; gi_at_call 41; refine (blocks_in Fence.wide _ trivial rfl (some ⟨g, 0, none⟩) _ cap _).mono ?_; rintro e w' ⟨rfl, rfl⟩)
      obtain ⟨W4, hW4⟩ : ∃ V, V = w3.alloc (.cells #[.slice (some ⟨g, 0, none⟩) (L.length + 1) cap] 26) := ⟨_, rfl⟩
      rw [← hW4]
      have hb4 : Below w3.heap.size w3 W4 := by rw [hW4]; exact (Below.refl _ _).alloc (Nat.le_refl _) _
      have hs4 : W4.heap.size = w3.heap.size + 1 := by rw [hW4]; simp
      have hc4 : W4.cell? ⟨w3.heap.size, 0, none⟩ = some (.slice (some ⟨g, 0, none⟩) (L ++ [pd]).length cap) := by
        rw [cell_of_row W4 _ _ #[.slice (some ⟨g, 0, none⟩) (L.length + 1) cap] 26 (0, 0) (by rw [hW4]; exact heap_alloc_new _ _), List.length_append]; rfl
      have hA4 : StrOff w.heap.size W4 (some ⟨g, 0, none⟩) cap (L ++ [pd]) := by
        obtain ⟨q1, q2, q3⟩ := HX.out.2.1.own_arg
        refine ⟨q1, hcap, fun i hi => ?_⟩
        have := HX.out.2.2 i (.string (L ++ [pd])[i]) (by unfold strV; rw [List.getElem?_map, List.getElem?_eq_getElem hi]; rfl)
        have hadd : (⟨g, 0, none⟩ : Addr).add i = ⟨g, 0 + i, none⟩ := by cases i <;> simp [Addr.add]
        rw [hadd] at this
        exact ⟨g, 0, rfl, by omega, (hb4.cell (p := ⟨g, 0 + i, none⟩) hg2).trans this⟩
      have hfl : flat (L ++ [pd]) = Sha.pad (flat L) := by unfold flat Sha.pad; rw [List.flatMap_append]; show _ ++ (pd.data.toList ++ []) = _; rw [HPD.out, List.append_nil]; rfl
      have hpl : (flat (L ++ [pd])).length < 1000000 := by rw [hfl, Sha.pad_length]; unfold Sha.padZ; omega
      have hp64 : (flat (L ++ [pd])).length % 64 = 0 := by rw [hfl, Sha.pad_whole]; omega
      have hLs4 : ∀ x ∈ L ++ [pd], x.size ≤ 1000000 := fun x hx => by have := flat_mem hx; omega
      have hr4 : RowAt W4 w.heap.size 56 Sha.init.list := by unfold RowAt; rw [hb4.block _ (by omega)]; exact HX.out.1.1
      have hbw4 : Below w.heap.size w W4 := below_step HX.out.1.2 hb4
      refine wpIn_rangeFunc_state rfl (by omega) (gf := 53) (lb := #[.pointer (some ⟨w3.heap.size, 0, none⟩)]) rfl trivial (enters_of Tryd.func53 (by kernel_rfl) rfl)
        (blocks_stops Fence.wide 5 trivial rfl (by omega) w.heap.size w3.heap.size (some ⟨g, 0, none⟩) cap (L ++ [pd]) hpl hp64 hLs4 W4 (by omega) hc4 hA4) KeepsCells.trans (fun W l o o' _ h1 h2 _ => KeepsCells.put h1 h2) (Below.refl _ _) (fun _ => rfl)
        (fun pre W => RowAt W w.heap.size 56 (stAfter pre).list ∧ Below w.heap.size w W)
        (fun pre A B row hs hg hr => ⟨(hg.block _ (Array.getElem?_eq_some_iff.1 hs.1).1 (fun e => by have := hr _ e.symm; omega)).trans hs.1, hs.2.grown hg (by have := hs.2.size; omega) (fun k e => by have := hr k e; omega)⟩)
        ⟨hr4, hbw4⟩
        (fun x a' W => ∃ Bb : Nat, Bb ≠ w.heap.size ∧ BRowAt W Bb 62 x.1 ∧ a' = { tmps := #[.slice (some ⟨ba, oa, none⟩) L.length ca, undef, .string ⟨#[]⟩, .int .i64 ((flat L).length : Nat), undef, u5, .pointer (some ⟨w.heap.size, 0, none⟩), .pointer (some ⟨Bb, 0, none⟩), undef, undef, undef, .slice (some ⟨ba, oa, none⟩) L.length ca,
          .int .i64 (L.length : Nat), .int .i64 (k : Nat), .bool false, u15, u16, u17, u18, u19, u20, u21, .agg #[.int .u32 1779033703, .int .u32 3144134277, .int .u32 1013904242, .int .u32 2773480762, .int .u32 1359893119, .int .u32 2600822924, .int .u32 528734635, .int .u32 1541459225],
          .slice (some ⟨ba, oa, none⟩) L.length ca, .int .i64 ((flat L).length : Nat), .string pd, .slice (some ⟨w1.heap.size, 0, none⟩) 1 1, .slice (some ⟨w1.heap.size + 1, 0, none⟩) 2 2, .slice (some ⟨g, 0, none⟩) (L.length + 1) cap, .func (.func 53) #[] #[.pointer (some ⟨w3.heap.size, 0, none⟩)], .agg (bytesV x.1).toArray, undef, undef,
          undef, undef, undef, undef, undef, undef, undef, undef, undef, undef, undef, undef, undef, undef, undef, undef, undef, undef, undef, undef, undef, undef, undef, undef], defers := [] })
        (fun x a' u A B row hs hg hr => by
          obtain ⟨Bb, h1, h2, h3⟩ := hs
          refine ⟨Bb, h1, (hg.block _ (Array.getElem?_eq_some_iff.1 h2).1 (fun e => ?_)).trans h2, h3⟩
          obtain ⟨_, o, ho, hc⟩ := hr _ e.symm
          rw [show A.heap[Bb]? = _ from h2] at ho; cases ho; cases hc)
        ?assign ?body ?done
      case assign =>
        rintro l pre x W K ⟨hi1, hi2⟩ hK
        have hz := zero_bytes64
        have hui : (Tryd.prog.info? 62).map (·.size) = some (bytesV x.1).toArray.size := by
          rw [List.size_toArray, bytesV_length, x.2]; kernel_rfl
        have hold : (bytesV zero64).toArray.size = (bytesV x.1).toArray.size := by
          rw [List.size_toArray, bytesV_length, List.size_toArray, bytesV_length, x.2]; rfl
        have HU := Lib.hid (And.intro hui hold)
        clear hui hold
        gi_wp2_with (refine wpListIn_store_row rfl 62 (.tmp 7) (.tmp 30) rfl W.heap.size (bytesV x.1).toArray rfl rfl 62 _ (heap_alloc_new W _) HU.out.1 HU.out.2 (bytesV_one _) ?_)
        rw [World.setRow_alloc_new]
        exact hK _ _ ((KeepsOthers.alloc _ _).from _) (KeepsCells.alloc _ _ _) ⟨(heap_alloc_old _ _ (Array.getElem?_eq_some_iff.1 hi1).1).trans hi1, hi2.alloc hi2.size _⟩
          ⟨W.heap.size, by have := (Array.getElem?_eq_some_iff.1 hi1).1; omega, heap_alloc_new _ _, rfl⟩
      case body =>
        rintro l pre x a' W ⟨hi1, hi2⟩ ⟨Bb, hne, hbb, rfl⟩ hlen
        have hTW := HT.out.below hi2
        have hlt1 := (Array.getElem?_eq_some_iff.1 hi1).1
        have hlt2 := (Array.getElem?_eq_some_iff.1 hbb).1
        gi_wp2
        refine wpIn_region_any (by kernel_rfl) ?_
        change wpAnyIn _ _ _ _ _ _ _ _ _ W.drew
        refine wpAnyIn_ready (rs := [0, 1]) (by kernel_rfl) (by simp) ?_
        have hui8 : (Tryd.prog.info? 56).map (·.size) = some (wordsV (stAfter pre).list).toArray.size := by kernel_rfl
        have hui64 : (Tryd.prog.info? 62).map (·.size) = some (bytesV x.1).toArray.size := by
          rw [List.size_toArray, bytesV_length, x.2]; kernel_rfl
        have hui8' : (Tryd.prog.info? 56).map (·.size) = some (wordsV (stAfter (pre ++ [x])).list).toArray.size := by kernel_rfl
        have bV : ∀ V V2, Below W.drew.heap.size W.drew V → Below V.heap.size V V2 → Below W.heap.size W V2 := fun V V2 h1 h2 => below_step (w1 := V) ((Below.refl W.heap.size W).drew.trans h1) h2
        have tV : ∀ V, Below W.drew.heap.size W.drew V → Tab V := fun V h1 => hTW.below ((Below.refl W.heap.size W).drew.trans h1)
        have rV : ∀ V, Below W.heap.size W V → RowAt V w.heap.size 56 (stAfter pre).list := fun V h => (h.block _ hlt1).trans hi1
        have rV' : ∀ V, Below W.drew.heap.size W.drew V → RowAt V w.heap.size 56 (stAfter pre).list := fun V h => rV V ((Below.refl W.heap.size W).drew.trans h)
        have fin : ∀ V, Below W.heap.size W V → ownPostG W4.heap.size (KeepsCells w.heap.size) (fun pre W => RowAt W w.heap.size 56 (stAfter pre).list ∧ Below w.heap.size w W) (fun _ _ _ => False) (pre ++ [x]) W .normal ⟨#[], []⟩ (V.setRow w.heap.size (wordsV (stAfter (pre ++ [x])).list).toArray) := fun V h =>
          ⟨KeepsFrom.trans ⟨h.size, fun k o _ hk _ => (h.block k (Array.getElem?_eq_some_iff.1 hk).1).trans hk⟩ (KeepsFrom.of_grownBy (grownBy_setRow _ _ _) (fun j e => by cases e; omega)),
            (KeepsCells.below h (Nat.le_refl _)).trans (KeepsCells.set _ _ _), setRow_heap V _ _ _ _ _ (rV V h), below_setRow (hi2.trans (h.mono hi2.size)) (Nat.le_refl _) _⟩
        refine BigFrame.allReadyIn_want rfl rfl (fun K hK => ?_) (BigFrame.allReadyIn_want rfl rfl (fun K hK => ?_) AllReadyIn.nil)
        · refine opIn_load_row 56 (.tmp 6) rfl w.heap.size rfl 56 _ (0, 0) _ hi1 Tryd.underlying56 rfl hui8 (hK _ _ ?_)
          clear hK K
          refine wpAnyIn_ready (rs := [1]) (by kernel_rfl) (by simp) ?_
          refine BigFrame.allReadyIn_want rfl rfl (fun K hK => ?_) AllReadyIn.nil
          refine opIn_load_row 62 (.tmp 7) rfl Bb rfl 62 _ (0, 0) _ hbb Tryd.underlying62 rfl hui64 (hK _ _ ?_)
          clear hK K
          refine wpAnyIn_ready (rs := [2]) (by kernel_rfl) (by simp) ?_
          refine BigFrame.allReadyIn_want rfl rfl (fun K hK => ?_) AllReadyIn.nil
          go_simp
          refine ⟨trivial, (CallsIn.inRound l (callsIn_wide.2 (schedule_any x.1 x.2 W.drew))).mono ?_⟩
          rintro e V ⟨rfl, hV⟩
          refine hK _ _ ?_
          clear hK K
          refine wpAnyIn_ready (rs := [3]) (by kernel_rfl) (by simp) ?_
          refine BigFrame.allReadyIn_want rfl rfl (fun K hK => ?_) AllReadyIn.nil
          go_simp
          refine ⟨trivial, (CallsIn.inRound l (callsIn_wide.2 (mix_any (stAfter pre) (Sha.sched x.1) (Sha.sched_length _) V (tV V hV)))).mono ?_⟩
          rintro e V2 ⟨rfl, hV2⟩
          have hb2 := bV V V2 hV hV2
          refine hK _ _ ?_
          clear hK K
          refine wpAnyIn_ready (rs := [4]) (by kernel_rfl) (by simp) ?_
          refine BigFrame.allReadyIn_want rfl rfl (fun K hK => ?_) AllReadyIn.nil
          refine opIn_store_row 56 (.tmp 6) (.tmp 34) rfl w.heap.size (wordsV (stAfter (pre ++ [x])).list).toArray rfl (by rw [stAfter_snoc]; rfl) 56 _ (rV V2 hb2) hui8' rfl (wordsV_one _) (hK _ _ ?_)
          refine wpAnyIn_done (by kernel_rfl) ?_ _
          exact fin V2 hb2
        · refine opIn_load_row 62 (.tmp 7) rfl Bb rfl 62 _ (0, 0) _ hbb Tryd.underlying62 rfl hui64 (hK _ _ ?_)
          clear hK K
          refine wpAnyIn_ready (rs := [0, 2]) (by kernel_rfl) (by simp) ?_
          refine BigFrame.allReadyIn_want rfl rfl (fun K hK => ?_) (BigFrame.allReadyIn_want rfl rfl (fun K hK => ?_) AllReadyIn.nil)
          · refine opIn_load_row 56 (.tmp 6) rfl w.heap.size rfl 56 _ (0, 0) _ hi1 Tryd.underlying56 rfl hui8 (hK _ _ ?_)
            clear hK K
            refine wpAnyIn_ready (rs := [2]) (by kernel_rfl) (by simp) ?_
            refine BigFrame.allReadyIn_want rfl rfl (fun K hK => ?_) AllReadyIn.nil
            go_simp
            refine ⟨trivial, (CallsIn.inRound l (callsIn_wide.2 (schedule_any x.1 x.2 W.drew))).mono ?_⟩
            rintro e V ⟨rfl, hV⟩
            refine hK _ _ ?_
            clear hK K
            refine wpAnyIn_ready (rs := [3]) (by kernel_rfl) (by simp) ?_
            refine BigFrame.allReadyIn_want rfl rfl (fun K hK => ?_) AllReadyIn.nil
            go_simp
            refine ⟨trivial, (CallsIn.inRound l (callsIn_wide.2 (mix_any (stAfter pre) (Sha.sched x.1) (Sha.sched_length _) V (tV V hV)))).mono ?_⟩
            rintro e V2 ⟨rfl, hV2⟩
            have hb2 := bV V V2 hV hV2
            refine hK _ _ ?_
            clear hK K
            refine wpAnyIn_ready (rs := [4]) (by kernel_rfl) (by simp) ?_
            refine BigFrame.allReadyIn_want rfl rfl (fun K hK => ?_) AllReadyIn.nil
            refine opIn_store_row 56 (.tmp 6) (.tmp 34) rfl w.heap.size (wordsV (stAfter (pre ++ [x])).list).toArray rfl (by rw [stAfter_snoc]; rfl) 56 _ (rV V2 hb2) hui8' rfl (wordsV_one _) (hK _ _ ?_)
            refine wpAnyIn_done (by kernel_rfl) ?_ _
            exact fin V2 hb2
          · go_simp
            refine ⟨trivial, (CallsIn.inRound l (callsIn_wide.2 (schedule_any x.1 x.2 W.drew))).mono ?_⟩
            rintro e V ⟨rfl, hV⟩
            refine hK _ _ ?_
            clear hK K
            refine wpAnyIn_ready (rs := [0]) (by kernel_rfl) (by simp) ?_
            refine BigFrame.allReadyIn_want rfl rfl (fun K hK => ?_) AllReadyIn.nil
            refine opIn_load_row 56 (.tmp 6) rfl w.heap.size rfl 56 _ (0, 0) _ (rV' V hV) Tryd.underlying56 rfl hui8 (hK _ _ ?_)
            clear hK K
            refine wpAnyIn_ready (rs := [3]) (by kernel_rfl) (by simp) ?_
            refine BigFrame.allReadyIn_want rfl rfl (fun K hK => ?_) AllReadyIn.nil
            go_simp
            refine ⟨trivial, (CallsIn.inRound l (callsIn_wide.2 (mix_any (stAfter pre) (Sha.sched x.1) (Sha.sched_length _) V (tV V hV)))).mono ?_⟩
            rintro e V2 ⟨rfl, hV2⟩
            have hb2 := bV V V2 hV hV2
            refine hK _ _ ?_
            clear hK K
            refine wpAnyIn_ready (rs := [4]) (by kernel_rfl) (by simp) ?_
            refine BigFrame.allReadyIn_want rfl rfl (fun K hK => ?_) AllReadyIn.nil
            refine opIn_store_row 56 (.tmp 6) (.tmp 34) rfl w.heap.size (wordsV (stAfter (pre ++ [x])).list).toArray rfl (by rw [stAfter_snoc]; rfl) 56 _ (rV V2 hb2) hui8' rfl (wordsV_one _) (hK _ _ ?_)
            refine wpAnyIn_done (by kernel_rfl) ?_ _
            exact fin V2 hb2
      case done =>
        rintro D xs W hD hS ⟨hi1, hi2⟩ hK
        have hdg : Sha.outB (stAfter xs) = Sha.digest (flat L) := by
          rw [stAfter_all _ _ xs hS, hfl]; rfl
        have HDG := Lib.hid hdg
        have hDw : w.heap.size < D := by omega
        clear hdg hS hfl hpl hp64 hLs4 hr4 hbw4 hA4 hc4 hW4 hb4
        generalize stAfter xs = s at *
        obtain ⟨i0, hi, hz0, hz1, hz2⟩ := info_parts info_u8
        have hui8 : (Tryd.prog.info? 56).map (·.size) = some (wordsV s.list).toArray.size := by kernel_rfl
        have hmk : ∀ V, (Instr.makeSlice 41 (.int .i64 0) (.int .i64 32)).run Tryd.prog V = .ok (.slice (some ⟨V.heap.size, 0, none⟩) 0 32) (V.alloc (.cells (bytesV (List.replicate 32 0)).toArray 5)) := by
          intro V
          have := run_make (P := Tryd.prog) V 41 5 i0 (.int .u8 0) Tryd.underlying41 hi hz0 .i64 .i64 0 32 (by omega) (by omega) (by rw [hz2]; omega) (by omega)
          rw [this, hz1, show (32 : Int).toNat * 1 = 32 by rfl, made_bytes]; rfl
        have hown : (W.alloc (.cells (bytesV (List.replicate 32 0)).toArray 5)).ownsRow w.heap.size 5 1 (.slice (some ⟨W.heap.size, 0, none⟩) 0 32) 0 [] :=
          World.ownsRow_made W _ 32 hi2.size (by decide) (by rw [List.size_toArray, bytesV_length, List.length_replicate])
        have hi1' : RowAt (W.alloc (.cells (bytesV (List.replicate 32 0)).toArray 5)) w.heap.size 56 s.list := (heap_alloc_old _ _ (Array.getElem?_eq_some_iff.1 hi1).1).trans hi1
        have hK' : (W.alloc (.cells (bytesV (List.replicate 32 0)).toArray 5)).heap[D]? = some (.deferred (some [])) := (heap_alloc_old _ _ (Array.getElem?_eq_some_iff.1 hK).1).trans hK
        have hi2' : Below w.heap.size w (W.alloc (.cells (bytesV (List.replicate 32 0)).toArray 5)) := hi2.alloc hi2.size _
        have HB := Lib.hid (And.intro (And.intro hown hi1') (And.intro hK' hi2'))
        clear hown hi1 hi1' hK hK' hi2 hi2'
        gi_wp2_with (refine wpListIn_load_row rfl 56 (.tmp 6) rfl w.heap.size rfl 56 _ (0, 0) _ HB.out.1.2 Tryd.underlying56 rfl hui8 ?_)
        obtain ⟨W5, hW5⟩ : ∃ V, V = W.alloc (.cells (bytesV (List.replicate 32 0)).toArray 5) := ⟨_, rfl⟩
        have hW5' : W.alloc (.cells (bytesV [0, 0, 0, 0, 0, 0, 0, 0, 0, 0, 0, 0, 0, 0, 0, 0, 0, 0, 0, 0, 0, 0, 0, 0, 0, 0, 0, 0, 0, 0, 0, 0]).toArray 5) = W5 := hW5.symm
        rw [← hW5] at HB
        rw [hW5']
        clear hW5 hW5' hmk
        gi_loopw [8, 37] (fun v i wr => ∃ j : Nat, j ≤ 8 ∧ i = .int .i64 j ∧ wr.ownsRow w.heap.size 5 1 v (4 * j) (bytesV ((Sha.outB s).take (4 * j))) ∧ Below w.heap.size w wr ∧ wr.heap[D]? = some (.deferred (some []))) (fun _ i _ => 8 - (intOf i).toNat)
        case atStart => exact ⟨0, by omega, rfl, HB.out.1.1, HB.out.2.2, HB.out.2.1⟩
        case round =>
          clear HB
          obtain ⟨j, hj, rfl, hown, hb, hK⟩ := hrel
          by_cases hj8 : j < 8
          · obtain ⟨y, hy⟩ : ∃ y, y = s.list.getD j 0 := ⟨_, rfl⟩
            have hix : ∀ V, (Instr.index 56 (.agg (wordsV s.list).toArray) (.int .i64 (j : Int))).run Tryd.prog V = .ok (.int .u32 (wv y)) V := by
              intro V
              rw [hy]
              match j, hj8 with
              | 0, _ => rfl
              | 1, _ => rfl
              | 2, _ => rfl
              | 3, _ => rfl
              | 4, _ => rfl
              | 5, _ => rfl
              | 6, _ => rfl
              | 7, _ => rfl
            have htk : (Sha.outB s).take (4 * (j + 1)) = (Sha.outB s).take (4 * j) ++ Sha.beBytes y := by
              rw [hy]
              match j, hj8 with
              | 0, _ => rfl
              | 1, _ => rfl
              | 2, _ => rfl
              | 3, _ => rfl
              | 4, _ => rfl
              | 5, _ => rfl
              | 6, _ => rfl
              | 7, _ => rfl
            have HTK := Lib.hid htk
            have hj0 : (j : Int) < 8 := by omega
            have hlt := fun k e => (hown.lt k e).1
            have hne : ∀ k, u8.ownBlock = some k → k ≠ D := fun k e hk => by
              subst hk
              obtain ⟨_, h0 | ⟨g', cap', cur', hv, h2, h3, _⟩⟩ := hown
              · rw [h0.1] at e; cases e
              · rw [hv] at e; cases e; rw [hK] at h3; cases h3
            have hB0 := hb.size
            have s1 := wv_shrk y 24 16777216 rfl
            have s2 := wv_shrk y 16 65536 rfl
            have s3 := wv_shrk y 8 256 rfl
            have o1 := out_byte (y >>> 24)
            have o2 := out_byte (y >>> 16)
            have o3 := out_byte (y >>> 8)
            have o4 := out_byte y
            clear htk hy
            gi_wp2_with (gi_at_builtin; refine wpListIn_append_own _ rfl _ _ 41 rfl w.heap.size 5 i0 (.int .u8 0) 1 1 Tryd.underlying41 hi hz0 hz1 hz2 rfl (by decide) _ _ _ rfl (hown.alloc _) ⟨wr.heap.size, 0, none⟩ 4 4 [.int .u8 (wv (bw (ob (y >>> 24)))), .int .u8 (wv (bw (ob (y >>> 16)))), .int .u8 (wv (bw (ob (y >>> 8)))), .int .u8 (wv (bw (ob y)))] rfl rfl (World.news_of_block (cs := #[.int .u8 (wv (bw (ob (y >>> 24)))), .int .u8 (wv (bw (ob (y >>> 16)))), .int .u8 (wv (bw (ob (y >>> 8)))), .int .u8 (wv (bw (ob y)))]) (t := 5) (fr := (0, 0)) (heap_alloc_new wr _)) (by simp [Value.oneCell']) (by unfold maxLen; omega) (by omega) (by simp; omega) ?_; intro v' w6 hown' hgrow _)
            have hb6 : Below w.heap.size w w6 := (hb.alloc hB0 _).grown hgrow (by simp; omega) hlt
            have hDl := (Array.getElem?_eq_some_iff.1 hK).1
            have hK6 : w6.heap[D]? = some (.deferred (some [])) := (hgrow.block D (by simp; omega) (fun e => hne D e.symm rfl)).trans ((heap_alloc_old _ _ hDl).trans hK)
            have ho6 : w6.ownsRow w.heap.size 5 1 v' (4 * (j + 1)) (bytesV ((Sha.outB s).take (4 * (j + 1)))) := by
              rw [HTK.out]; unfold bytesV at hown' ⊢; rw [List.map_append]; exact hown'
            clear hown hown' hgrow hlt hne hb hK hix s1 s2 s3 o1 o2 o3 o4
            gi_wp2
            go_roundw
            case rel => exact ⟨j + 1, by omega, by go_num, ho6, hb6, hK6⟩
            case measure => simp [intOf]; omega
          · have hje : j = 8 := by omega
            have hjd : decide ((j : Int) < 8) = false := by simp; omega
            rw [hje] at hown
            have hown8 : wr.ownsRow w.heap.size 5 1 u8 32 (bytesV (Sha.outB s)) := hown
            obtain ⟨g8, cap8, hv8, hconv⟩ := row_text hown8 (Sha.outB_length s) (by omega)
            have HB := Lib.hid (And.intro hb hown8)
            clear hown hown8 hb hj8 hj hje
            subst hv8
            gi_wp2
            refine ⟨by simp, .inl ⟨_, _, rfl, run_takeDeferred hK, ?_⟩⟩
            refine ⟨_, results_tmp rfl _ _ _, ?_⟩
            refine ⟨?_, HB.out.1.trans (belowK_b (w := w) (Nat.le_refl _) wr D _ _ (by omega) hK rfl rfl)⟩
            unfold bstr
            rw [← HDG.out]
            rfl
end Go.Proofs.YtbaggjhjkignkaaDoor

