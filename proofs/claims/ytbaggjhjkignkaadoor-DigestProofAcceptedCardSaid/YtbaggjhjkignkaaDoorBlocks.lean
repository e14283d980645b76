/-
  The contract of the package's blocks: it yields the whole blocks of its parts, one after the other.
-/
import Derived.Test.YtbaggjhjkignkaaDoorRange
import Derived.Test.YtbaggjhjkignkaaDoorStrs
import Derived.Test.YtbaggjhjkignkaaDoorScope
import Derived.Lib.SlBuf
import Derived.Laws.CopyRow
namespace Go.Proofs.YtbaggjhjkignkaaDoor
open Go.RowKit Go.Shelf

/-- What a round keeps: all cells but those of block B. -/
structure KeepsCells (B : Nat) (W W' : World) : Prop where
  size : W.heap.size ≤ W'.heap.size
  same : ∀ (k : Nat) (o : Obj), k ≠ B → W.heap[k]? = some o → o.isCells = true → W'.heap[k]? = some o
theorem KeepsCells.trans {B : Nat} {X Y Z : World} (h : KeepsCells B X Y) (k : KeepsCells B Y Z) : KeepsCells B X Z := ⟨Nat.le_trans h.size k.size, fun i o hB hi ho => k.same i o hB (h.same i o hB hi ho) ho⟩
theorem KeepsCells.put {B l : Nat} {W : World} {o o' : Obj} (hl : W.heap[l]? = some o) (ho : o.isCells = false) : KeepsCells B W (W.putObj l o') :=
  ⟨by simp, fun k o2 _ hk hc => by
    by_cases e : k = l
    · subst e; rw [hl] at hk; cases hk; rw [ho] at hc; cases hc
    · exact (World.putObj_heap_other e).trans hk⟩
theorem KeepsCells.alloc (B : Nat) (W : World) (o : Obj) : KeepsCells B W (W.alloc o) :=
  ⟨by simp, fun k _ _ hk _ => (heap_alloc_old _ _ (Array.getElem?_eq_some_iff.1 hk).1).trans hk⟩
theorem KeepsCells.below {B n : Nat} {W W' : World} (h : Below n W W') (hn : W.heap.size ≤ n) : KeepsCells B W W' :=
  ⟨h.size, fun k _ _ hk _ => (h.block k (Nat.lt_of_lt_of_le (Array.getElem?_eq_some_iff.1 hk).1 hn)).trans hk⟩
theorem KeepsCells.set (B : Nat) (W : World) (cs : Array Value) : KeepsCells B W (W.setRow B cs) :=
  ⟨by simp, fun k _ hb hk _ => (setRow_other W B k cs hb).trans hk⟩
theorem row_of_cell {W : World} {b i : Nat} {v : Value} (h : W.cell? ⟨b, i, none⟩ = some v) : ∃ cs t fr, W.heap[b]? = some (.cells cs t fr) ∧ cs[i]? = some v := by
  unfold World.cell? at h
  cases hq : W.heap[b]? with
  | none => simp [hq] at h
  | some o => cases o <;> simp [hq] at h <;> exact ⟨_, _, _, rfl, h⟩
theorem KeepsCells.cell {B : Nat} {W W' : World} (h : KeepsCells B W W') {b i : Nat} {v : Value} (hb : b ≠ B) (hc : W.cell? ⟨b, i, none⟩ = some v) : W'.cell? ⟨b, i, none⟩ = some v := by
  obtain ⟨cs, t, fr, hr, hi⟩ := row_of_cell hc
  rw [cell_of_row W' b i cs t fr (h.same b _ hb hr rfl)]; exact hi
theorem KeepsCells.row {B : Nat} {W W' : World} (h : KeepsCells B W W') {b : Nat} {t : TypeId} {l : List UInt8} (hb : b ≠ B) (hc : BRowAt W b t l) : BRowAt W' b t l := h.same b _ hb hc rfl

/-- The bytes of some strings, one after the other. -/
def flat (L : List ByteArray) : List UInt8 := L.flatMap fun s => s.data.toList
/-- A block. -/
abbrev Blk : Type := { b : List UInt8 // b.length = 64 }
/-- c bytes of p have been taken: the blocks pre were yielded, u bytes lie in the next one. -/
structure Upto (p : List UInt8) (c : Nat) (pre : List Blk) (u : Nat) (bl : List UInt8) : Prop where
  count : c = 64 * pre.length + u
  small : u < 64
  size : bl.length = 64
  head : bl.take u = (p.drop (64 * pre.length)).take u
  blocks : pre.map (·.1) = (List.range pre.length).map (Sha.blk p)
theorem Upto.part {p : List UInt8} {c : Nat} {pre : List Blk} {u : Nat} {bl r s : List UInt8} (h : Upto p c pre u bl) (hr : p.drop c = r ++ s) (hl : u + r.length < 64) :
    Upto p (c + r.length) pre (u + r.length) (bl.take u ++ r ++ bl.drop (u + r.length)) := by
  obtain ⟨h1, h2, h3, h4, h5⟩ := h
  refine ⟨by omega, hl, by simp; omega, ?_, h5⟩
  have e1 : (bl.take u ++ r).length = u + r.length := by simp; omega
  rw [List.take_append_of_le_length (by omega), List.take_of_length_le (by omega), h4, List.take_add, List.drop_drop, ← h1, hr, List.take_left']
  rfl
theorem Upto.full {p : List UInt8} {c : Nat} {pre : List Blk} {u : Nat} {bl r s : List UInt8} (h : Upto p c pre u bl) (hr : p.drop c = r ++ s) (hl : 64 ≤ u + r.length) :
    bl.take u ++ r.take (64 - u) ++ bl.drop (u + (64 - u)) = Sha.blk p pre.length := by
  obtain ⟨h1, h2, h3, h4, h5⟩ := h
  unfold Sha.blk
  rw [List.drop_of_length_le (by omega), List.append_nil, h4, show 64 = u + (64 - u) by omega, List.take_add, show u + (64 - u) = 64 by omega, List.drop_drop, ← h1, hr, List.take_append_of_le_length (by omega)]
theorem Upto.blk_length {p : List UInt8} {c : Nat} {pre : List Blk} {u : Nat} {bl r s : List UInt8} (h : Upto p c pre u bl) (hr : p.drop c = r ++ s) (hl : 64 ≤ u + r.length) : (Sha.blk p pre.length).length = 64 := by
  rw [← h.full hr hl]
  obtain ⟨h1, h2, h3, h4, h5⟩ := h
  simp; omega
theorem Upto.next {p : List UInt8} {c : Nat} {pre : List Blk} {u : Nat} {bl : List UInt8} (h : Upto p c pre u bl) (x : Blk) (hx : x.1 = Sha.blk p pre.length) : Upto p (c + (64 - u)) (pre ++ [x]) 0 x.1 := by
  obtain ⟨h1, h2, h3, h4, h5⟩ := h
  refine ⟨by simp; omega, by omega, x.2, by simp, ?_⟩
  rw [List.map_append, h5, List.length_append, List.length_singleton, List.range_succ, List.map_append, List.map_singleton, List.map_singleton, hx]

/-- 'copy(d, s)' of a string into a row of bytes. -/
theorem copy_text (W : World) (ty : TypeId) (b u dl dc : Nat) (s : ByteArray) (l : List UInt8) (t : TypeId) (hr : BRowAt W b t l) (hu : u + dl ≤ l.length) :
    (Builtin.copy_ #[41, 9] ty #[.slice (some ⟨b, u, none⟩) dl dc, .string s]).run Tryd.prog W =
      .ok (goInt (min s.size dl : Nat)) (W.setRow b (bytesV (l.take u ++ s.data.toList.take (min s.size dl) ++ l.drop (u + min s.size dl))).toArray) := by
  have hsz : s.data.toList.length = s.size := by simp
  have hst := run_storeCells_at Tryd.prog b u t (bytesV (s.data.toList.take (min s.size dl))) 0 (bytesV l).toArray W hr (by rw [bytesV_length, List.length_take, List.size_toArray, bytesV_length, hsz]; omega) (fun v hv => by
    unfold bytesV at hv; obtain ⟨x, _, rfl⟩ := List.mem_map.1 hv; rfl)
  obtain ⟨i0, hi, hz0, hz1, hz2⟩ := info_parts info_u8
  have hcs : List.take (min s.size dl) (List.map (fun b : UInt8 => Value.int IntKind.u8 (b.toNat : Int)) s.data.toList) = bytesV (s.data.toList.take (min s.size dl)) := by
    rw [← List.map_take]; unfold bytesV; congr 1; funext x; rw [wv_bw]
  rw [bytesV_length, List.length_take, hsz] at hst
  simp only [Nat.add_zero] at hst
  simp [Builtin.copy_, run_underlying Tryd.underlying41, Builtin.lenOf, Builtin.firstCells, sizeOf, typeInfo, hi]
  rw [show s.size.min dl = min s.size dl from rfl, hcs, hst]
  have hb : bytesV (List.take u l ++ (List.take (min s.size dl) s.data.toList ++ List.drop (u + min s.size dl) l)) = List.take u (bytesV l) ++ bytesV (List.take (min s.size dl) s.data.toList) ++ List.drop (u + min (min s.size dl) s.size) (bytesV l) := by
    rw [show min (min s.size dl) s.size = min s.size dl by omega]
    unfold bytesV
    rw [List.map_append, List.map_append, List.map_take, List.map_drop, List.append_assoc]
  rw [hb]
  rfl

/-- A slice of strings none of whose strings lies in block B. -/
def StrOff (B : Nat) (w : World) (a : Option Addr) (c : Nat) (L : List ByteArray) : Prop :=
  L.length ≤ c ∧ c ≤ maxLen ∧ ∀ i (h : i < L.length), ∃ b off : Nat, a = some ⟨b, off, none⟩ ∧ b ≠ B ∧ w.cell? ⟨b, off + i, none⟩ = some (.string L[i])
theorem StrOff.keeps {B : Nat} {W W' : World} {a : Option Addr} {c : Nat} {L : List ByteArray} (h : StrOff B W a c L) (hk : KeepsCells B W W') : StrOff B W' a c L :=
  ⟨h.1, h.2.1, fun i hi => by obtain ⟨b, off, e, e1, e2⟩ := h.2.2 i hi; exact ⟨b, off, e, e1, hk.cell e1 e2⟩⟩

theorem StrOff.row {B g : Nat} {W : World} {a : Option Addr} {c : Nat} {L : List ByteArray} (h : StrOff B W a c L) (hg : ∀ b off, a = some ⟨b, off, none⟩ → 0 < L.length → b < g) (cs : Array Value) : StrOff B (W.setRow g cs) a c L :=
  ⟨h.1, h.2.1, fun i hi => by
    obtain ⟨b, off, e, e1, e2⟩ := h.2.2 i hi
    have hlt := hg b off e (by omega)
    refine ⟨b, off, e, e1, ?_⟩
    exact ((below_setRow (Below.refl g W) (Nat.le_refl _) cs).cell (p := ⟨b, off + i, none⟩) hlt).trans e2⟩
theorem grownBy_setRow (W : World) (g : Nat) (cs : Array Value) : W.grownBy (W.setRow g cs) (some g) :=
  ⟨rfl, rfl, rfl, by simp, fun k _ hk => by
    unfold World.setRow
    rw [Array.getElem?_modify, if_neg (fun e => hk (by rw [e]))]⟩
theorem flat_drop (L : List ByteArray) (k : Nat) (h : k < L.length) : (flat L).drop (flat (L.take k)).length = L[k].data.toList ++ flat (L.drop (k + 1)) := by
  have e : flat L = flat (L.take k) ++ (L[k].data.toList ++ flat (L.drop (k + 1))) := by
    have h1 : flat (L.drop k) = L[k].data.toList ++ flat (L.drop (k + 1)) := by
      rw [List.drop_eq_getElem_cons h]; unfold flat; rw [List.flatMap_cons]
    rw [← h1]
    unfold flat
    rw [← List.flatMap_append, List.take_append_drop]
  rw [e, List.drop_left']
  rfl
theorem flat_take (L : List ByteArray) (k : Nat) (h : k < L.length) : (flat (L.take (k + 1))).length = (flat (L.take k)).length + L[k].size := by
  unfold flat
  rw [List.take_succ_eq_append_getElem h, List.flatMap_append, List.length_append]
  simp
/-- A string's length, of a value. -/
def strSize : Value → Nat
  | .string s => s.size
  | _ => 0

attribute [local go_sem] Oper.semAt_some Exit.noGoto

theorem slice_block (W : World) (B u : Nat) (hu : u < 64) :
    (Instr.sliceAt 62 (.pointer (some ⟨B, 0, none⟩)) (some (.int .i64 (u : Int))) none none).run Tryd.prog W = .ok (.slice (some ⟨B, u, none⟩) (64 - u) (64 - u)) W := by
  have hl : Tryd.prog.arrayLen 62 = 64 := by kernel_rfl
  have he : Tryd.prog.elem 62 = 5 := by kernel_rfl
  have hu' : Tryd.prog.underlying 62 = some (.array (Tryd.prog.arrayLen 62) (Tryd.prog.elem 62)) := by kernel_rfl
  obtain ⟨i0, hi, hz0, hz1, hz2⟩ := info_parts info_u8
  rw [run_sliceAt_array_l W 62 _ hu' .i64 (u : Int) (by omega) (by rw [hl]; omega), he, hl]
  have hadd : (⟨B, 0, none⟩ : Addr).add u = ⟨B, u, none⟩ := by cases u <;> simp [Addr.add]
  simp [sizeOf, typeInfo, hi, hz1, slicedAt, hadd, Result.andThen]
  omega

/-- A block's beginning: 64 zero bytes. -/
def zero64 : List UInt8 := List.replicate 64 0
theorem zero_bytes64 (W : World) : (zeroValue 62).run Tryd.prog W = .ok (.agg (bytesV zero64).toArray) W := by kernel_rfl

set_option maxRecDepth 100000 in
set_option maxHeartbeats 2000000 in
theorem blocks1_in (F : Fence) (n : Nat) (hF : F.fn 53) (hro : F.round = none) (hn : 1 ≤ n) (l Bx Bn : Nat) (a : Option Addr) (c : Nat) (L : List ByteArray) (p : List UInt8) (hp : p = flat L) (hpl : p.length < 1000000) (hp64 : p.length % 64 = 0) (hLs : ∀ x ∈ L, x.size ≤ 1000000) (J : List Blk → World → Prop)
    (W : World) (hJ : Firm W.heap.size J)
    (hY : ∀ pre x W1, J pre W1 → pre.length < p.length / 64 → YieldAt F (n - 1) Tryd.prog l #[.agg (bytesV x.1).toArray] W1 fun e W' => e = .returned (.bool true) ∧ J (pre ++ [x]) W' ∧ KeepsCells Bx W1 W')
    (hBx : Bx < W.heap.size) (hBn : W.cell? ⟨Bn, 0, none⟩ = some (.slice a L.length c)) (hA : StrOff Bx W a c L) (h0 : J [] W) :
    CallsIn F n Tryd.prog 53 #[.func (.yield l) #[] #[], .pointer (some ⟨Bn, 0, none⟩)] W fun e W' => (∃ v, e = .returned v) ∧
      ∃ xs : List Blk, xs.map (·.1) = (List.range (p.length / 64)).map (Sha.blk p) ∧ J xs W' := by
  refine callsIn_of_wp Tryd.func53 rfl hF ?_ hro
  simp only [Tryd.ntmps53, List.size_toArray, List.length_cons, List.length_nil, Nat.reduceAdd, Nat.reduceSub, Array.replicate_succ, Array.replicate_zero, List.push_toArray, List.append_toArray, List.nil_append, List.cons_append]
  have hz := zero_bytes64
  refine wpIn_scope_straight ?_
  gi_wp2
  refine wpIn_label ?_
  obtain ⟨W1, hW1⟩ : ∃ V, V = W.alloc (.cells (bytesV zero64).toArray 62) := ⟨_, rfl⟩
  rw [← hW1]
  have hB1 : Below W.heap.size W W1 := by rw [hW1]; exact (Below.refl _ _).alloc (Nat.le_refl _) _
  have hc1 : W1.cell? ⟨Bn, 0, none⟩ = some (.slice a L.length c) := (hB1.cell (p := ⟨Bn, 0, none⟩) (block_lt_of_cell hBn)).trans hBn
  have hr1 : BRowAt W1 W.heap.size 62 zero64 := by unfold BRowAt; rw [hW1]; exact heap_alloc_new _ _
  have hA1 : StrOff Bx W1 a c L := ⟨hA.1, hA.2.1, fun i hi => by
    obtain ⟨b, off, e, e1, e2⟩ := hA.2.2 i hi
    exact ⟨b, off, e, e1, (hB1.cell (p := ⟨b, off + i, none⟩) (block_lt_of_cell e2)).trans e2⟩⟩
  have hj1 : J [] W1 := hJ _ _ _ none h0 (by rw [hW1]; exact World.grownBy_alloc W _ none) (fun r e => by cases e)
  have hs1 : W.heap.size < W1.heap.size := by rw [hW1]; simp
  have hab : ∀ b off, a = some ⟨b, off, none⟩ → 0 < L.length → b < W.heap.size := fun b off e h0 => by
    obtain ⟨b', off', e', _, e2⟩ := hA.2.2 0 h0
    rw [e] at e'; cases e'
    exact block_lt_of_cell e2
  have HAB := Lib.hid hab
  have hlc := hA.1
  have hcm := hA.2.1
  unfold maxLen at hcm
  have hll : (flat L).length = p.length := by rw [hp]
  have HLL := Lib.hid hll
  have HP := Lib.hid hp
  have HP64 := Lib.hid hp64
  clear hW1 hB1 hBn hA h0 hz hll hp hp64 hab
  gi_wp2
  gi_loopw [4, 10] (fun u i wr => ∃ (k cc : Nat) (pre : List Blk) (uu : Nat) (bl : List UInt8), i = .int .i64 k ∧ u = .int .i64 uu ∧ k ≤ L.length ∧ cc = (flat (L.take k)).length ∧ Upto p cc pre uu bl ∧ J pre wr ∧ BRowAt wr W.heap.size 62 bl ∧ StrOff Bx wr a c L)
    (fun _ i _ => L.length - (intOf i).toNat)
  case atStart => exact ⟨0, 0, [], 0, zero64, rfl, rfl, by omega, rfl, ⟨rfl, by omega, rfl, rfl, rfl⟩, hj1, hr1, hA1⟩
  case round =>
    clear hj1 hr1 hA1 hc1
    obtain ⟨k, cc, pre, uu, bl, rfl, rfl, hk, hcc, hU, hj, hr, hA⟩ := hrel
    by_cases hkL : k < L.length
    · obtain ⟨b, off, rfl, hbx, hcell⟩ := hA.2.2 k hkL
      have hsz := hLs _ (List.getElem_mem hkL)
      have hki : (k : Int) < (L.length : Int) := by omega
      have hd0 : p.drop cc = L[k].data.toList ++ flat (L.drop (k + 1)) := by
        rw [HP.out, hcc]
        exact flat_drop L k hkL
      have hc1 : (flat (L.take (k + 1))).length = cc + L[k].size := by rw [hcc]; exact flat_take L k hkL
      have hA' := hA
      generalize L[k] = r0 at *
      gi_wp2
      obtain ⟨wo, hwo⟩ : ∃ wo, wo = wr := ⟨_, rfl⟩
      rw [← hwo] at hj hr hA' ⊢
      clear hA hwo hcell
      gi_loopw [4, 6] (fun u rv wr => ∃ (c2 : Nat) (pre : List Blk) (uu : Nat) (bl : List UInt8) (r : ByteArray), rv = .string r ∧ u = .int .i64 uu ∧ c2 + r.size = (flat (L.take (k + 1))).length ∧ p.drop c2 = r.data.toList ++ flat (L.drop (k + 1)) ∧ Upto p c2 pre uu bl ∧ J pre wr ∧ BRowAt wr W.heap.size 62 bl ∧ StrOff Bx wr (some ⟨b, off, none⟩) c L)
        (fun _ rv _ => strSize rv)
      case atStart => exact ⟨cc, pre, uu, bl, r0, rfl, rfl, hc1.symm, hd0, hU, hj, hr, hA'⟩
      case round =>
        clear hj hr hA' hd0 hcc hU hc1 hsz
        obtain ⟨cc, pre, uu, bl, r, rfl, rfl, hcr, hdr, hU, hj, hr, hA⟩ := hrel
        have hus := hU.small
        have hus' : (uu : Int) < 64 := by omega
        have hrs : r.size < 1000000 := by
          have := congrArg List.length hdr
          rw [List.length_drop, List.length_append] at this
          have e : r.data.toList.length = r.size := by simp
          omega
        have hsl := fun V => slice_block V W.heap.size uu hus
        have HS := Lib.hid hsl
        have HC := Lib.hid (fun ty => copy_text wr ty W.heap.size uu (64 - uu) (64 - uu) r bl 62 hr (by rw [hU.size]; omega))
        by_cases hA64 : uu + r.size < 64
        · have hmin : min r.size (64 - uu) = r.size := by omega
          have e1 : r.data.toList.length = r.size := by simp
          have e2 : r.data.toList.take r.size = r.data.toList := List.take_of_length_le (by omega)
          have hcp := HC.out
          have hU' := hU.part (r := r.data.toList) hdr (by simpa using hA64)
          rw [hmin, e2] at hcp
          rw [e1] at hU'
          generalize bl.take uu ++ r.data.toList ++ bl.drop (uu + r.size) = bl' at *
          have hr' : BRowAt (wr.setRow W.heap.size (bytesV bl').toArray) W.heap.size 62 bl' := setRow_heap wr _ _ _ _ _ hr
          have hj' : J pre (wr.setRow W.heap.size (bytesV bl').toArray) := hJ _ _ _ _ hj (grownBy_setRow _ _ _) (fun r e => by cases e; exact Nat.le_refl _)
          have hA' := hA.row HAB.out (bytesV bl').toArray
          have HX := Lib.hid (And.intro (And.intro hU' hr') (And.intro hj' hA'))
          clear hU' hr' hj' hA' hr hj hA e1 e2 hmin hdr hU
          gi_wp2
          go_roundw
          case rel => exact ⟨k + 1, cc + r.size, pre, uu + r.size, bl', by go_num, by go_num, by omega, hcr, HX.out.1.1, HX.out.2.1, HX.out.1.2, HX.out.2.2⟩
          case measure => simp [intOf]; omega
        · have hmin : min r.size (64 - uu) = 64 - uu := by omega
          have e1 : r.data.toList.length = r.size := by simp
          have hcp := HC.out
          have hfull := hU.full (r := r.data.toList) hdr (by omega)
          have hbl := hU.blk_length (r := r.data.toList) hdr (by omega)
          obtain ⟨x, hx⟩ : ∃ x : Blk, x.1 = Sha.blk p pre.length := ⟨⟨_, hbl⟩, rfl⟩
          rw [hmin, hfull, ← hx] at hcp
          have hU' := hU.next x hx
          have hlen : pre.length < p.length / 64 := by
            have h1 := congrArg List.length hdr
            rw [List.length_drop, List.length_append, e1] at h1
            have h2 := hU.count
            omega
          have hr' : BRowAt (wr.setRow W.heap.size (bytesV x.1).toArray) W.heap.size 62 x.1 := setRow_heap wr _ _ _ _ _ hr
          have hj' : J pre (wr.setRow W.heap.size (bytesV x.1).toArray) := hJ _ _ _ _ hj (grownBy_setRow _ _ _) (fun r e => by cases e; exact Nat.le_refl _)
          have hA' := hA.row HAB.out (bytesV x.1).toArray
          have hdr' : p.drop (cc + (64 - uu)) = (r.extract (64 - uu) r.size).data.toList ++ flat (L.drop (k + 1)) := by
            rw [← List.drop_drop, hdr, List.drop_append_of_le_length (by omega)]
            congr 1
            rw [Lib.extract_data, List.take_of_length_le (by rw [List.length_drop, e1]; exact Nat.le_refl _)]
          obtain ⟨fn, tmps, assign, body, hy, hR⟩ := hY pre x _ hj' hlen
          have hui : (Tryd.prog.info? 62).map (·.size) = some (bytesV x.1).toArray.size := by
            rw [List.size_toArray, bytesV_length, x.2]; kernel_rfl
          have hq1 : uu + (64 - uu) ≤ 64 := by omega
          have hq2 : 64 ≤ uu + (64 - uu) := by omega
          have hq3 : 64 - uu ≤ r.size := by omega
          have hcr' : cc + (64 - uu) + (r.extract (64 - uu) r.size).size = (flat (L.take (k + 1))).length := by rw [ByteArray.size_extract]; omega
          have hms : (r.extract (64 - uu) r.size).size < r.size := by rw [ByteArray.size_extract]; omega
          have HX := Lib.hid (And.intro (And.intro hU' hr') (And.intro hdr' hA'))
          have HY := Lib.hid (And.intro hcr' (And.intro hui hms))
          clear hU' hr' hA' hr hj hA e1 hmin hdr hU hx hui hj' hdr' hfull hcr' hms hcr hA64 hbl HS HC hus'
          generalize 64 - uu = q at *
          have hdec : decide ((uu : Int) + (q : Int) < 64) = false := by simp; omega
          gi_wp2_with (refine wpListIn_load_row rfl 62 (.tmp 3) rfl W.heap.size rfl 62 _ (0, 0) _ HX.out.1.2 Tryd.underlying62 rfl HY.out.2.1 ?_)
          refine hR.mono ?_
          rintro e W3 ⟨rfl, hj3, hk3⟩
          have hr3 := hk3.row (b := W.heap.size) (by omega) HX.out.1.2
          have hA3 := HX.out.2.2.keeps hk3
          gi_wp2
          go_roundw
          case rel => exact ⟨cc + q, pre ++ [x], 0, x.1, r.extract q r.size, rfl, rfl, HY.out.1, HX.out.2.1, HX.out.1.1, hj3, hr3, hA3⟩
          case measure => exact HY.out.2.2
    · have hke : k = L.length := by omega
      have hcf : cc = p.length := by rw [hcc, hke, List.take_length]; exact HLL.out
      obtain ⟨u1, u2, u3, u4, u5⟩ := hU
      have hu0 : pre.length = p.length / 64 := by have := HP64.out; omega
      rw [hu0] at u5
      have HF := Lib.hid (And.intro u5 hj)
      have hkd : decide ((k : Int) < (L.length : Int)) = false := by simp; omega
      clear hke hcf u1 u3 u4 u5 hu0 hcc hj hr hA
      gi_wp2
      unfold Exit.noGoto
      go_end0
      exact ⟨⟨_, rfl⟩, pre, HF.out.1, HF.out.2⟩

theorem blocks_in (F : Fence) (n : Nat) (hF : F.fn 41) (hro : F.round = none) (a : Option Addr) (len c : Nat) (w : World) :
    CallsIn F n Tryd.prog 41 #[.slice a len c] w fun e w' => e = .returned (.func (.func 53) #[] #[.pointer (some ⟨w.heap.size, 0, none⟩)]) ∧ w' = w.alloc (.cells #[.slice a len c] 26) := by
  refine callsIn_of_wp Tryd.func41 rfl hF ?_ hro
  simp only [Tryd.ntmps41, List.size_toArray, List.length_cons, List.length_nil, Nat.reduceAdd, Nat.reduceSub, Array.replicate_succ, Array.replicate_zero, List.push_toArray, List.append_toArray, List.nil_append, List.cons_append]
  gi_wp2
  go_ret
  exact ⟨rfl, rfl⟩

theorem blocks_stops (F : Fence) (n : Nat) (hF : F.fn 53) (hro : F.round = none) (hn : 1 ≤ n) (Bx Bn : Nat) (a : Option Addr) (c : Nat) (L : List ByteArray) (hpl : (flat L).length < 1000000) (hp64 : (flat L).length % 64 = 0) (hLs : ∀ x ∈ L, x.size ≤ 1000000)
    (w : World) (hBx : Bx < w.heap.size) (hBn : w.cell? ⟨Bn, 0, none⟩ = some (.slice a L.length c)) (hA : StrOff Bx w a c L) :
    SeqState F n Tryd.prog 53 #[.pointer (some ⟨Bn, 0, none⟩)] (fun x : Blk => #[Value.agg (bytesV x.1).toArray]) (KeepsCells Bx) (fun xs => xs.map (·.1) = (List.range ((flat L).length / 64)).map (Sha.blk (flat L))) ((flat L).length / 64) w := fun l J W hW hJ hY h0 =>
  blocks1_in F n hF hro hn l Bx Bn a c L (flat L) rfl hpl hp64 hLs J W hJ hY (Nat.lt_of_lt_of_le hBx hW.size) ((hW.cell (p := ⟨Bn, 0, none⟩) (block_lt_of_cell hBn)).trans hBn)
    ⟨hA.1, hA.2.1, fun i hi => by
      obtain ⟨b, off, e, e1, e2⟩ := hA.2.2 i hi
      exact ⟨b, off, e, e1, (hW.cell (p := ⟨b, off + i, none⟩) (block_lt_of_cell e2)).trans e2⟩⟩ h0
end Go.Proofs.YtbaggjhjkignkaaDoor

