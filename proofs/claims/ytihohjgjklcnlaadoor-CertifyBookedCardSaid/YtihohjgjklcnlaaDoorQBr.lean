/-
  The contract of the package's blocks: it yields the whole blocks of its parts, one after the other.
  The contract of the package's sumOf: the digest of its parts, one after the other. Condition: the table of 64 words reads as the program's text lays it.
  The contracts of the package's Sum, Leaf, Node and Chain. Condition: the table of 64 words reads as the program's text lays it.
-/
import Derived.Test.YtihohjgjklcnlaaDoorQBp
import Derived.Test.YtihohjgjklcnlaaDoorQBq
import Derived.Lib.SlBuf
import Derived.Laws.CopyRow
namespace Go.Proofs.YtihohjgjklcnlaaDoor.Wb
open Go.RowKit Go.Shelf

/-- What a round keeps: all cells but those of block B. -/
structure KeepsCells (B : Nat) (W W' : World) : Prop where
  size : W.heap.size ≤ W'.heap.size
  same : ∀ (k : Nat) (o : Obj), k ≠ B → W.heap[k]? = some o → o.isCells = true → W'.heap[k]? = some o
theorem KeepsCells.trans {B : Nat} {X Y Z : World} (h : KeepsCells B X Y) (k : KeepsCells B Y Z) : KeepsCells B X Z := ⟨Nat.le_trans h.size k.size, fun i o hB hi ho => k.same i o hB (h.same i o hB hi ho) ho⟩
theorem KeepsCells.put {B l : Nat} {W : World} {o o' : Obj} (hl : W.heap[l]? = some o) (ho : o.isCells = false) : KeepsCells B W (W.putObj l o') :=
  ⟨by simp, fun k o2 _ hk hc => by
    by_cases e : k = l
    · subst e; rw [hl] at hk; cases hk; rw [ho] at hc; cases hc
    · exact (World.putObj_heap_other e).trans hk⟩
theorem KeepsCells.alloc (B : Nat) (W : World) (o : Obj) : KeepsCells B W (W.alloc o) :=
  ⟨by simp, fun k _ _ hk _ => (heap_alloc_old _ _ (Array.getElem?_eq_some_iff.1 hk).1).trans hk⟩
theorem KeepsCells.below {B n : Nat} {W W' : World} (h : Below n W W') (hn : W.heap.size ≤ n) : KeepsCells B W W' :=
  ⟨h.size, fun k _ _ hk _ => (h.block k (Nat.lt_of_lt_of_le (Array.getElem?_eq_some_iff.1 hk).1 hn)).trans hk⟩
theorem KeepsCells.set (B : Nat) (W : World) (cs : Array Value) : KeepsCells B W (W.setRow B cs) :=
  ⟨by simp, fun k _ hb hk _ => (setRow_other W B k cs hb).trans hk⟩
theorem row_of_cell {W : World} {b i : Nat} {v : Value} (h : W.cell? ⟨b, i, none⟩ = some v) : ∃ cs t fr, W.heap[b]? = some (.cells cs t fr) ∧ cs[i]? = some v := by
  unfold World.cell? at h
  cases hq : W.heap[b]? with
  | none => simp [hq] at h
  | some o => cases o <;> simp [hq] at h <;> exact ⟨_, _, _, rfl, h⟩
theorem KeepsCells.cell {B : Nat} {W W' : World} (h : KeepsCells B W W') {b i : Nat} {v : Value} (hb : b ≠ B) (hc : W.cell? ⟨b, i, none⟩ = some v) : W'.cell? ⟨b, i, none⟩ = some v := by
  obtain ⟨cs, t, fr, hr, hi⟩ := row_of_cell hc
  rw [cell_of_row W' b i cs t fr (h.same b _ hb hr rfl)]; exact hi
theorem KeepsCells.row {B : Nat} {W W' : World} (h : KeepsCells B W W') {b : Nat} {t : TypeId} {l : List UInt8} (hb : b ≠ B) (hc : BRowAt W b t l) : BRowAt W' b t l := h.same b _ hb hc rfl

/-- The bytes of some strings, one after the other. -/
def flat (L : List ByteArray) : List UInt8 := L.flatMap fun s => s.data.toList
/-- A block. -/
abbrev Blk : Type := { b : List UInt8 // b.length = 64 }
/-- c bytes of p have been taken: the blocks pre were yielded, u bytes lie in the next one. -/
structure Upto (p : List UInt8) (c : Nat) (pre : List Blk) (u : Nat) (bl : List UInt8) : Prop where
  count : c = 64 * pre.length + u
  small : u < 64
  size : bl.length = 64
  head : bl.take u = (p.drop (64 * pre.length)).take u
  blocks : pre.map (·.1) = (List.range pre.length).map (Sha.blk p)
theorem Upto.part {p : List UInt8} {c : Nat} {pre : List Blk} {u : Nat} {bl r s : List UInt8} (h : Upto p c pre u bl) (hr : p.drop c = r ++ s) (hl : u + r.length < 64) :
    Upto p (c + r.length) pre (u + r.length) (bl.take u ++ r ++ bl.drop (u + r.length)) := by
  obtain ⟨h1, h2, h3, h4, h5⟩ := h
  refine ⟨by omega, hl, by simp; omega, ?_, h5⟩
  have e1 : (bl.take u ++ r).length = u + r.length := by simp; omega
  rw [List.take_append_of_le_length (by omega), List.take_of_length_le (by omega), h4, List.take_add, List.drop_drop, ← h1, hr, List.take_left']
  rfl
theorem Upto.full {p : List UInt8} {c : Nat} {pre : List Blk} {u : Nat} {bl r s : List UInt8} (h : Upto p c pre u bl) (hr : p.drop c = r ++ s) (hl : 64 ≤ u + r.length) :
    bl.take u ++ r.take (64 - u) ++ bl.drop (u + (64 - u)) = Sha.blk p pre.length := by
  obtain ⟨h1, h2, h3, h4, h5⟩ := h
  unfold Sha.blk
  rw [List.drop_of_length_le (by omega), List.append_nil, h4, show 64 = u + (64 - u) by omega, List.take_add, show u + (64 - u) = 64 by omega, List.drop_drop, ← h1, hr, List.take_append_of_le_length (by omega)]
theorem Upto.blk_length {p : List UInt8} {c : Nat} {pre : List Blk} {u : Nat} {bl r s : List UInt8} (h : Upto p c pre u bl) (hr : p.drop c = r ++ s) (hl : 64 ≤ u + r.length) : (Sha.blk p pre.length).length = 64 := by
  rw [← h.full hr hl]
  obtain ⟨h1, h2, h3, h4, h5⟩ := h
  simp; omega
theorem Upto.next {p : List UInt8} {c : Nat} {pre : List Blk} {u : Nat} {bl : List UInt8} (h : Upto p c pre u bl) (x : Blk) (hx : x.1 = Sha.blk p pre.length) : Upto p (c + (64 - u)) (pre ++ [x]) 0 x.1 := by
  obtain ⟨h1, h2, h3, h4, h5⟩ := h
  refine ⟨by simp; omega, by omega, x.2, by simp, ?_⟩
  rw [List.map_append, h5, List.length_append, List.length_singleton, List.range_succ, List.map_append, List.map_singleton, List.map_singleton, hx]

set_option maxRecDepth 100000 in
/-- 'copy(d, s)' of a string into a row of bytes. -/
theorem copy_text (W : World) (ty : TypeId) (b u dl dc : Nat) (s : ByteArray) (l : List UInt8) (t : TypeId) (hr : BRowAt W b t l) (hu : u + dl ≤ l.length) :
    (Builtin.copy_ #[65, 9] ty #[.slice (some ⟨b, u, none⟩) dl dc, .string s]).run Tryd.prog W =
      .ok (goInt (min s.size dl : Nat)) (W.setRow b (bytesV (l.take u ++ s.data.toList.take (min s.size dl) ++ l.drop (u + min s.size dl))).toArray) := by
  have hsz : s.data.toList.length = s.size := by simp
  have hst := run_storeCells_at Tryd.prog b u t (bytesV (s.data.toList.take (min s.size dl))) 0 (bytesV l).toArray W hr (by rw [bytesV_length, List.length_take, List.size_toArray, bytesV_length, hsz]; omega) (fun v hv => by
    unfold bytesV at hv; obtain ⟨x, _, rfl⟩ := List.mem_map.1 hv; rfl)
  obtain ⟨i0, hi, hz0, hz1, hz2⟩ := info_parts info_u8
  have hcs : List.take (min s.size dl) (List.map (fun b : UInt8 => Value.int IntKind.u8 (b.toNat : Int)) s.data.toList) = bytesV (s.data.toList.take (min s.size dl)) := by
    rw [← List.map_take]; unfold bytesV; congr 1; funext x; rw [wv_bw]
  rw [bytesV_length, List.length_take, hsz] at hst
  simp only [Nat.add_zero] at hst
  simp [Builtin.copy_, run_underlying Tryd.underlying65, Builtin.lenOf, Builtin.firstCells, sizeOf, typeInfo, hi]
  rw [show s.size.min dl = min s.size dl from rfl, hcs, hst]
  have hb : bytesV (List.take u l ++ (List.take (min s.size dl) s.data.toList ++ List.drop (u + min s.size dl) l)) = List.take u (bytesV l) ++ bytesV (List.take (min s.size dl) s.data.toList) ++ List.drop (u + min (min s.size dl) s.size) (bytesV l) := by
    rw [show min (min s.size dl) s.size = min s.size dl by omega]
    unfold bytesV
    rw [List.map_append, List.map_append, List.map_take, List.map_drop, List.append_assoc]
  rw [hb]
  rfl

/-- A slice of strings none of whose strings lies in block B. -/
def StrOff (B : Nat) (w : World) (a : Option Addr) (c : Nat) (L : List ByteArray) : Prop :=
  L.length ≤ c ∧ c ≤ maxLen ∧ ∀ i (h : i < L.length), ∃ b off : Nat, a = some ⟨b, off, none⟩ ∧ b ≠ B ∧ w.cell? ⟨b, off + i, none⟩ = some (.string L[i])
theorem StrOff.keeps {B : Nat} {W W' : World} {a : Option Addr} {c : Nat} {L : List ByteArray} (h : StrOff B W a c L) (hk : KeepsCells B W W') : StrOff B W' a c L :=
  ⟨h.1, h.2.1, fun i hi => by obtain ⟨b, off, e, e1, e2⟩ := h.2.2 i hi; exact ⟨b, off, e, e1, hk.cell e1 e2⟩⟩

theorem StrOff.row {B g : Nat} {W : World} {a : Option Addr} {c : Nat} {L : List ByteArray} (h : StrOff B W a c L) (hg : ∀ b off, a = some ⟨b, off, none⟩ → 0 < L.length → b < g) (cs : Array Value) : StrOff B (W.setRow g cs) a c L :=
  ⟨h.1, h.2.1, fun i hi => by
    obtain ⟨b, off, e, e1, e2⟩ := h.2.2 i hi
    have hlt := hg b off e (by omega)
    refine ⟨b, off, e, e1, ?_⟩
    exact ((below_setRow (Below.refl g W) (Nat.le_refl _) cs).cell (p := ⟨b, off + i, none⟩) hlt).trans e2⟩
theorem grownBy_setRow (W : World) (g : Nat) (cs : Array Value) : W.grownBy (W.setRow g cs) (some g) :=
  ⟨rfl, rfl, rfl, by simp, fun k _ hk => by
    unfold World.setRow
    rw [Array.getElem?_modify, if_neg (fun e => hk (by rw [e]))]⟩
theorem flat_drop (L : List ByteArray) (k : Nat) (h : k < L.length) : (flat L).drop (flat (L.take k)).length = L[k].data.toList ++ flat (L.drop (k + 1)) := by
  have e : flat L = flat (L.take k) ++ (L[k].data.toList ++ flat (L.drop (k + 1))) := by
    have h1 : flat (L.drop k) = L[k].data.toList ++ flat (L.drop (k + 1)) := by
      rw [List.drop_eq_getElem_cons h]; unfold flat; rw [List.flatMap_cons]
    rw [← h1]
    unfold flat
    rw [← List.flatMap_append, List.take_append_drop]
  rw [e, List.drop_left']
  rfl
theorem flat_take (L : List ByteArray) (k : Nat) (h : k < L.length) : (flat (L.take (k + 1))).length = (flat (L.take k)).length + L[k].size := by
  unfold flat
  rw [List.take_succ_eq_append_getElem h, List.flatMap_append, List.length_append]
  simp
/-- A string's length, of a value. -/
def strSize : Value → Nat
  | .string s => s.size
  | _ => 0

attribute [local go_sem] Oper.semAt_some Exit.noGoto

theorem slice_block (W : World) (B u : Nat) (hu : u < 64) :
    (Instr.sliceAt 173 (.pointer (some ⟨B, 0, none⟩)) (some (.int .i64 (u : Int))) none none).run Tryd.prog W = .ok (.slice (some ⟨B, u, none⟩) (64 - u) (64 - u)) W := by
  have hl : Tryd.prog.arrayLen 173 = 64 := by kernel_rfl
  have he : Tryd.prog.elem 173 = 5 := by kernel_rfl
  have hu' : Tryd.prog.underlying 173 = some (.array (Tryd.prog.arrayLen 173) (Tryd.prog.elem 173)) := by kernel_rfl
  obtain ⟨i0, hi, hz0, hz1, hz2⟩ := info_parts info_u8
  rw [run_sliceAt_array_l W 173 _ hu' .i64 (u : Int) (by omega) (by rw [hl]; omega), he, hl]
  have hadd : (⟨B, 0, none⟩ : Addr).add u = ⟨B, u, none⟩ := by cases u <;> simp [Addr.add]
  simp [sizeOf, typeInfo, hi, hz1, slicedAt, hadd, Result.andThen]
  omega

/-- A block's beginning: 64 zero bytes. -/
def zero64 : List UInt8 := List.replicate 64 0
theorem zero_bytes64 (W : World) : (zeroValue 173).run Tryd.prog W = .ok (.agg (bytesV zero64).toArray) W := by kernel_rfl

set_option maxRecDepth 100000 in
set_option maxHeartbeats 2000000 in
theorem blocks1_in (F : Fence) (n : Nat) (hF : F.fn 106) (hro : F.round = none) (hn : 1 ≤ n) (l Bx Bn : Nat) (a : Option Addr) (c : Nat) (L : List ByteArray) (p : List UInt8) (hp : p = flat L) (hpl : p.length < 1000000) (hp64 : p.length % 64 = 0) (hLs : ∀ x ∈ L, x.size ≤ 1000000) (J : List Blk → World → Prop)
    (W : World) (hJ : Firm W.heap.size J)
    (hY : ∀ pre x W1, J pre W1 → pre.length < p.length / 64 → YieldAt F (n - 1) Tryd.prog l #[.agg (bytesV x.1).toArray] W1 fun e W' => e = .returned (.bool true) ∧ J (pre ++ [x]) W' ∧ KeepsCells Bx W1 W')
    (hBx : Bx < W.heap.size) (hBn : W.cell? ⟨Bn, 0, none⟩ = some (.slice a L.length c)) (hA : StrOff Bx W a c L) (h0 : J [] W) :
    CallsIn F n Tryd.prog 106 #[.func (.yield l) #[] #[], .pointer (some ⟨Bn, 0, none⟩)] W fun e W' => (∃ v, e = .returned v) ∧
      ∃ xs : List Blk, xs.map (·.1) = (List.range (p.length / 64)).map (Sha.blk p) ∧ J xs W' := by
  refine callsIn_of_wp Tryd.func106 rfl hF ?_ hro
  simp only [Tryd.ntmps106, List.size_toArray, List.length_cons, List.length_nil, Nat.reduceAdd, Nat.reduceSub, Array.replicate_succ, Array.replicate_zero, List.push_toArray, List.append_toArray, List.nil_append, List.cons_append]
  have hz := zero_bytes64
  refine wpIn_scope_straight ?_
  gi_wp2
  refine wpIn_label ?_
  obtain ⟨W1, hW1⟩ : ∃ V, V = W.alloc (.cells (bytesV zero64).toArray 173) := ⟨_, rfl⟩
  rw [← hW1]
  have hB1 : Below W.heap.size W W1 := by rw [hW1]; exact (Below.refl _ _).alloc (Nat.le_refl _) _
  have hc1 : W1.cell? ⟨Bn, 0, none⟩ = some (.slice a L.length c) := (hB1.cell (p := ⟨Bn, 0, none⟩) (block_lt_of_cell hBn)).trans hBn
  have hr1 : BRowAt W1 W.heap.size 173 zero64 := by unfold BRowAt; rw [hW1]; exact heap_alloc_new _ _
  have hA1 : StrOff Bx W1 a c L := ⟨hA.1, hA.2.1, fun i hi => by
    obtain ⟨b, off, e, e1, e2⟩ := hA.2.2 i hi
    exact ⟨b, off, e, e1, (hB1.cell (p := ⟨b, off + i, none⟩) (block_lt_of_cell e2)).trans e2⟩⟩
  have hj1 : J [] W1 := hJ _ _ _ none h0 (by rw [hW1]; exact World.grownBy_alloc W _ none) (fun r e => by cases e)
  have hs1 : W.heap.size < W1.heap.size := by rw [hW1]; simp
  have hab : ∀ b off, a = some ⟨b, off, none⟩ → 0 < L.length → b < W.heap.size := fun b off e h0 => by
    obtain ⟨b', off', e', _, e2⟩ := hA.2.2 0 h0
    rw [e] at e'; cases e'
    exact block_lt_of_cell e2
  have HAB := Lib.hid hab
  have hlc := hA.1
  have hcm := hA.2.1
  unfold maxLen at hcm
  have hll : (flat L).length = p.length := by rw [hp]
  have HLL := Lib.hid hll
  have HP := Lib.hid hp
  have HP64 := Lib.hid hp64
  clear hW1 hB1 hBn hA h0 hz hll hp hp64 hab
  gi_wp2
  gi_loopw [4, 10] (fun u i wr => ∃ (k cc : Nat) (pre : List Blk) (uu : Nat) (bl : List UInt8), i = .int .i64 k ∧ u = .int .i64 uu ∧ k ≤ L.length ∧ cc = (flat (L.take k)).length ∧ Upto p cc pre uu bl ∧ J pre wr ∧ BRowAt wr W.heap.size 173 bl ∧ StrOff Bx wr a c L)
    (fun _ i _ => L.length - (intOf i).toNat)
  case atStart => exact ⟨0, 0, [], 0, zero64, rfl, rfl, by omega, rfl, ⟨rfl, by omega, rfl, rfl, rfl⟩, hj1, hr1, hA1⟩
  case round =>
    clear hj1 hr1 hA1 hc1
    obtain ⟨k, cc, pre, uu, bl, rfl, rfl, hk, hcc, hU, hj, hr, hA⟩ := hrel
    by_cases hkL : k < L.length
    · obtain ⟨b, off, rfl, hbx, hcell⟩ := hA.2.2 k hkL
      have hsz := hLs _ (List.getElem_mem hkL)
      have hki : (k : Int) < (L.length : Int) := by omega
      have hd0 : p.drop cc = L[k].data.toList ++ flat (L.drop (k + 1)) := by
        rw [HP.out, hcc]
        exact flat_drop L k hkL
      have hc1 : (flat (L.take (k + 1))).length = cc + L[k].size := by rw [hcc]; exact flat_take L k hkL
      have hA' := hA
      generalize L[k] = r0 at *
      gi_wp2
      obtain ⟨wo, hwo⟩ : ∃ wo, wo = wr := ⟨_, rfl⟩
      rw [← hwo] at hj hr hA' ⊢
      clear hA hwo hcell
      gi_loopw [4, 6] (fun u rv wr => ∃ (c2 : Nat) (pre : List Blk) (uu : Nat) (bl : List UInt8) (r : ByteArray), rv = .string r ∧ u = .int .i64 uu ∧ c2 + r.size = (flat (L.take (k + 1))).length ∧ p.drop c2 = r.data.toList ++ flat (L.drop (k + 1)) ∧ Upto p c2 pre uu bl ∧ J pre wr ∧ BRowAt wr W.heap.size 173 bl ∧ StrOff Bx wr (some ⟨b, off, none⟩) c L)
        (fun _ rv _ => strSize rv)
      case atStart => exact ⟨cc, pre, uu, bl, r0, rfl, rfl, hc1.symm, hd0, hU, hj, hr, hA'⟩
      case round =>
        clear hj hr hA' hd0 hcc hU hc1 hsz
        obtain ⟨cc, pre, uu, bl, r, rfl, rfl, hcr, hdr, hU, hj, hr, hA⟩ := hrel
        have hus := hU.small
        have hus' : (uu : Int) < 64 := by omega
        have hrs : r.size < 1000000 := by
          have := congrArg List.length hdr
          rw [List.length_drop, List.length_append] at this
          have e : r.data.toList.length = r.size := by simp
          omega
        have hsl := fun V => slice_block V W.heap.size uu hus
        have HS := Lib.hid hsl
        have HC := Lib.hid (fun ty => copy_text wr ty W.heap.size uu (64 - uu) (64 - uu) r bl 173 hr (by rw [hU.size]; omega))
        by_cases hA64 : uu + r.size < 64
        · have hmin : min r.size (64 - uu) = r.size := by omega
          have e1 : r.data.toList.length = r.size := by simp
          have e2 : r.data.toList.take r.size = r.data.toList := List.take_of_length_le (by omega)
          have hcp := HC.out
          have hU' := hU.part (r := r.data.toList) hdr (by simpa using hA64)
          rw [hmin, e2] at hcp
          rw [e1] at hU'
          generalize bl.take uu ++ r.data.toList ++ bl.drop (uu + r.size) = bl' at *
          have hr' : BRowAt (wr.setRow W.heap.size (bytesV bl').toArray) W.heap.size 173 bl' := setRow_heap wr _ _ _ _ _ hr
          have hj' : J pre (wr.setRow W.heap.size (bytesV bl').toArray) := hJ _ _ _ _ hj (grownBy_setRow _ _ _) (fun r e => by cases e; exact Nat.le_refl _)
          have hA' := hA.row HAB.out (bytesV bl').toArray
          have HX := Lib.hid (And.intro (And.intro hU' hr') (And.intro hj' hA'))
          clear hU' hr' hj' hA' hr hj hA e1 e2 hmin hdr hU
          gi_wp2
          go_roundw
          case rel => exact ⟨k + 1, cc + r.size, pre, uu + r.size, bl', by go_num, by go_num, by omega, hcr, HX.out.1.1, HX.out.2.1, HX.out.1.2, HX.out.2.2⟩
          case measure => simp [intOf]; omega
        · have hmin : min r.size (64 - uu) = 64 - uu := by omega
          have e1 : r.data.toList.length = r.size := by simp
          have hcp := HC.out
          have hfull := hU.full (r := r.data.toList) hdr (by omega)
          have hbl := hU.blk_length (r := r.data.toList) hdr (by omega)
          obtain ⟨x, hx⟩ : ∃ x : Blk, x.1 = Sha.blk p pre.length := ⟨⟨_, hbl⟩, rfl⟩
          rw [hmin, hfull, ← hx] at hcp
          have hU' := hU.next x hx
          have hlen : pre.length < p.length / 64 := by
            have h1 := congrArg List.length hdr
            rw [List.length_drop, List.length_append, e1] at h1
            have h2 := hU.count
            omega
          have hr' : BRowAt (wr.setRow W.heap.size (bytesV x.1).toArray) W.heap.size 173 x.1 := setRow_heap wr _ _ _ _ _ hr
          have hj' : J pre (wr.setRow W.heap.size (bytesV x.1).toArray) := hJ _ _ _ _ hj (grownBy_setRow _ _ _) (fun r e => by cases e; exact Nat.le_refl _)
          have hA' := hA.row HAB.out (bytesV x.1).toArray
          have hdr' : p.drop (cc + (64 - uu)) = (r.extract (64 - uu) r.size).data.toList ++ flat (L.drop (k + 1)) := by
            rw [← List.drop_drop, hdr, List.drop_append_of_le_length (by omega)]
            congr 1
            rw [Lib.extract_data, List.take_of_length_le (by rw [List.length_drop, e1]; exact Nat.le_refl _)]
          obtain ⟨fn, tmps, assign, body, hy, hR⟩ := hY pre x _ hj' hlen
          have hui : (Tryd.prog.info? 173).map (·.size) = some (bytesV x.1).toArray.size := by
            rw [List.size_toArray, bytesV_length, x.2]; kernel_rfl
          have hq1 : uu + (64 - uu) ≤ 64 := by omega
          have hq2 : 64 ≤ uu + (64 - uu) := by omega
          have hq3 : 64 - uu ≤ r.size := by omega
          have hcr' : cc + (64 - uu) + (r.extract (64 - uu) r.size).size = (flat (L.take (k + 1))).length := by rw [ByteArray.size_extract]; omega
          have hms : (r.extract (64 - uu) r.size).size < r.size := by rw [ByteArray.size_extract]; omega
          have HX := Lib.hid (And.intro (And.intro hU' hr') (And.intro hdr' hA'))
          have HY := Lib.hid (And.intro hcr' (And.intro hui hms))
          clear hU' hr' hA' hr hj hA e1 hmin hdr hU hx hui hj' hdr' hfull hcr' hms hcr hA64 hbl HS HC hus'
          generalize 64 - uu = q at *
          have hdec : decide ((uu : Int) + (q : Int) < 64) = false := by simp; omega
          gi_wp2_with (refine wpListIn_load_row rfl 173 (.tmp 3) rfl W.heap.size rfl 173 _ (0, 0) _ HX.out.1.2 Tryd.underlying173 rfl HY.out.2.1 ?_)
          refine hR.mono ?_
          rintro e W3 ⟨rfl, hj3, hk3⟩
          have hr3 := hk3.row (b := W.heap.size) (by omega) HX.out.1.2
          have hA3 := HX.out.2.2.keeps hk3
          gi_wp2
          go_roundw
          case rel => exact ⟨cc + q, pre ++ [x], 0, x.1, r.extract q r.size, rfl, rfl, HY.out.1, HX.out.2.1, HX.out.1.1, hj3, hr3, hA3⟩
          case measure => exact HY.out.2.2
    · have hke : k = L.length := by omega
      have hcf : cc = p.length := by rw [hcc, hke, List.take_length]; exact HLL.out
      obtain ⟨u1, u2, u3, u4, u5⟩ := hU
      have hu0 : pre.length = p.length / 64 := by have := HP64.out; omega
      rw [hu0] at u5
      have HF := Lib.hid (And.intro u5 hj)
      have hkd : decide ((k : Int) < (L.length : Int)) = false := by simp; omega
      clear hke hcf u1 u3 u4 u5 hu0 hcc hj hr hA
      gi_wp2
      unfold Exit.noGoto
      go_end0
      exact ⟨⟨_, rfl⟩, pre, HF.out.1, HF.out.2⟩

theorem blocks_in (F : Fence) (n : Nat) (hF : F.fn 95) (hro : F.round = none) (a : Option Addr) (len c : Nat) (w : World) :
    CallsIn F n Tryd.prog 95 #[.slice a len c] w fun e w' => e = .returned (.func (.func 106) #[] #[.pointer (some ⟨w.heap.size, 0, none⟩)]) ∧ w' = w.alloc (.cells #[.slice a len c] 166) := by
  refine callsIn_of_wp Tryd.func95 rfl hF ?_ hro
  simp only [Tryd.ntmps95, List.size_toArray, List.length_cons, List.length_nil, Nat.reduceAdd, Nat.reduceSub, Array.replicate_succ, Array.replicate_zero, List.push_toArray, List.append_toArray, List.nil_append, List.cons_append]
  gi_wp2
  go_ret
  exact ⟨rfl, rfl⟩

theorem blocks_stops (F : Fence) (n : Nat) (hF : F.fn 106) (hro : F.round = none) (hn : 1 ≤ n) (Bx Bn : Nat) (a : Option Addr) (c : Nat) (L : List ByteArray) (hpl : (flat L).length < 1000000) (hp64 : (flat L).length % 64 = 0) (hLs : ∀ x ∈ L, x.size ≤ 1000000)
    (w : World) (hBx : Bx < w.heap.size) (hBn : w.cell? ⟨Bn, 0, none⟩ = some (.slice a L.length c)) (hA : StrOff Bx w a c L) :
    SeqState F n Tryd.prog 106 #[.pointer (some ⟨Bn, 0, none⟩)] (fun x : Blk => #[Value.agg (bytesV x.1).toArray]) (KeepsCells Bx) (fun xs => xs.map (·.1) = (List.range ((flat L).length / 64)).map (Sha.blk (flat L))) ((flat L).length / 64) w := fun l J W hW hJ hY h0 =>
  blocks1_in F n hF hro hn l Bx Bn a c L (flat L) rfl hpl hp64 hLs J W hJ hY (Nat.lt_of_lt_of_le hBx hW.size) ((hW.cell (p := ⟨Bn, 0, none⟩) (block_lt_of_cell hBn)).trans hBn)
    ⟨hA.1, hA.2.1, fun i hi => by
      obtain ⟨b, off, e, e1, e2⟩ := hA.2.2 i hi
      exact ⟨b, off, e, e1, (hW.cell (p := ⟨b, off + i, none⟩) (block_lt_of_cell e2)).trans e2⟩⟩ h0
end Go.Proofs.YtihohjgjklcnlaaDoor.Wb

namespace Go.Proofs.YtihohjgjklcnlaaDoor.Wb
open Go.RowKit Go.Shelf

attribute [local go_sem] Oper.semAt_some

/-- A string of these bytes. -/
def bstr (l : List UInt8) : Value := .string ⟨l.toArray⟩
/-- What sumOf answers. -/
def SumEnd (L : List ByteArray) (w : World) (e : Ending) (w' : World) : Prop := e = .returned (bstr (Sha.digest (flat L))) ∧ Below w.heap.size w w'

theorem flat_le (L : List ByteArray) (k : Nat) : (flat (L.take k)).length ≤ (flat L).length := by
  have : flat L = flat (L.take k) ++ flat (L.drop k) := by unfold flat; rw [← List.flatMap_append, List.take_append_drop]
  rw [this, List.length_append]; omega
theorem flat_mem {L : List ByteArray} {x : ByteArray} (h : x ∈ L) : x.size ≤ (flat L).length := by
  obtain ⟨k, hk, rfl⟩ := List.getElem_of_mem h
  have h1 := flat_take L k hk
  have h2 := flat_le L (k + 1)
  omega
/-- The words behind some blocks. -/
def stAfter : List Blk → Sha.St := fun pre => pre.foldl (fun s b => Sha.block b.1 s) Sha.init
theorem stAfter_snoc (pre : List Blk) (x : Blk) : stAfter (pre ++ [x]) = Sha.block x.1 (stAfter pre) := by unfold stAfter; rw [List.foldl_append]; rfl
theorem stAfter_all (p : List UInt8) : ∀ (m : Nat) (xs : List Blk), xs.map (·.1) = (List.range m).map (Sha.blk p) → stAfter xs = Sha.after p m
  | 0, xs, h => by
    cases xs with
    | nil => rfl
    | cons a b => simp at h
  | m + 1, xs, h => by
    rw [List.range_succ, List.map_append, List.map_singleton] at h
    have hne : xs ≠ [] := fun e => by rw [e] at h; simp at h
    obtain ⟨ys, y, rfl⟩ : ∃ ys y, xs = ys ++ [y] := ⟨xs.dropLast, xs.getLast hne, (List.dropLast_concat_getLast hne).symm⟩
    rw [List.map_append, List.map_singleton] at h
    obtain ⟨h1, h2⟩ := List.append_inj' h rfl
    rw [stAfter_snoc, stAfter_all p m ys h1, Sha.after]
    congr 1
    simpa using h2
theorem StrOwn.own_arg {w : World} {base g cap : Nat} {L : List ByteArray} (h : StrOwn w base (.slice (some ⟨g, 0, none⟩) L.length cap) L) : L.length ≤ cap ∧ cap ≤ maxLen ∧ True := by
  obtain ⟨a, c, e, h1, h2, _⟩ := h.arg
  cases e
  exact ⟨h1, h2, trivial⟩
/-- A word's last byte. -/
def ob (y : Wd) : UInt8 := UInt8.ofNat y.toNat
theorem out_byte (y : Wd) : wv y % 256 = wv (bw (ob y)) := by
  unfold ob
  rw [wv_bw, UInt8.toNat_ofNat']
  unfold wv
  omega
theorem row_text {W : World} {n₀ n : Nat} {v : Value} {l : List UInt8} (h : W.ownsRow n₀ 5 1 v n (bytesV l)) (hn : l.length = n) (hl : 0 < n) :
    ∃ g cap, v = .slice (some ⟨g, 0, none⟩) n cap ∧ (convert 65 9 (.slice (some ⟨g, 0, none⟩) n cap)).run Tryd.prog W = .ok (.string ⟨l.toArray⟩) W := by
  subst hn
  obtain ⟨g, cap, rfl⟩ : ∃ g cap, v = .slice (some ⟨g, 0, none⟩) l.length cap := by
    rcases h.2 with ⟨_, h0⟩ | ⟨g, cap, _, hv, _⟩
    · omega
    · exact ⟨g, cap, hv⟩
  refine ⟨g, cap, rfl, run_convert_bytes_back W 65 9 5 ⟨g, 0, none⟩ cap l Tryd.underlying65 Tryd.underlying5 Tryd.underlying9 ?_⟩
  intro j hj
  refine h.cells (g := g) rfl j _ ?_
  rw [bytesV_at l j hj, wv_bw, List.getD, List.getElem?_eq_getElem hj]
  rfl
/-- The parts and their padding are the padded string. -/
theorem pad_text (l : List UInt8) : (⟨(Sha.padB l.length).toArray⟩ : ByteArray).data.toList = Sha.padB l.length := rfl

set_option maxRecDepth 100000 in
set_option maxHeartbeats 4000000 in
theorem sumOf_any (ba oa ca : Nat) (L : List ByteArray) (w : World) (hA : StrA w (some ⟨ba, oa, none⟩) ca L) (hL : L.length < 100) (hL0 : 0 < L.length) (hs : (flat L).length < 900000) (ht : Tab w) :
    Calls Tryd.prog 77 #[.slice (some ⟨ba, oa, none⟩) L.length ca] w (SumEnd L w) := by
  have hLs : ∀ x ∈ L, x.size ≤ 900000 := fun x hx => by have := flat_mem hx; omega
  refine (callsIn_wide (n := 6)).1 ?_
  refine callsIn_of_wp_marks Tryd.func77 rfl trivial ?_ rfl
  simp only [Tryd.ntmps77, List.size_toArray, List.length_cons, List.length_nil, Nat.reduceAdd, Nat.reduceSub, Array.replicate_succ, Array.replicate_zero, List.push_toArray, List.append_toArray, List.nil_append, List.cons_append]
  gi_wp2
  gi_loop [3, 13] (fun t i => ∃ k : Nat, k ≤ L.length ∧ i = .int .i64 k ∧ t = .int .i64 (((flat (L.take k)).length : Nat) : Int)) (fun _ i => L.length - (intOf i).toNat)
  case atStart => exact ⟨0, by omega, rfl, rfl⟩
  case round =>
    obtain ⟨k, hk, rfl, rfl⟩ := hrel
    by_cases hkL : k < L.length
    · obtain ⟨b, off, e, l1, l2⟩ := hA.2.2 k hkL
      cases e
      have hki : (k : Int) < (L.length : Int) := by omega
      have hnx := flat_take L k hkL
      have hle := flat_le L (k + 1)
      have hsz : (flat (L.take k)).length + L[k].size < 1000000 := by omega
      have HN := Lib.hid hnx
      clear hnx
      generalize L[k] = x at *
      gi_wp2
      go_round
      case rel => exact ⟨k + 1, by omega, by go_num, by rw [HN.out]; go_num⟩
      case measure => simp [intOf]; omega
    · have hke : (flat (L.take k)).length = (flat L).length := by rw [List.take_of_length_le (by omega)]
      have hkd : decide ((k : Int) < (L.length : Int)) = false := by simp; omega
      rw [hke]
      have HA := Lib.hid hA
      have HT := Lib.hid ht
      clear hke hA ht
      gi_wp2
      refine ⟨trivial, ?_⟩
      refine (callsIn_wide.2 (padding_any (flat L).length _ (by omega))).mono ?_
      rintro e w1 ⟨rfl, hb1⟩
      have hpd := pad_text (flat L)
      obtain ⟨pd, hpe⟩ : ∃ x : ByteArray, x = ⟨(Sha.padB (flat L).length).toArray⟩ := ⟨_, rfl⟩
      rw [← hpe] at hpd ⊢
      have HPD := Lib.hid hpd
      have HB1 := Lib.hid hb1
      clear hpe hpd hb1
      gi_wp2
      refine ⟨trivial, ?_⟩
      have hsl : ∀ a b c d : Value, True := fun _ _ _ _ => trivial
      clear hsl
      obtain ⟨W2, hW2⟩ : ∃ V, V = (w1.alloc (.cells #[.string pd] 9)).alloc (.cells #[.slice (some ⟨ba, oa, none⟩) L.length ca, .slice (some ⟨w1.heap.size, 0, none⟩) 1 1] 166) := ⟨_, rfl⟩
      rw [← hW2]
      obtain ⟨w0, hw0⟩ : ∃ V, V = w.alloc (.cells (wordsV Sha.init.list).toArray 167) := ⟨_, rfl⟩
      have hb1 : Below w0.heap.size w0 w1 := by rw [hw0]; exact HB1.out
      have hb0 : Below w.heap.size w w0 := by rw [hw0]; exact (Below.refl _ _).alloc (Nat.le_refl _) _
      have hs0 : w0.heap.size = w.heap.size + 1 := by rw [hw0]; simp
      have hs1 := hb1.size
      have hb2 : Below w1.heap.size w1 W2 := by rw [hW2]; exact ((Below.refl _ _).alloc (Nat.le_refl _) _).alloc (by simp) _
      have hb02 : Below w0.heap.size w0 W2 := below_step hb1 hb2
      have hbw : Below w.heap.size w W2 := below_step hb0 hb02
      have hr0 : RowAt W2 w.heap.size 167 Sha.init.list := by
        unfold RowAt
        rw [hb02.block _ (by omega), hw0]
        exact heap_alloc_new _ _
      have hA2 : StrA W2 (some ⟨ba, oa, none⟩) ca L := HA.out.below hbw
      have hB2 : StrA W2 (some ⟨w1.heap.size, 0, none⟩) 1 [pd] := by
        refine ⟨by simp, by decide, fun i hi => ?_⟩
        obtain rfl : i = 0 := by simpa using hi
        refine ⟨_, _, rfl, by rw [hW2]; simp; omega, ?_⟩
        rw [cell_of_row W2 _ _ #[.string pd] 9 (0, 0) (by rw [hW2]; exact heap_alloc2_old _ _ _)]
        rfl
      have hc2 : W2.heap[w1.heap.size + 1]? = some (.cells #[.slice (some ⟨ba, oa, none⟩) L.length ca, .slice (some ⟨w1.heap.size, 0, none⟩) 1 1] 166 (0, 0)) := by rw [hW2]; exact heap_alloc2_new _ _ _
      have hs2 := hb2.size
      refine (callsIn_wide.2 (concat_any ba oa ca L w1.heap.size 0 1 [pd] (w1.heap.size + 1) 2 W2 hA2 hB2 (by omega) hL0 (by simp) (by simp)
        (by rw [cell_of_row W2 _ _ _ _ _ hc2]; rfl) (by rw [cell_of_row W2 _ _ _ _ _ hc2]; rfl))).mono ?_
      rintro e w3 ⟨⟨v, rfl, hown⟩, hb3⟩
      obtain ⟨g, cap, rfl, hg1, hg2, hcap, hcell⟩ := hown.open (by simp)
      have hs3 := hb3.size
      have hr3 : RowAt w3 w.heap.size 167 Sha.init.list := by unfold RowAt; rw [hb3.block _ (by omega)]; exact hr0
      have hbw3 : Below w.heap.size w w3 := below_step hbw hb3
      have HX := Lib.hid (And.intro (And.intro hr3 hbw3) (And.intro hown hcell))
      have hlow : w.heap.size + 1 ≤ w1.heap.size := by omega
      clear hW2 hw0 hb1 hb0 hs0 hb2 hb02 hbw hr0 hA2 hB2 hc2 hb3 hr3 hbw3 hown hcell
      gi_wp2_with (refine ⟨trivial, ?_⟩; gi_at_call 95; refine (blocks_in Fence.wide _ trivial rfl (some ⟨g, 0, none⟩) _ cap _).mono ?_; rintro e w' ⟨rfl, rfl⟩)
      obtain ⟨W4, hW4⟩ : ∃ V, V = w3.alloc (.cells #[.slice (some ⟨g, 0, none⟩) (L.length + 1) cap] 166) := ⟨_, rfl⟩
      rw [← hW4]
      have hb4 : Below w3.heap.size w3 W4 := by rw [hW4]; exact (Below.refl _ _).alloc (Nat.le_refl _) _
      have hs4 : W4.heap.size = w3.heap.size + 1 := by rw [hW4]; simp
      have hc4 : W4.cell? ⟨w3.heap.size, 0, none⟩ = some (.slice (some ⟨g, 0, none⟩) (L ++ [pd]).length cap) := by
        rw [cell_of_row W4 _ _ #[.slice (some ⟨g, 0, none⟩) (L.length + 1) cap] 166 (0, 0) (by rw [hW4]; exact heap_alloc_new _ _), List.length_append]; rfl
      have hA4 : StrOff w.heap.size W4 (some ⟨g, 0, none⟩) cap (L ++ [pd]) := by
        obtain ⟨q1, q2, q3⟩ := HX.out.2.1.own_arg
        refine ⟨q1, hcap, fun i hi => ?_⟩
        have := HX.out.2.2 i (.string (L ++ [pd])[i]) (by unfold strV; rw [List.getElem?_map, List.getElem?_eq_getElem hi]; rfl)
        have hadd : (⟨g, 0, none⟩ : Addr).add i = ⟨g, 0 + i, none⟩ := by cases i <;> simp [Addr.add]
        rw [hadd] at this
        exact ⟨g, 0, rfl, by omega, (hb4.cell (p := ⟨g, 0 + i, none⟩) hg2).trans this⟩
      have hfl : flat (L ++ [pd]) = Sha.pad (flat L) := by unfold flat Sha.pad; rw [List.flatMap_append]; show _ ++ (pd.data.toList ++ []) = _; rw [HPD.out, List.append_nil]; rfl
      have hpl : (flat (L ++ [pd])).length < 1000000 := by rw [hfl, Sha.pad_length]; unfold Sha.padZ; omega
      have hp64 : (flat (L ++ [pd])).length % 64 = 0 := by rw [hfl, Sha.pad_whole]; omega
      have hLs4 : ∀ x ∈ L ++ [pd], x.size ≤ 1000000 := fun x hx => by have := flat_mem hx; omega
      have hr4 : RowAt W4 w.heap.size 167 Sha.init.list := by unfold RowAt; rw [hb4.block _ (by omega)]; exact HX.out.1.1
      have hbw4 : Below w.heap.size w W4 := below_step HX.out.1.2 hb4
      refine wpIn_rangeFunc_state rfl (by omega) (gf := 106) (lb := #[.pointer (some ⟨w3.heap.size, 0, none⟩)]) rfl trivial (enters_of Tryd.func106 (by kernel_rfl) rfl)
        (blocks_stops Fence.wide 5 trivial rfl (by omega) w.heap.size w3.heap.size (some ⟨g, 0, none⟩) cap (L ++ [pd]) hpl hp64 hLs4 W4 (by omega) hc4 hA4) KeepsCells.trans (fun W l o o' _ h1 h2 _ => KeepsCells.put h1 h2) (Below.refl _ _) (fun _ => rfl)
        (fun pre W => RowAt W w.heap.size 167 (stAfter pre).list ∧ Below w.heap.size w W)
        (fun pre A B row hs hg hr => ⟨(hg.block _ (Array.getElem?_eq_some_iff.1 hs.1).1 (fun e => by have := hr _ e.symm; omega)).trans hs.1, hs.2.grown hg (by have := hs.2.size; omega) (fun k e => by have := hr k e; omega)⟩)
        ⟨hr4, hbw4⟩
        (fun x a' W => ∃ Bb : Nat, Bb ≠ w.heap.size ∧ BRowAt W Bb 173 x.1 ∧ a' = { tmps := #[.slice (some ⟨ba, oa, none⟩) L.length ca, undef, .string ⟨#[]⟩, .int .i64 ((flat L).length : Nat), undef, u5, .pointer (some ⟨w.heap.size, 0, none⟩), .pointer (some ⟨Bb, 0, none⟩), undef, undef, undef, .slice (some ⟨ba, oa, none⟩) L.length ca,
          .int .i64 (L.length : Nat), .int .i64 (k : Nat), .bool false, u15, u16, u17, u18, u19, u20, u21, .agg #[.int .u32 1779033703, .int .u32 3144134277, .int .u32 1013904242, .int .u32 2773480762, .int .u32 1359893119, .int .u32 2600822924, .int .u32 528734635, .int .u32 1541459225],
          .slice (some ⟨ba, oa, none⟩) L.length ca, .int .i64 ((flat L).length : Nat), .string pd, .slice (some ⟨w1.heap.size, 0, none⟩) 1 1, .slice (some ⟨w1.heap.size + 1, 0, none⟩) 2 2, .slice (some ⟨g, 0, none⟩) (L.length + 1) cap, .func (.func 106) #[] #[.pointer (some ⟨w3.heap.size, 0, none⟩)], .agg (bytesV x.1).toArray, undef, undef,
          undef, undef, undef, undef, undef, undef, undef, undef, undef, undef, undef, undef, undef, undef, undef, undef, undef, undef, undef, undef, undef, undef, undef, undef], defers := [] })
        (fun x a' u A B row hs hg hr => by
          obtain ⟨Bb, h1, h2, h3⟩ := hs
          refine ⟨Bb, h1, (hg.block _ (Array.getElem?_eq_some_iff.1 h2).1 (fun e => ?_)).trans h2, h3⟩
          obtain ⟨_, o, ho, hc⟩ := hr _ e.symm
          rw [show A.heap[Bb]? = _ from h2] at ho; cases ho; cases hc)
        ?assign ?body ?done
      case assign =>
        rintro l pre x W K ⟨hi1, hi2⟩ hK
        have hz := zero_bytes64
        have hui : (Tryd.prog.info? 173).map (·.size) = some (bytesV x.1).toArray.size := by
          rw [List.size_toArray, bytesV_length, x.2]; kernel_rfl
        have hold : (bytesV zero64).toArray.size = (bytesV x.1).toArray.size := by
          rw [List.size_toArray, bytesV_length, List.size_toArray, bytesV_length, x.2]; rfl
        have HU := Lib.hid (And.intro hui hold)
        clear hui hold
        gi_wp2_with (refine wpListIn_store_row rfl 173 (.tmp 7) (.tmp 30) rfl W.heap.size (bytesV x.1).toArray rfl rfl 173 _ (heap_alloc_new W _) HU.out.1 HU.out.2 (bytesV_one _) ?_)
        rw [World.setRow_alloc_new]
        exact hK _ _ ((KeepsOthers.alloc _ _).from _) (KeepsCells.alloc _ _ _) ⟨(heap_alloc_old _ _ (Array.getElem?_eq_some_iff.1 hi1).1).trans hi1, hi2.alloc hi2.size _⟩
          ⟨W.heap.size, by have := (Array.getElem?_eq_some_iff.1 hi1).1; omega, heap_alloc_new _ _, rfl⟩
      case body =>
        rintro l pre x a' W ⟨hi1, hi2⟩ ⟨Bb, hne, hbb, rfl⟩ hlen
        have hTW := HT.out.below hi2
        have hlt1 := (Array.getElem?_eq_some_iff.1 hi1).1
        have hlt2 := (Array.getElem?_eq_some_iff.1 hbb).1
        gi_wp2
        refine wpIn_region_any (by kernel_rfl) ?_
        change wpAnyIn _ _ _ _ _ _ _ _ _ W.drew
        refine wpAnyIn_ready (rs := [0, 1]) (by kernel_rfl) (by simp) ?_
        have hui8 : (Tryd.prog.info? 167).map (·.size) = some (wordsV (stAfter pre).list).toArray.size := by kernel_rfl
        have hui64 : (Tryd.prog.info? 173).map (·.size) = some (bytesV x.1).toArray.size := by
          rw [List.size_toArray, bytesV_length, x.2]; kernel_rfl
        have hui8' : (Tryd.prog.info? 167).map (·.size) = some (wordsV (stAfter (pre ++ [x])).list).toArray.size := by kernel_rfl
        have bV : ∀ V V2, Below W.drew.heap.size W.drew V → Below V.heap.size V V2 → Below W.heap.size W V2 := fun V V2 h1 h2 => below_step (w1 := V) ((Below.refl W.heap.size W).drew.trans h1) h2
        have tV : ∀ V, Below W.drew.heap.size W.drew V → Tab V := fun V h1 => hTW.below ((Below.refl W.heap.size W).drew.trans h1)
        have rV : ∀ V, Below W.heap.size W V → RowAt V w.heap.size 167 (stAfter pre).list := fun V h => (h.block _ hlt1).trans hi1
        have rV' : ∀ V, Below W.drew.heap.size W.drew V → RowAt V w.heap.size 167 (stAfter pre).list := fun V h => rV V ((Below.refl W.heap.size W).drew.trans h)
        have fin : ∀ V, Below W.heap.size W V → ownPostG W4.heap.size (KeepsCells w.heap.size) (fun pre W => RowAt W w.heap.size 167 (stAfter pre).list ∧ Below w.heap.size w W) (fun _ _ _ => False) (pre ++ [x]) W .normal ⟨#[], []⟩ (V.setRow w.heap.size (wordsV (stAfter (pre ++ [x])).list).toArray) := fun V h =>
          ⟨KeepsFrom.trans ⟨h.size, fun k o _ hk _ => (h.block k (Array.getElem?_eq_some_iff.1 hk).1).trans hk⟩ (KeepsFrom.of_grownBy (grownBy_setRow _ _ _) (fun j e => by cases e; omega)),
            (KeepsCells.below h (Nat.le_refl _)).trans (KeepsCells.set _ _ _), setRow_heap V _ _ _ _ _ (rV V h), below_setRow (hi2.trans (h.mono hi2.size)) (Nat.le_refl _) _⟩
        refine BigFrame.allReadyIn_want rfl rfl (fun K hK => ?_) (BigFrame.allReadyIn_want rfl rfl (fun K hK => ?_) AllReadyIn.nil)
        · refine opIn_load_row 167 (.tmp 6) rfl w.heap.size rfl 167 _ (0, 0) _ hi1 Tryd.underlying167 rfl hui8 (hK _ _ ?_)
          clear hK K
          refine wpAnyIn_ready (rs := [1]) (by kernel_rfl) (by simp) ?_
          refine BigFrame.allReadyIn_want rfl rfl (fun K hK => ?_) AllReadyIn.nil
          refine opIn_load_row 173 (.tmp 7) rfl Bb rfl 173 _ (0, 0) _ hbb Tryd.underlying173 rfl hui64 (hK _ _ ?_)
          clear hK K
          refine wpAnyIn_ready (rs := [2]) (by kernel_rfl) (by simp) ?_
          refine BigFrame.allReadyIn_want rfl rfl (fun K hK => ?_) AllReadyIn.nil
          go_simp
          refine ⟨trivial, (CallsIn.inRound l (callsIn_wide.2 (schedule_any x.1 x.2 W.drew))).mono ?_⟩
          rintro e V ⟨rfl, hV⟩
          refine hK _ _ ?_
          clear hK K
          refine wpAnyIn_ready (rs := [3]) (by kernel_rfl) (by simp) ?_
          refine BigFrame.allReadyIn_want rfl rfl (fun K hK => ?_) AllReadyIn.nil
          go_simp
          refine ⟨trivial, (CallsIn.inRound l (callsIn_wide.2 (mix_any (stAfter pre) (Sha.sched x.1) (Sha.sched_length _) V (tV V hV)))).mono ?_⟩
          rintro e V2 ⟨rfl, hV2⟩
          have hb2 := bV V V2 hV hV2
          refine hK _ _ ?_
          clear hK K
          refine wpAnyIn_ready (rs := [4]) (by kernel_rfl) (by simp) ?_
          refine BigFrame.allReadyIn_want rfl rfl (fun K hK => ?_) AllReadyIn.nil
          refine opIn_store_row 167 (.tmp 6) (.tmp 34) rfl w.heap.size (wordsV (stAfter (pre ++ [x])).list).toArray rfl (by rw [stAfter_snoc]; rfl) 167 _ (rV V2 hb2) hui8' rfl (wordsV_one _) (hK _ _ ?_)
          refine wpAnyIn_done (by kernel_rfl) ?_ _
          exact fin V2 hb2
        · refine opIn_load_row 173 (.tmp 7) rfl Bb rfl 173 _ (0, 0) _ hbb Tryd.underlying173 rfl hui64 (hK _ _ ?_)
          clear hK K
          refine wpAnyIn_ready (rs := [0, 2]) (by kernel_rfl) (by simp) ?_
          refine BigFrame.allReadyIn_want rfl rfl (fun K hK => ?_) (BigFrame.allReadyIn_want rfl rfl (fun K hK => ?_) AllReadyIn.nil)
          · refine opIn_load_row 167 (.tmp 6) rfl w.heap.size rfl 167 _ (0, 0) _ hi1 Tryd.underlying167 rfl hui8 (hK _ _ ?_)
            clear hK K
            refine wpAnyIn_ready (rs := [2]) (by kernel_rfl) (by simp) ?_
            refine BigFrame.allReadyIn_want rfl rfl (fun K hK => ?_) AllReadyIn.nil
            go_simp
            refine ⟨trivial, (CallsIn.inRound l (callsIn_wide.2 (schedule_any x.1 x.2 W.drew))).mono ?_⟩
            rintro e V ⟨rfl, hV⟩
            refine hK _ _ ?_
            clear hK K
            refine wpAnyIn_ready (rs := [3]) (by kernel_rfl) (by simp) ?_
            refine BigFrame.allReadyIn_want rfl rfl (fun K hK => ?_) AllReadyIn.nil
            go_simp
            refine ⟨trivial, (CallsIn.inRound l (callsIn_wide.2 (mix_any (stAfter pre) (Sha.sched x.1) (Sha.sched_length _) V (tV V hV)))).mono ?_⟩
            rintro e V2 ⟨rfl, hV2⟩
            have hb2 := bV V V2 hV hV2
            refine hK _ _ ?_
            clear hK K
            refine wpAnyIn_ready (rs := [4]) (by kernel_rfl) (by simp) ?_
            refine BigFrame.allReadyIn_want rfl rfl (fun K hK => ?_) AllReadyIn.nil
            refine opIn_store_row 167 (.tmp 6) (.tmp 34) rfl w.heap.size (wordsV (stAfter (pre ++ [x])).list).toArray rfl (by rw [stAfter_snoc]; rfl) 167 _ (rV V2 hb2) hui8' rfl (wordsV_one _) (hK _ _ ?_)
            refine wpAnyIn_done (by kernel_rfl) ?_ _
            exact fin V2 hb2
          · go_simp
            refine ⟨trivial, (CallsIn.inRound l (callsIn_wide.2 (schedule_any x.1 x.2 W.drew))).mono ?_⟩
            rintro e V ⟨rfl, hV⟩
            refine hK _ _ ?_
            clear hK K
            refine wpAnyIn_ready (rs := [0]) (by kernel_rfl) (by simp) ?_
            refine BigFrame.allReadyIn_want rfl rfl (fun K hK => ?_) AllReadyIn.nil
            refine opIn_load_row 167 (.tmp 6) rfl w.heap.size rfl 167 _ (0, 0) _ (rV' V hV) Tryd.underlying167 rfl hui8 (hK _ _ ?_)
            clear hK K
            refine wpAnyIn_ready (rs := [3]) (by kernel_rfl) (by simp) ?_
            refine BigFrame.allReadyIn_want rfl rfl (fun K hK => ?_) AllReadyIn.nil
            go_simp
            refine ⟨trivial, (CallsIn.inRound l (callsIn_wide.2 (mix_any (stAfter pre) (Sha.sched x.1) (Sha.sched_length _) V (tV V hV)))).mono ?_⟩
            rintro e V2 ⟨rfl, hV2⟩
            have hb2 := bV V V2 hV hV2
            refine hK _ _ ?_
            clear hK K
            refine wpAnyIn_ready (rs := [4]) (by kernel_rfl) (by simp) ?_
            refine BigFrame.allReadyIn_want rfl rfl (fun K hK => ?_) AllReadyIn.nil
            refine opIn_store_row 167 (.tmp 6) (.tmp 34) rfl w.heap.size (wordsV (stAfter (pre ++ [x])).list).toArray rfl (by rw [stAfter_snoc]; rfl) 167 _ (rV V2 hb2) hui8' rfl (wordsV_one _) (hK _ _ ?_)
            refine wpAnyIn_done (by kernel_rfl) ?_ _
            exact fin V2 hb2
      case done =>
        rintro D xs W hD hS ⟨hi1, hi2⟩ hK
        have hdg : Sha.outB (stAfter xs) = Sha.digest (flat L) := by
          rw [stAfter_all _ _ xs hS, hfl]; rfl
        have HDG := Lib.hid hdg
        have hDw : w.heap.size < D := by omega
        clear hdg hS hfl hpl hp64 hLs4 hr4 hbw4 hA4 hc4 hW4 hb4
        generalize stAfter xs = s at *
        obtain ⟨i0, hi, hz0, hz1, hz2⟩ := info_parts info_u8
        have hui8 : (Tryd.prog.info? 167).map (·.size) = some (wordsV s.list).toArray.size := by kernel_rfl
        have hmk : ∀ V, (Instr.makeSlice 65 (.int .i64 0) (.int .i64 32)).run Tryd.prog V = .ok (.slice (some ⟨V.heap.size, 0, none⟩) 0 32) (V.alloc (.cells (bytesV (List.replicate 32 0)).toArray 5)) := by
          intro V
          have := run_make (P := Tryd.prog) V 65 5 i0 (.int .u8 0) Tryd.underlying65 hi hz0 .i64 .i64 0 32 (by omega) (by omega) (by rw [hz2]; omega) (by omega)
          rw [this, hz1, show (32 : Int).toNat * 1 = 32 by rfl, made_bytes]; rfl
        have hown : (W.alloc (.cells (bytesV (List.replicate 32 0)).toArray 5)).ownsRow w.heap.size 5 1 (.slice (some ⟨W.heap.size, 0, none⟩) 0 32) 0 [] :=
          World.ownsRow_made W _ 32 hi2.size (by decide) (by rw [List.size_toArray, bytesV_length, List.length_replicate])
        have hi1' : RowAt (W.alloc (.cells (bytesV (List.replicate 32 0)).toArray 5)) w.heap.size 167 s.list := (heap_alloc_old _ _ (Array.getElem?_eq_some_iff.1 hi1).1).trans hi1
        have hK' : (W.alloc (.cells (bytesV (List.replicate 32 0)).toArray 5)).heap[D]? = some (.deferred (some [])) := (heap_alloc_old _ _ (Array.getElem?_eq_some_iff.1 hK).1).trans hK
        have hi2' : Below w.heap.size w (W.alloc (.cells (bytesV (List.replicate 32 0)).toArray 5)) := hi2.alloc hi2.size _
        have HB := Lib.hid (And.intro (And.intro hown hi1') (And.intro hK' hi2'))
        clear hown hi1 hi1' hK hK' hi2 hi2'
        gi_wp2_with (refine wpListIn_load_row rfl 167 (.tmp 6) rfl w.heap.size rfl 167 _ (0, 0) _ HB.out.1.2 Tryd.underlying167 rfl hui8 ?_)
        obtain ⟨W5, hW5⟩ : ∃ V, V = W.alloc (.cells (bytesV (List.replicate 32 0)).toArray 5) := ⟨_, rfl⟩
        have hW5' : W.alloc (.cells (bytesV [0, 0, 0, 0, 0, 0, 0, 0, 0, 0, 0, 0, 0, 0, 0, 0, 0, 0, 0, 0, 0, 0, 0, 0, 0, 0, 0, 0, 0, 0, 0, 0]).toArray 5) = W5 := hW5.symm
        rw [← hW5] at HB
        rw [hW5']
        clear hW5 hW5' hmk
        gi_loopw [8, 37] (fun v i wr => ∃ j : Nat, j ≤ 8 ∧ i = .int .i64 j ∧ wr.ownsRow w.heap.size 5 1 v (4 * j) (bytesV ((Sha.outB s).take (4 * j))) ∧ Below w.heap.size w wr ∧ wr.heap[D]? = some (.deferred (some []))) (fun _ i _ => 8 - (intOf i).toNat)
        case atStart => exact ⟨0, by omega, rfl, HB.out.1.1, HB.out.2.2, HB.out.2.1⟩
        case round =>
          clear HB
          obtain ⟨j, hj, rfl, hown, hb, hK⟩ := hrel
          by_cases hj8 : j < 8
          · obtain ⟨y, hy⟩ : ∃ y, y = s.list.getD j 0 := ⟨_, rfl⟩
            have hix : ∀ V, (Instr.index 167 (.agg (wordsV s.list).toArray) (.int .i64 (j : Int))).run Tryd.prog V = .ok (.int .u32 (wv y)) V := by
              intro V
              rw [hy]
              match j, hj8 with
              | 0, _ => rfl
              | 1, _ => rfl
              | 2, _ => rfl
              | 3, _ => rfl
              | 4, _ => rfl
              | 5, _ => rfl
              | 6, _ => rfl
              | 7, _ => rfl
            have htk : (Sha.outB s).take (4 * (j + 1)) = (Sha.outB s).take (4 * j) ++ Sha.beBytes y := by
              rw [hy]
              match j, hj8 with
              | 0, _ => rfl
              | 1, _ => rfl
              | 2, _ => rfl
              | 3, _ => rfl
              | 4, _ => rfl
              | 5, _ => rfl
              | 6, _ => rfl
              | 7, _ => rfl
            have HTK := Lib.hid htk
            have hj0 : (j : Int) < 8 := by omega
            have hlt := fun k e => (hown.lt k e).1
            have hne : ∀ k, u8.ownBlock = some k → k ≠ D := fun k e hk => by
              subst hk
              obtain ⟨_, h0 | ⟨g', cap', cur', hv, h2, h3, _⟩⟩ := hown
              · rw [h0.1] at e; cases e
              · rw [hv] at e; cases e; rw [hK] at h3; cases h3
            have hB0 := hb.size
            have s1 := wv_shrk y 24 16777216 rfl
            have s2 := wv_shrk y 16 65536 rfl
            have s3 := wv_shrk y 8 256 rfl
            have o1 := out_byte (y >>> 24)
            have o2 := out_byte (y >>> 16)
            have o3 := out_byte (y >>> 8)
            have o4 := out_byte y
            clear htk hy
            gi_wp2_with (gi_at_builtin; refine wpListIn_append_own _ rfl _ _ 65 rfl w.heap.size 5 i0 (.int .u8 0) 1 1 Tryd.underlying65 hi hz0 hz1 hz2 rfl (by decide) _ _ _ rfl (hown.alloc _) ⟨wr.heap.size, 0, none⟩ 4 4 [.int .u8 (wv (bw (ob (y >>> 24)))), .int .u8 (wv (bw (ob (y >>> 16)))), .int .u8 (wv (bw (ob (y >>> 8)))), .int .u8 (wv (bw (ob y)))] rfl rfl (World.news_of_block (cs := #[.int .u8 (wv (bw (ob (y >>> 24)))), .int .u8 (wv (bw (ob (y >>> 16)))), .int .u8 (wv (bw (ob (y >>> 8)))), .int .u8 (wv (bw (ob y)))]) (t := 5) (fr := (0, 0)) (heap_alloc_new wr _)) (by simp [Value.oneCell']) (by unfold maxLen; omega) (by omega) (by simp; omega) ?_; intro v' w6 hown' hgrow _)
            have hb6 : Below w.heap.size w w6 := (hb.alloc hB0 _).grown hgrow (by simp; omega) hlt
            have hDl := (Array.getElem?_eq_some_iff.1 hK).1
            have hK6 : w6.heap[D]? = some (.deferred (some [])) := (hgrow.block D (by simp; omega) (fun e => hne D e.symm rfl)).trans ((heap_alloc_old _ _ hDl).trans hK)
            have ho6 : w6.ownsRow w.heap.size 5 1 v' (4 * (j + 1)) (bytesV ((Sha.outB s).take (4 * (j + 1)))) := by
              rw [HTK.out]; unfold bytesV at hown' ⊢; rw [List.map_append]; exact hown'
            clear hown hown' hgrow hlt hne hb hK hix s1 s2 s3 o1 o2 o3 o4
            gi_wp2
            go_roundw
            case rel => exact ⟨j + 1, by omega, by go_num, ho6, hb6, hK6⟩
            case measure => simp [intOf]; omega
          · have hje : j = 8 := by omega
            have hjd : decide ((j : Int) < 8) = false := by simp; omega
            rw [hje] at hown
            have hown8 : wr.ownsRow w.heap.size 5 1 u8 32 (bytesV (Sha.outB s)) := hown
            obtain ⟨g8, cap8, hv8, hconv⟩ := row_text hown8 (Sha.outB_length s) (by omega)
            have HB := Lib.hid (And.intro hb hown8)
            clear hown hown8 hb hj8 hj hje
            subst hv8
            gi_wp2
            refine ⟨by simp, .inl ⟨_, _, rfl, run_takeDeferred hK, ?_⟩⟩
            refine ⟨_, results_tmp rfl _ _ _, ?_⟩
            refine ⟨?_, HB.out.1.trans (belowK_b (w := w) (Nat.le_refl _) wr D _ _ (by omega) hK rfl rfl)⟩
            unfold bstr
            rw [← HDG.out]
            rfl
end Go.Proofs.YtihohjgjklcnlaaDoor.Wb

namespace Go.Proofs.YtihohjgjklcnlaaDoor.Wb
open Go.RowKit Tree

theorem bstr_sha (s : ByteArray) (l : List UInt8) (h : l = s.data.toList) : bstr (Sha.digest l) = .string (Sha.shaS s) := by rw [h]; rfl
/-- A literal of strings. -/
theorem StrA.lit (w : World) (L : List ByteArray) (h : L.length < 100) : StrA (w.alloc (.cells (strV L).toArray 9)) (some ⟨w.heap.size, 0, none⟩) L.length L := by
  refine ⟨Nat.le_refl _, by unfold maxLen; omega, fun i hi => ⟨_, _, rfl, by simp, ?_⟩⟩
  rw [cell_of_row _ _ _ (strV L).toArray 9 (0, 0) (heap_alloc_new _ _)]
  unfold strV
  simp [hi]

set_option maxRecDepth 100000 in
set_option maxHeartbeats 400000 in
theorem sum_any (s : ByteArray) (w : World) (ht : Tab w) (hs : s.size ≤ 2000) :
    Calls Tryd.prog 46 #[.string s] w fun e w' => e = .returned (.string (Sha.shaS s)) ∧ Below w.heap.size w w' := by
  have hfl : flat [s] = s.data.toList := by unfold flat; simp
  have hb0 : Below w.heap.size w (w.alloc (.cells (strV [s]).toArray 9)) := (Below.refl _ _).alloc (Nat.le_refl _) _
  have hc := sumOf_any w.heap.size 0 1 [s] _ (StrA.lit w [s] (by simp)) (by simp) (by simp) (by rw [hfl]; simp; omega) (ht.below hb0)
  have HC := Lib.hid hc
  have HB := Lib.hid hb0
  have HF := Lib.hid (bstr_sha s _ hfl)
  clear hc hb0 hfl ht
  go_enter Tryd.func46, Tryd.ntmps46
  go_wp2_with fail
  refine HC.out.mono ?_
  rintro e w1 ⟨rfl, hb⟩
  rw [HF.out]
  have HB1 := Lib.hid (below_step HB.out hb)
  clear hb
  go_wp2_with fail
  go_ret
  exact ⟨rfl, HB1.out⟩

end Go.Proofs.YtihohjgjklcnlaaDoor.Wb
