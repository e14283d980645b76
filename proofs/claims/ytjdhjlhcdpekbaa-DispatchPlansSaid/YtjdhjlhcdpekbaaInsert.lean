/-
  A copy of elements of several cells as a step of a region that draws; the contract of insert.
-/
import Derived.Test.YtjdhjlhcdpekbaaReads
import Derived.Deep.AppendLies
import Derived.Laws.CopyOwn
import Derived.Deep.RegionLaw
namespace Go.Proofs.Ytjdhjlhcdpekbaa
open Go.RowKit Go.Shelf

theorem run_copy_rows {P : Program} (w : World) (dT sT ty elem : TypeId) (g o dLen dCap : Nat) (a : Addr) (sLen sCap k size : Nat) (cur : Array Value) (t : TypeId) (cs : List Value) (i : TypeInfo)
    (hu : P.underlying dT = some (.slice elem)) (hq : P.info? elem = some i) (hi : i.size = size) (hg : w.heap[g]? = some (.cells cur t (0, 0))) (hk : Nat.min sLen dLen = k) (hn : cs.length = k * size)
    (hsrc : ∀ j v, cs[j]? = some v → w.cell? (a.add j) = some v) (hfit : o + cs.length ≤ cur.size) (h1 : ∀ v ∈ cs, v.oneCell' = true) :
    (Builtin.copy_ #[dT, sT] ty #[.slice (some ⟨g, o, none⟩) dLen dCap, .slice (some a) sLen sCap]).run P w =
      .ok (goInt k) (w.setRow g (cur.toList.take o ++ cs ++ cur.toList.drop (o + cs.length)).toArray) := by
  have hl := run_loadCells_list (P := P) w a cs hsrc
  have hst := run_storeCells_at P g o t cs 0 cur w hg (by simpa using hfit) h1
  rw [hn] at hl
  simp [Builtin.copy_, run_underlying hu, Builtin.lenOf, Builtin.firstCells, sizeOf, typeInfo, hq, hi, hk, hl, hst]
theorem run_copy_zero {P : Program} (w : World) (dT sT ty elem : TypeId) (dp sp : Option Addr) (dLen dCap sLen sCap : Nat) (i : TypeInfo)
    (hu : P.underlying dT = some (.slice elem)) (hq : P.info? elem = some i) (hk : Nat.min sLen dLen = 0) :
    (Builtin.copy_ #[dT, sT] ty #[.slice dp dLen dCap, .slice sp sLen sCap]).run P w = .ok (goInt 0) w := by
  have h0 : ∀ a : Addr, (loadCells a 0).run P w = .ok #[] w := fun a => by simpa using run_loadCells_list (P := P) w a [] (fun j v h => by simp at h)
  cases dp <;> cases sp <;> simp [Builtin.copy_, run_underlying hu, Builtin.lenOf, Builtin.firstCells, sizeOf, typeInfo, hq, hk, storeCells, loadCells, loadCellsFrom]
theorem step_copy_rows {P : Program} {ops : Array Oper} {o : Oper} {a : Act} {w : World} {K : Act → World → Prop} {Q : Exit → Act → World → Prop} {E : Prop} (hgd : o.guard = none) (d s : Operand) (dT sT : TypeId)
    (ho : o.op = .call { callee := .builtin .copy, args := #[d, s], argTypes := #[dT, sT] }) (elem : TypeId) (i : TypeInfo) (hu : P.underlying dT = some (.slice elem)) (hq : P.info? elem = some i) (size : Nat) (hi : i.size = size)
    (dp sp : Option Addr) (dLen dCap sLen sCap : Nat) (hd : a.eval d = .slice dp dLen dCap) (hs : a.eval s = .slice sp sLen sCap) (k : Nat) (hk : Nat.min sLen dLen = k)
    (g off : Nat) (cur : Array Value) (t : TypeId) (hg : w.heap[g]? = some (.cells cur t (0, 0))) (cs : List Value) (hn : cs.length = k * size)
    (hpos : 0 < k → dp = some ⟨g, off, none⟩ ∧ ∃ ad, sp = some ad ∧ ∀ j v, cs[j]? = some v → w.cell? (ad.add j) = some v)
    (hfit : off + cs.length ≤ cur.size) (h1 : ∀ v ∈ cs, v.oneCell' = true)
    (h : ∀ w', Hid (w'.heap[g]? = some (.cells (cur.toList.take off ++ cs ++ cur.toList.drop (off + cs.length)).toArray t (0, 0))) → w.grownBy w' (some g) → K (a.put o.dst (goInt k)) w') :
    if Region.wanted o (yielded ops a.tmps) = true then Oper.wp P o a w K Q else E := by
  have hw : Region.wanted o (yielded ops a.tmps) = true := by simp [Region.wanted, hgd]
  rw [if_pos hw]
  by_cases h0 : k = 0
  · subst h0
    obtain rfl : cs = [] := List.eq_nil_of_length_eq_zero (by simpa using hn)
    have hrun := run_copy_zero (P := P) w dT sT o.type elem dp sp dLen dCap sLen sCap i hu hq hk
    unfold Oper.wp
    simp [execOp, ho, resolve, invoke, builtin, hd, hs, hrun, Result.andThen]
    exact h w (show _ = _ by simpa using hg) ⟨rfl, rfl, rfl, Nat.le_refl _, fun _ _ _ => rfl⟩
  · obtain ⟨rfl, ad, rfl, hsrc⟩ := hpos (by omega)
    have hrun := run_copy_rows (P := P) w dT sT o.type elem g off dLen dCap ad sLen sCap k size cur t cs i hu hq hi hg hk hn hsrc hfit h1
    unfold Oper.wp
    simp [execOp, ho, resolve, invoke, builtin, hd, hs, hrun, Result.andThen]
    exact h _ (show _ = _ by simpa using setRow_heap w g _ _ t _ hg) ⟨rfl, rfl, rfl, by simp [World.setRow], fun k _ hk => setRow_other w g k _ (fun e => hk (by rw [e]))⟩

theorem set4 (A : List Value) (y0 y1 y2 y3 x0 x1 x2 x3 : Value) (C : List Value) (n : Nat) (hn : A.length = n) :
    ((((A ++ y0 :: y1 :: y2 :: y3 :: C).set n x0).set (n + 1) x1).set (n + 2) x2).set (n + 3) x3 = A ++ x0 :: x1 :: x2 :: x3 :: C := by
  subst hn
  simp
/-- The row behind append, copy and store. -/
theorem ins_row (l : List Kal.Bk) (b : Kal.Bk) (k cap : Nat) (hk : k ≤ l.length) (cur : Array Value) (hc : cur.size = cap * 4) (hcap : l.length + 1 ≤ cap) (ht : cur.toList.take ((l.length + 1) * 4) = bkRow (l ++ [b])) :
    let row := (cur.toList.take ((k + 1) * 4) ++ bkRow (l.drop k) ++ cur.toList.drop ((k + 1) * 4 + (bkRow (l.drop k)).length)).toArray
    let row' := (((row.setIfInBounds (k * 4) (.int .i64 b.tool)).setIfInBounds (k * 4 + 1) (.int .i64 b.s)).setIfInBounds (k * 4 + 2) (.int .i64 b.e)).setIfInBounds (k * 4 + 3) (.int .i64 b.o)
    row'.size = cap * 4 ∧ row'.toList.take ((l.length + 1) * 4) = bkRow (l.take k ++ b :: l.drop k) := by
  intro row row'
  have hlen : cur.toList.length = cap * 4 := by rw [Array.length_toList, hc]
  have hdl : (bkRow (l.drop k)).length = (l.length - k) * 4 := by rw [bkRow_length, List.length_drop]
  have hrow : row.size = cap * 4 := by
    show (List.toArray _).size = _
    simp only [List.size_toArray, List.length_append, List.length_take, List.length_drop, hlen, hdl]; omega
  have h1 : cur.toList.take ((k + 1) * 4) = bkRow (l.take k) ++ ((bkRow (l ++ [b])).drop (k * 4)).take 4 := by
    have e : cur.toList.take ((k + 1) * 4) = (bkRow (l ++ [b])).take ((k + 1) * 4) := by rw [← ht, List.take_take]; congr 1; omega
    rw [e, show (k + 1) * 4 = k * 4 + 4 by omega, List.take_add, bkRow_take, List.take_append_of_le_length hk]
  obtain ⟨y0, y1, y2, y3, hy⟩ : ∃ y0 y1 y2 y3, ((bkRow (l ++ [b])).drop (k * 4)).take 4 = [y0, y1, y2, y3] := by
    have h4 : (((bkRow (l ++ [b])).drop (k * 4)).take 4).length = 4 := by
      rw [List.length_take, List.length_drop, bkRow_length, List.length_append]; simp; omega
    match ((bkRow (l ++ [b])).drop (k * 4)).take 4, h4 with
    | [y0, y1, y2, y3], _ => exact ⟨y0, y1, y2, y3, rfl⟩
  have htk : (bkRow (l.take k)).length = k * 4 := by rw [bkRow_length, List.length_take]; omega
  have hr : row.toList = bkRow (l.take k) ++ y0 :: y1 :: y2 :: y3 :: (bkRow (l.drop k) ++ cur.toList.drop ((k + 1) * 4 + (bkRow (l.drop k)).length)) := by
    show (List.toArray _).toList = _
    rw [h1, hy]; simp
  have hr' : row'.toList = bkRow (l.take k) ++ Value.int .i64 b.tool :: .int .i64 b.s :: .int .i64 b.e :: .int .i64 b.o :: (bkRow (l.drop k) ++ cur.toList.drop ((k + 1) * 4 + (bkRow (l.drop k)).length)) := by
    show (Array.setIfInBounds _ _ _).toList = _
    simp only [Array.toList_setIfInBounds, hr]
    exact set4 _ _ _ _ _ _ _ _ _ _ _ htk
  refine ⟨by show (Array.setIfInBounds _ _ _).size = _; simp [hrow], ?_⟩
  rw [hr']
  have e : bkRow (l.take k ++ b :: l.drop k) = bkRow (l.take k) ++ Value.int .i64 b.tool :: .int .i64 b.s :: .int .i64 b.e :: .int .i64 b.o :: bkRow (l.drop k) := by
    rw [bkRow_append]; rfl
  rw [e, show bkRow (l.take k) ++ Value.int .i64 b.tool :: .int .i64 b.s :: .int .i64 b.e :: .int .i64 b.o :: (bkRow (l.drop k) ++ cur.toList.drop ((k + 1) * 4 + (bkRow (l.drop k)).length)) =
    (bkRow (l.take k) ++ Value.int .i64 b.tool :: .int .i64 b.s :: .int .i64 b.e :: .int .i64 b.o :: bkRow (l.drop k)) ++ cur.toList.drop ((k + 1) * 4 + (bkRow (l.drop k)).length) by simp]
  rw [List.take_left' (by simp [htk, hdl]; omega)]

set_option maxRecDepth 100000 in
set_option maxHeartbeats 1000000 in
theorem insert_any (v : Value) (l : List Kal.Bk) (b : Kal.Bk) (k B : Nat) (w : World) (h : BkOwn w B v l) (hk : k ≤ l.length) (hl : l.length ≤ 1000000) (hB : B ≤ w.heap.size) :
    Calls Try.prog 59 #[v, .int .i64 (k : Int), bkV b] w fun e w' => ∃ v', e = .returned v' ∧ BkOwn w' B v' (l.take k ++ b :: l.drop k) ∧ Ch (fun i => v.ownBlock = some i) w w' ∧ ∀ i, v'.ownBlock = some i → v.ownBlock = some i ∨ w.heap.size ≤ i := by
  obtain ⟨i0, hi, hz0, hz1, hz2⟩ := info_parts info_booking
  have H := Lib.hid h
  clear h
  go_enter Try.func59, Try.ntmps59
  go_wp2_with (at_builtin; refine wpList_append_lies _ rfl _ _ 31 rfl B 36 i0 _ 4 32 Try.underlying31 hi hz0 hz1 hz2 rfl (by decide) _ _ _ rfl ((H.out.alloc _).alloc _) ⟨w.heap.size + 1, 0, none⟩ 1 1 (bkCells b) rfl rfl ?c1 ?c2 (by decide) ?c3 ?c4 ?c5 (w.heap.size + 2) (by simp) ?_)
  case c1 => exact World.news_of_block (cs := #[.int .i64 b.tool, .int .i64 b.s, .int .i64 b.e, .int .i64 b.o]) (t := 36) (fr := (0, 0)) (by have := heap_alloc_new (w.alloc (.cells #[.int .i64 b.tool, .int .i64 b.s, .int .i64 b.e, .int .i64 b.o] 36)) (.cells #[.int .i64 b.tool, .int .i64 b.s, .int .i64 b.e, .int .i64 b.o] 36); rwa [World.size_alloc] at this)
  case c2 => intro u hu; exact bkRow_one u [b] (by simpa [bkRow] using hu)
  case c3 => unfold maxLen; omega
  case c4 => omega
  case c5 => simp; omega
  intro g cap w3 hown hgrow hat hlt
  have hvlt : ∀ i, v.ownBlock = some i → B ≤ i ∧ i < w.heap.size := H.out.lt
  have hgs : g ≠ w.heap.size := by rcases hat with h | h; have := (hvlt g h).2; omega; omega
  have hbox : w3.heap[w.heap.size]? = some (.cells #[.int .i64 b.tool, .int .i64 b.s, .int .i64 b.e, .int .i64 b.o] 36) :=
    (hgrow.block w.heap.size (by simp; omega) (fun e => by have := (hvlt _ e.symm).2; omega)).trans ((Below.heap_alloc _ _ _ (by simp)).trans (heap_alloc_new _ _))
  have C3 : Hid (Ch (fun i => v.ownBlock = some i) w w3) := Lib.hid ((Ch.ofBelow (S := fun i => v.ownBlock = some i) ((below_new w _).alloc (by simp) _)).trans (Ch.grown (S := fun i => v.ownBlock = some i) hgrow (fun k hk => hk)) (fun _ _ h => h))
  have hA : Hid (∀ i, (some g : Option Nat) = some i → v.ownBlock = some i ∨ w.heap.size ≤ i) := Lib.hid (fun i e => by injection e with e; subst e; rcases hat with h | h; exact .inl h; exact .inr (by omega))
  have hs3 := hgrow.size
  simp only [World.size_alloc] at hs3
  obtain ⟨hle, h0 | ⟨g', cap', cur, e1, hBg, hcur, hcap, hmax, hsz, htake⟩⟩ := hown
  · exact absurd h0.2 (by omega)
  injection e1 with e1 _ e2; injection e1 with e1; injection e1 with e1; subst e1; subst e2
  have HR := Lib.hid (ins_row l b k cap hk cur hsz hcap (by rw [htake, bkRow_snoc]))
  have HCUR := Lib.hid hcur; have HSZ := Lib.hid hsz; have HBOX := Lib.hid hbox
  have HM := Lib.hid hmax; have HT := Lib.hid (show cur.toList.take ((l.length + 1) * 4) = bkRow (l ++ [b]) by rw [htake, bkRow_snoc])
  unfold maxLen at hmax
  have d1 : IntKind.i64.wrap ((k : Int) + 1) = (k : Int) + 1 := IntWalk.i64_in _ (by omega)
  clear hle hcur htake hgrow hat hsz hbox hvlt
  have k1 : (k : Int) ≤ (l.length : Int) := by omega
  have k2 : (l.length : Int) + 1 ≤ (cap : Int) := by omega
  have k0 : (0 : Int) ≤ (k : Int) + 1 := by omega
  have k3 : (0 : Int) ≤ (k : Int) := by omega
  have k4 : (k : Int) ≤ (l.length : Int) + 1 := by omega
  have HN := Lib.hid (show (bkRow (l.drop k)).length = (l.length - k) * 4 by rw [bkRow_length, List.length_drop])
  have HP := Lib.hid (show 0 < l.length - k → (if cap = k + 1 then some (⟨g, 0, none⟩ : Addr) else some ⟨g, (k + 1) * 4, none⟩) = some ⟨g, (k + 1) * 4, none⟩ ∧ ∃ ad, (if cap = k then some (⟨g, 0, none⟩ : Addr) else some ⟨g, k * 4, none⟩) = some ad ∧ ∀ j u, (bkRow (l.drop k))[j]? = some u → w3.drew.cell? (ad.add j) = some u from fun h0 => by
    rw [if_neg (by omega), if_neg (by omega)]
    refine ⟨rfl, ⟨g, k * 4, none⟩, rfl, fun j u hu => ?_⟩
    have hj : j < (l.length - k) * 4 := by have := (List.getElem?_eq_some_iff.1 hu).1; rw [HN.out] at this; exact this
    have e : (⟨g, k * 4, none⟩ : Addr).add j = ⟨g, k * 4 + j, none⟩ := by unfold Addr.add; split <;> simp_all
    rw [e]
    refine box_cell (w := w3.drew) HCUR.out _ _ ?_
    have h1 : (cur.toList.take ((l.length + 1) * 4))[k * 4 + j]? = cur.toList[k * 4 + j]? := List.getElem?_take_of_lt (by omega)
    rw [← Array.getElem?_toList, ← h1, HT.out, bkRow_append, List.getElem?_append_left (by rw [bkRow_length]; omega), ← hu, ← bkRow_drop, List.getElem?_drop])
  have HF := Lib.hid (show (k + 1) * 4 + (bkRow (l.drop k)).length ≤ cur.size by rw [HN.out, HSZ.out]; omega)
  have HMIN := Lib.hid (show Nat.min (l.length + 1 - k) (l.length - k) = l.length - k from Nat.min_eq_right (by omega))
  go_wp2_with fail
  go_region_law ((refine step_copy_rows (by rfl) (.tmp 14) (.tmp 17) 31 31 (by rfl) 36 i0 Try.underlying31 hi 4 hz1 (if cap = k + 1 then some (⟨g, 0, none⟩ : Addr) else some ⟨g, (k + 1) * 4, none⟩) (if cap = k then some (⟨g, 0, none⟩ : Addr) else some ⟨g, k * 4, none⟩) (l.length - k) (cap - (k + 1)) (l.length + 1 - k) (cap - k) (by simp [Act.eval, Act.put]) (by simp [Act.eval, Act.put]) (l.length - k) HMIN.out g ((k + 1) * 4) cur 36 HCUR.out (bkRow (l.drop k)) HN.out HP.out HF.out (fun u hu => bkRow_one u _ hu) ?_; intro w4 HG4 hg4))
  have hbx := HBOX.out
  have hbox4 : w4.heap[w.heap.size]? = some (.cells #[.int .i64 b.tool, .int .i64 b.s, .int .i64 b.e, .int .i64 b.o] 36) := (hg4.block w.heap.size (lt_of_block (w := w3.drew) hbx) (by intro e; injection e with e; exact hgs e.symm)).trans hbx
  have C4 := Lib.hid ((show Ch (fun i => v.ownBlock = some i) w w3.drew from ⟨C3.out.os, C3.out.tape, C3.out.output, C3.out.size, C3.out.block⟩).trans (Ch.grown (S := fun i => (some g : Option Nat) = some i) hg4 (fun k hk => hk)) (fun i hi h => by rcases hA.out i h with h | h; exact h; omega))
  obtain ⟨hr1, hr2⟩ := HR.out
  have HR1 := Lib.hid hr1; have HR2 := Lib.hid hr2
  have hg4b := HG4.out
  generalize (cur.toList.take ((k + 1) * 4) ++ bkRow (l.drop k) ++ cur.toList.drop ((k + 1) * 4 + (bkRow (l.drop k)).length)).toArray = row at *
  have hrs : row.size = cap * 4 := by have := HR1.out; simpa using this
  have y0 := box_cell hbox4 0 _ rfl; have y1 := box_cell hbox4 1 _ rfl; have y2 := box_cell hbox4 2 _ rfl; have y3 := box_cell hbox4 3 _ rfl
  have z := fun o => box_fz hg4b o
  have c0 : w4.cell? ⟨g, k * 4, none⟩ = some row[k * 4] := box_cell hg4b _ _ (Array.getElem?_eq_getElem (by omega))
  have c1 : w4.cell? ⟨g, k * 4 + 1, none⟩ = some row[k * 4 + 1] := box_cell hg4b _ _ (Array.getElem?_eq_getElem (by omega))
  have c2 : w4.cell? ⟨g, k * 4 + 2, none⟩ = some row[k * 4 + 2] := box_cell hg4b _ _ (Array.getElem?_eq_getElem (by omega))
  have c3 : w4.cell? ⟨g, k * 4 + 3, none⟩ = some row[k * 4 + 3] := box_cell hg4b _ _ (Array.getElem?_eq_getElem (by omega))
  generalize row[k * 4] = x0 at *; generalize row[k * 4 + 1] = x1 at *; generalize row[k * 4 + 2] = x2 at *; generalize row[k * 4 + 3] = x3 at *
  have HG := Lib.hid hg4b
  have k5 : (k : Int) < (l.length : Int) + 1 := by omega
  clear hr1 hr2 hg4b hbox4 hbx hg4 HG4 hrs
  go_wp2_with fail
  all_goals
    go_ret
    have hln : (l.take k ++ b :: l.drop k).length = l.length + 1 := by simp; omega
    refine ⟨_, rfl, ?_, C4.out.trans (S' := fun i => i = g) (a := w) ?_ (fun i hi h => by subst h; rcases hA.out i rfl with h | h; exact h; omega), hA.out⟩
    · unfold BkOwn
      rw [hln, ← HR2.out]
      first | exact ⟨by rw [HR2.out, bkRow_length, hln], .inr ⟨g, _, _, rfl, hBg, block_set (block_set (block_set (block_set HG.out _) _) _) _, hcap, HM.out, HR1.out, rfl⟩⟩ | (obtain rfl : cap = k + 1 := (by omega); exact ⟨by rw [HR2.out, bkRow_length, hln], .inr ⟨g, _, _, rfl, hBg, block_set (block_set (block_set (block_set HG.out _) _) _) _, hcap, HM.out, HR1.out, rfl⟩⟩)
    · have s1 := fun (w : World) o u => Ch.grown (S := fun i => i = g) (grown_set (w := w) g o u) (fun k hk => by injection hk with hk; exact hk.symm)
      exact (((s1 _ _ _).trans (s1 _ _ _) (fun _ _ h => h)).trans (s1 _ _ _) (fun _ _ h => h)).trans (s1 _ _ _) (fun _ _ h => h)
end Go.Proofs.Ytjdhjlhcdpekbaa

