/-
  Best.
-/
import Derived.Test.YtiolmcnngpaapaaBe
namespace Go.Proofs.Ytiolmcnngpaapaa
open Go.RowKit Go.Shelf Cl
open Cy (Arc)

/-- There are starts with an order and a period. -/
def feasO (c : Tool) (o : List Int) (p : Int) : Bool := Cy.feas (arcsC c o) o.length p
/-- No order has starts with any period. -/
def NoBest (c : Tool) : Prop := ∀ o ∈ ordersT c, ∀ r, 1 ≤ r → r ≤ 1000000 → feasO c o r = false
/-- The first order with the smallest period. -/
structure BestIs (c : Tool) (p : Int) (o : List Int) : Prop where
  mem : o ∈ ordersT c
  bd : 1 ≤ p ∧ p ≤ 1000000
  yes : feasO c o p = true
  low : ∀ o' ∈ ordersT c, ∀ r, 1 ≤ r → r < p → feasO c o' r = false
  first : ∃ j, (ordersT c)[j]? = some o ∧ ∀ (i : Nat) (o' : List Int), i < j → (ordersT c)[i]? = some o' → feasO c o' p = false
/-- Behind the first k orders. -/
structure BestTo (c : Tool) (k : Nat) (f : Bool) (p long : Int) (o : List Int) : Prop where
  no : f = false → long = 1000000 ∧ p = 0 ∧ ∀ i o', i < k → (ordersT c)[i]? = some o' → ∀ r, 1 ≤ r → r ≤ 1000000 → feasO c o' r = false
  yes : f = true → long = p - 1 ∧ 1 ≤ p ∧ p ≤ 1000000 ∧ feasO c o p = true ∧ (∀ i o', i < k → (ordersT c)[i]? = some o' → ∀ r, 1 ≤ r → r < p → feasO c o' r = false) ∧
    ∃ j, j < k ∧ (ordersT c)[j]? = some o ∧ ∀ (i : Nat) (o' : List Int), i < j → (ordersT c)[i]? = some o' → feasO c o' p = false
theorem BestTo.long {c : Tool} {k : Nat} {f : Bool} {p long : Int} {o : List Int} (h : BestTo c k f p long o) : 0 ≤ long ∧ long ≤ 1000000 := by
  cases f
  · have := (h.no rfl).1; omega
  · have := h.yes rfl; omega
/-- A further order, better than those before. -/
theorem BestTo.take {c : Tool} {k : Nat} {f : Bool} {p long : Int} {o : List Int} (h : BestTo c k f p long o) {o' : List Int} (ho : (ordersT c)[k]? = some o') {q : Int} (h1 : 1 ≤ q) (h2 : q ≤ long) (h3 : feasO c o' q = true) (h4 : ∀ r, 1 ≤ r → r < q → feasO c o' r = false) :
    BestTo c (k + 1) true q (q - 1) o' := by
  have hl := h.long
  have hold : ∀ i x, i < k → (ordersT c)[i]? = some x → ∀ r, 1 ≤ r → r ≤ long → feasO c x r = false := fun i x hi hx r r1 r2 => by
    cases f
    · exact (h.no rfl).2.2 i x hi hx r r1 (by omega)
    · have := h.yes rfl; exact this.2.2.2.2.1 i x hi hx r r1 (by omega)
  refine ⟨fun h => (by cases h), fun _ => ⟨rfl, h1, by omega, h3, fun i x hi hx r r1 r2 => ?_, k, by omega, ho, fun i x hi hx => hold i x hi hx q h1 h2⟩⟩
  rcases Nat.lt_or_eq_of_le (Nat.le_of_lt_succ hi) with hi | rfl
  · exact hold i x hi hx r r1 (by omega)
  · rw [ho] at hx; injection hx with hx; subst hx; exact h4 r r1 r2
/-- A further order that is not better. -/
theorem BestTo.leave {c : Tool} {k : Nat} {f : Bool} {p long : Int} {o : List Int} (h : BestTo c k f p long o) {o' : List Int} (ho : (ordersT c)[k]? = some o') (h4 : ∀ r, 1 ≤ r → r ≤ long → feasO c o' r = false) :
    BestTo c (k + 1) f p long o := by
  refine ⟨fun hf => ?_, fun hf => ?_⟩
  · obtain ⟨a1, a2, a3⟩ := h.no hf
    refine ⟨a1, a2, fun i x hi hx r r1 r2 => ?_⟩
    rcases Nat.lt_or_eq_of_le (Nat.le_of_lt_succ hi) with hi | rfl
    · exact a3 i x hi hx r r1 r2
    · rw [ho] at hx; injection hx with hx; subst hx; exact h4 r r1 (by omega)
  · obtain ⟨a1, a2, a3, a4, a5, j, a6, a7, a8⟩ := h.yes hf
    refine ⟨a1, a2, a3, a4, fun i x hi hx r r1 r2 => ?_, j, by omega, a7, a8⟩
    rcases Nat.lt_or_eq_of_le (Nat.le_of_lt_succ hi) with hi | rfl
    · exact a5 i x hi hx r r1 r2
    · rw [ho] at hx; injection hx with hx; subst hx; exact h4 r r1 (by omega)
theorem BestTo.all {c : Tool} {k : Nat} {f : Bool} {p long : Int} {o : List Int} (h : BestTo c k f p long o) (hk : k = (ordersT c).length) : (f = false → NoBest c) ∧ (f = true → BestIs c p o) := by
  have hi : ∀ x ∈ ordersT c, ∃ i, i < k ∧ (ordersT c)[i]? = some x := fun x hx => by
    obtain ⟨i, hi, e⟩ := List.getElem_of_mem hx
    exact ⟨i, by omega, by rw [List.getElem?_eq_getElem hi, e]⟩
  refine ⟨fun hf x hx r r1 r2 => ?_, fun hf => ?_⟩
  · obtain ⟨i, h1, h2⟩ := hi x hx
    exact (h.no hf).2.2 i x h1 h2 r r1 r2
  · obtain ⟨a1, a2, a3, a4, a5, j, a6, a7, a8⟩ := h.yes hf
    refine ⟨List.mem_of_getElem? a7, ⟨a2, a3⟩, a4, fun x hx r r1 r2 => ?_, j, a7, a8⟩
    obtain ⟨i, h1, h2⟩ := hi x hx
    exact a5 i x h1 h2 r r1 r2
/-- What Best leaves. -/
def BestP (c : Tool) (w : World) (e : Ending) (w' : World) : Prop :=
  ∃ (f : Bool) (s : Sch) (oa sa qa : Option Addr) (oc sc qc : Nat), e = .returned (.tuple #[schV s oa sa qa oc sc qc, .int .i64 (if f then 0 else 130)]) ∧ IntsA w' oa oc s.o ∧ IntsA w' sa sc s.s ∧ IntsA w' qa qc s.q ∧ Below w.heap.size w w' ∧
    (f = false → NoBest c ∧ s = ⟨0, [], [], []⟩) ∧ (f = true → ∃ p o, BestIs c p o ∧ s = provedS c p o)
/-- The boxes of Best: the tool, the answer, the best schedule so far; the orders. -/
structure BeAt (W : World) (c : Tool) (a : Option Addr) (k : Nat) (q : Option Addr) (qc : Nat) (p : Int) (o : List Int) (oa : Option Addr) (oc : Nat) (w : World) : Prop where
  tool : w.heap[W.heap.size]? = some (toolObj c a k)
  res : w.heap[W.heap.size + 1]? = some zeroSch
  fast : w.heap[W.heap.size + 2]? = some (schObj ⟨p, o, [], []⟩ oa none none oc 0 0)
  ords : OrdA w (W.heap.size + 3) q qc (ordersT c)
  row : IntsA w oa oc o
  far : ∀ x, oa = some x → W.heap.size + 3 ≤ x.block
  bel : Below W.heap.size W w
theorem BeAt.below {W : World} {c : Tool} {a : Option Addr} {k : Nat} {q : Option Addr} {qc : Nat} {p : Int} {o : List Int} {oa : Option Addr} {oc : Nat} {w w' : World} (h : BeAt W c a k q qc p o oa oc w) (hb : Below w.heap.size w w') : BeAt W c a k q qc p o oa oc w' :=
  ⟨box_below h.tool hb, box_below h.res hb, box_below h.fast hb, h.ords.below hb, h.row.below hb, h.far, below_step h.bel hb⟩
theorem OrdA.ch {S : Nat → Prop} {w w' : World} {C : Nat} {a : Option Addr} {c : Nat} {O : List (List Int)} (h : OrdA w C a c O) (hc : Ch S w w') (h1 : ∀ x, a = some x → ¬ S x.block) (h2 : ∀ k, C ≤ k → ¬ S k) : OrdA w' C a c O := by
  refine ⟨h.1, h.2.1, fun i hi => ?_⟩
  obtain ⟨b, off, r, rfl, k1, k2, k3, k4⟩ := h.2.2 i hi
  exact ⟨b, off, r, rfl, Nat.lt_of_lt_of_le k1 hc.size, (World.cell?_of_block (a := ⟨b, _, none⟩) (hc.block b k1 (h1 _ rfl))).trans k2, k3, k4.ks (KS.ofCh hc) (h2 _ k3)⟩
theorem mem_valid {c : Tool} {o : List Int} (h : o ∈ ordersT c) : validT c = true ∧ Ord c.chs.length o := ⟨okT_of h, ord_of h⟩
set_option maxRecDepth 100000 in
set_option maxHeartbeats 2000000 in
theorem cBest_any (c : Tool) (a : Option Addr) (k : Nat) (w : World) (h : ChA w a k c.chs) : Calls Try.prog 22 #[toolV c a k] w (BestP c w) := by
  have HB := Lib.hid (below_step (below_new w (toolObj c a k)) (below_step (below_new (w.alloc (toolObj c a k)) zeroSch) (below_new _ zeroSch)))
  have HT := Lib.hid (show (((w.alloc (toolObj c a k)).alloc zeroSch).alloc zeroSch).heap[w.heap.size]? = some (toolObj c a k) from box_below (heap_alloc_new w (toolObj c a k)) (below_step (below_new _ _) (below_new _ _)))
  have HR := Lib.hid (show (((w.alloc (toolObj c a k)).alloc zeroSch).alloc zeroSch).heap[w.heap.size + 1]? = some zeroSch from by
    have := heap_alloc_new (w.alloc (toolObj c a k)) zeroSch
    rw [show (w.alloc (toolObj c a k)).heap.size = w.heap.size + 1 by simp] at this; exact box_below this (below_new _ _))
  have HF := Lib.hid (show (((w.alloc (toolObj c a k)).alloc zeroSch).alloc zeroSch).heap[w.heap.size + 2]? = some zeroSch from by
    have := heap_alloc_new ((w.alloc (toolObj c a k)).alloc zeroSch) zeroSch
    rw [show ((w.alloc (toolObj c a k)).alloc zeroSch).heap.size = w.heap.size + 2 by simp] at this; exact this)
  have HOr := Lib.hid (cOrdersR_any c a k _ (h.below HB.out))
  have HC := Lib.hid h
  obtain ⟨t0, t1, t2, t3, t4⟩ := toolC_of HT.out
  clear h
  go_enter Try.func22, Try.ntmps22
  go_wp2_with fail
  refine HOr.out.mono ?_
  rintro _ w1 ⟨q, qc, rfl, hq, hfar, hb⟩
  have B1 := Lib.hid (below_step HB.out hb.out)
  have T1 := Lib.hid (box_below HT.out hb.out); have R1 := Lib.hid (box_below HR.out hb.out); have F1 := Lib.hid (box_below HF.out hb.out)
  have HFar := Lib.hid (show ∀ x, q = some x → ¬ x.block = w.heap.size + 2 from fun x hx => by
    have := hfar x hx
    rw [show (((w.alloc (toolObj c a k)).alloc zeroSch).alloc zeroSch).heap.size = w.heap.size + 3 by simp] at this; omega)
  have HQ := Lib.hid (show OrdA w1 (w.heap.size + 3) q qc (ordersT c) from by
    have := hq.out
    rwa [show (((w.alloc (toolObj c a k)).alloc zeroSch).alloc zeroSch).heap.size = w.heap.size + 3 by simp] at this)
  have HQ2 := Lib.hid (show ∀ x, q = some x → ¬ x.block = w.heap.size + 2 from HFar.out)
  have X1 := Lib.hid (show BeAt w c a k q qc 0 [] none 0 w1 from ⟨T1.out, R1.out, F1.out, HQ.out, RowA.nil _ _ _, fun x hx => (by cases hx), B1.out⟩)
  have HS1 := Lib.hid (show BestTo c 0 false 0 1000000 [] from ⟨fun _ => ⟨rfl, rfl, fun i o' hi => by omega⟩, fun h => (by cases h)⟩)
  have hql := Nat.le_trans HQ.out.1 HQ.out.2.1
  unfold maxLen at hql
  clear hb hq HOr HB HT HR HF t0 t1 t2 t3 t4 T1 R1 F1 HQ B1 HFar
  go_wp2_with fail
  go_loopw [5, 13] (fun lv iv wr => ∃ (i : Nat) (f : Bool) (p long : Int) (o : List Int) (oa : Option Addr) (oc : Nat), i ≤ (ordersT c).length ∧ lv = .int .i64 long ∧ iv = .int .i64 (i : Int) ∧ Hid (BestTo c i f p long o) ∧ Hid (BeAt w c a k q qc p o oa oc wr)) (fun _ iv _ => (ordersT c).length - (intOf iv).toNat)
  case atStart => exact ⟨0, false, 0, 1000000, [], none, 0, Nat.zero_le _, rfl, rfl, HS1, X1⟩
  case round =>
    clear X1 HS1
    obtain ⟨i, f, p, long, o, oa, oc, hi, rfl, rfl, HS, HX⟩ := hrel
    by_cases hlt : i < (ordersT c).length
    · obtain ⟨b, off, r, rfl, hb, hc, hr, hrow⟩ := HX.out.ords.2.2 i hlt
      have HM := Lib.hid (List.getElem_mem hlt)
      have HI := Lib.hid (List.getElem?_eq_getElem hlt)
      generalize (ordersT c)[i] = o' at *
      obtain ⟨hv, ho⟩ := mem_valid HM.out
      have hol := ordLen_of HM.out
      have HRow := Lib.hid (hrow.ints (by omega))
      have HFr := Lib.hid hr
      have HAr := Lib.hid (arcsOf_any c hv o' ho a k (some ⟨r, 0, none⟩) o'.length wr (HC.out.below HX.out.bel) HRow.out)
      have HVd := Lib.hid (arcsC_valid hv ho)
      have hlb := HS.out.long
      have HSm := Lib.hid (fun (x : Option Addr) (y : Nat) (W : World) (hA : ArcA W x y (arcsC c o')) (h4 : ∀ z, x = some z → z.block < W.heap.size) => Smallest_any (o'.length : Int) 1 long (by unfold Fits; omega) (arcsC c o') x y W hA h4)
      unfold SmPost at HSm
      rw [HVd.out, per_of (p := 1) (by omega), per_of (p := long) (by omega), Int.toNat_natCast] at HSm
      have i0 : (0 : Int) ≤ (i : Int) := by omega
      have i1 : (i : Int) < ((ordersT c).length : Int) := by omega
      have HFe := Lib.hid (show ∀ r, feasO c o' r = Cy.feas (arcsC c o') o'.length r from fun r => rfl)
      obtain ⟨t0, t1, t2, t3, t4⟩ := toolC_of HX.out.tool
      clear hrow hr hv ho HVd
      go_wp2_with fail
      refine HAr.out.mono ?_
      rintro _ w2 ⟨x, y, rfl, h1, h2, h3⟩
      have X2 := Lib.hid (HX.out.below h3)
      have HR2 := Lib.hid (HRow.out.below h3)
      have HS2 := Lib.hid (HSm.out x y w2 h1 (fun z hz => (h2 z hz).2))
      clear h1 h2 h3 HAr HX HRow HSm t0 t1 t2 t3 t4 hc hb
      go_wp2_with fail
      refine HS2.out.mono ?_
      rintro _ w3 ⟨q3, f3, rfl, b3, -, hsp⟩
      have hsp := hsp (by trivial)
      have X3 := Lib.hid (X2.out.below b3)
      have HR3 := Lib.hid (HR2.out.below b3)
      clear b3 X2 HR2 HS2
      cases f3 with
      | false =>
        have HN := Lib.hid (HS.out.leave HI.out (fun r r1 r2 => by rw [HFe.out]; exact (hsp.no rfl).2 r r1 r2))
        clear hsp
        go_wp2_with fail
        go_roundw
        case rel => exact ⟨i + 1, f, p, long, o, oa, oc, by omega, rfl, by go_num, HN, X3⟩
        case measure => simp [intOf]; omega
      | true =>
        obtain ⟨a1, a2, a3, a4⟩ := hsp.yes rfl
        have HN := Lib.hid (HS.out.take HI.out a1 a2 (by rw [HFe.out]; exact a3) (fun r r1 r2 => by rw [HFe.out]; exact a4 r r1 r2))
        have d1 : IntKind.i64.wrap (q3 - 1) = q3 - 1 := IntWalk.i64_in _ (by omega)
        clear hsp a3 a4 a1 a2
        have c0 : w3.cell? ⟨w.heap.size + 2, 0, none⟩ = some (.int .i64 p) := box_cell X3.out.fast 0 _ rfl
        have c1 : w3.cell? ⟨w.heap.size + 2, 1, none⟩ = some (.slice oa o.length oc) := box_cell X3.out.fast 1 _ rfl
        have c2 : w3.cell? ⟨w.heap.size + 2, 2, none⟩ = some (.slice none 0 0) := box_cell X3.out.fast 2 _ rfl
        have c3 : w3.cell? ⟨w.heap.size + 2, 3, none⟩ = some (.slice none 0 0) := box_cell X3.out.fast 3 _ rfl
        have z0 : w3.frozen? ⟨w.heap.size + 2, 0, none⟩ = false := box_fz X3.out.fast 0
        have z1 : w3.frozen? ⟨w.heap.size + 2, 1, none⟩ = false := box_fz X3.out.fast 1
        have z2 : w3.frozen? ⟨w.heap.size + 2, 2, none⟩ = false := box_fz X3.out.fast 2
        have z3 : w3.frozen? ⟨w.heap.size + 2, 3, none⟩ = false := box_fz X3.out.fast 3
        have hlz : w.heap.size + 2 < w3.heap.size := lt_of_block X3.out.fast
        go_upto_region 9 with (fail)
        have HNb := Lib.hid (show ∀ W, W = ((((w3.setCell ⟨w.heap.size + 2, 0, none⟩ (.int .i64 q3)).setCell ⟨w.heap.size + 2, 1, none⟩ (.slice (some ⟨r, 0, none⟩) o'.length o'.length)).setCell ⟨w.heap.size + 2, 2, none⟩ (.slice none 0 0)).setCell ⟨w.heap.size + 2, 3, none⟩ (.slice none 0 0)) →
            BeAt w c a k (some ⟨b, off, none⟩) qc q3 o' (some ⟨r, 0, none⟩) o'.length W from fun W hW => by
          have hg : w3.grownBy W (some (w.heap.size + 2)) := by subst hW; exact grown_trans (grown_trans (grown_trans (grown_set _ _ _) (grown_set _ _ _)) (grown_set _ _ _)) (grown_set _ _ _)
          have hc : Ch (fun i => i = w.heap.size + 2) w3 W := Ch.grown hg (fun i e => by injection e with e; exact e.symm)
          have hbl := X3.out.bel.grown hg X3.out.bel.size (fun i e => by injection e with e; omega)
          refine ⟨(hc.block _ (lt_of_block X3.out.tool) (by omega)).trans X3.out.tool, (hc.block _ (lt_of_block X3.out.res) (by omega)).trans X3.out.res, ?_, X3.out.ords.ch hc (fun x hx => HQ2.out x hx) (fun i h1 h2 => by omega), HR3.out.ch hc (fun x hx => by injection hx with hx; subst hx; have := HFr.out; simp only; omega), fun x hx => (by injection hx with hx; subst hx; exact HFr.out), hbl⟩
          subst hW
          exact block_set (o := 3) (block_set (o := 2) (block_set (o := 1) (block_set (o := 0) X3.out.fast _) _) _) _)
        clear c0 c1 c2 c3 z0 z1 z2 z3 hlz HFr HR3 X3
        generalize ((((w3.setCell ⟨w.heap.size + 2, 0, none⟩ (.int .i64 q3)).setCell ⟨w.heap.size + 2, 1, none⟩ (.slice (some ⟨r, 0, none⟩) o'.length o'.length)).setCell ⟨w.heap.size + 2, 2, none⟩ (.slice none 0 0)).setCell ⟨w.heap.size + 2, 3, none⟩ (.slice none 0 0)) = w4 at *
        have X4 := Lib.hid (HNb.out w4 rfl)
        clear HNb
        go_wp2_with fail
        go_roundw
        case rel => exact ⟨i + 1, true, q3, q3 - 1, o', some ⟨r, 0, none⟩, o'.length, by omega, rfl, by go_num, HN, X4⟩
        case measure => simp [intOf]; omega
    · have i1 : ¬ (i : Int) < ((ordersT c).length : Int) := by omega
      have HAll := Lib.hid (HS.out.all (show i = (ordersT c).length by omega))
      have c0 : wr.cell? ⟨w.heap.size + 2, 0, none⟩ = some (.int .i64 p) := box_cell HX.out.fast 0 _ rfl
      cases f with
      | false =>
        obtain ⟨-, rfl, -⟩ := HS.out.no rfl
        have HNo := Lib.hid (HAll.out.1 rfl)
        have e1 : ((0 : Int) == 0) = true := by decide
        have r0 : wr.cell? ⟨w.heap.size + 1, 0, none⟩ = some (.int .i64 0) := box_cell HX.out.res 0 _ rfl
        have f0 : wr.frozen? ⟨w.heap.size + 1, 0, none⟩ = false := box_fz HX.out.res 0
        have r1 : wr.cell? ⟨w.heap.size + 1, 1, none⟩ = some (.slice none 0 0) := box_cell HX.out.res 1 _ rfl
        have f1 : wr.frozen? ⟨w.heap.size + 1, 1, none⟩ = false := box_fz HX.out.res 1
        have r2 : wr.cell? ⟨w.heap.size + 1, 2, none⟩ = some (.slice none 0 0) := box_cell HX.out.res 2 _ rfl
        have f2 : wr.frozen? ⟨w.heap.size + 1, 2, none⟩ = false := box_fz HX.out.res 2
        have r3 : wr.cell? ⟨w.heap.size + 1, 3, none⟩ = some (.slice none 0 0) := box_cell HX.out.res 3 _ rfl
        have f3 : wr.frozen? ⟨w.heap.size + 1, 3, none⟩ = false := box_fz HX.out.res 3
        have lr : w.heap.size + 1 < wr.heap.size := lt_of_block HX.out.res
        have HB4 := Lib.hid (show ∀ W, wr.grownBy W (some (w.heap.size + 1)) → Below w.heap.size w W from fun W hg => HX.out.bel.grown hg HX.out.bel.size (fun i e => by injection e with e; omega))
        clear HAll HS HX
        go_wp2_with fail
        have hg := grown_trans (grown_trans (grown_trans (grown_set (w := wr) (w.heap.size + 1) 0 (.int .i64 0)) (grown_set _ 1 (.slice none 0 0))) (grown_set _ 2 (.slice none 0 0))) (grown_set _ 3 (.slice none 0 0))
        refine bodyPost_ret (v := .tuple #[.agg #[.int .i64 0, .slice none 0 0, .slice none 0 0, .slice none 0 0], .int .i64 130]) ?_ rfl ?_
        · rw [results_cell_tmp rfl]; simp [go_sem, r0, r1, r2, r3]
        · exact ⟨false, ⟨0, [], [], []⟩, none, none, none, 0, 0, 0, rfl, RowA.nil _ _ _, RowA.nil _ _ _, RowA.nil _ _ _, HB4.out _ hg, fun _ => ⟨HNo.out, rfl⟩, fun h => (by cases h)⟩
      | true =>
        have hbest := HAll.out.2 rfl
        have HBst := Lib.hid hbest
        have hpb := hbest.bd
        have e1 : (p == 0) = false := by rw [beq_eq_false_iff_ne]; omega
        obtain ⟨t0, t1, t2, t3, t4⟩ := toolC_of HX.out.tool
        have c1 : wr.cell? ⟨w.heap.size + 2, 1, none⟩ = some (.slice oa o.length oc) := box_cell HX.out.fast 1 _ rfl
        have c2 : wr.cell? ⟨w.heap.size + 2, 2, none⟩ = some (.slice none 0 0) := box_cell HX.out.fast 2 _ rfl
        have c3 : wr.cell? ⟨w.heap.size + 2, 3, none⟩ = some (.slice none 0 0) := box_cell HX.out.fast 3 _ rfl
        have HPr := Lib.hid (proved_any c p o (okT_of hbest.mem) (ord_of hbest.mem) hpb a oa k oc wr (HC.out.below HX.out.bel) HX.out.row)
        have HPs := Lib.hid (show (provedS c p o).p = p from rfl)
        unfold SchP at HPr
        clear hbest HAll HS
        go_wp2_with fail
        refine HPr.out.mono ?_
        rintro _ w5 ⟨sa5, qa5, sc5, qc5, rfl, h1, h2, h3, b5, k1, k2⟩
        have X5 := Lib.hid (HX.out.below b5)
        have hl3 : w.heap.size + 2 < wr.heap.size := lt_of_block HX.out.fast
        have HFin := Lib.hid (show ∀ W, w5.grownBy W (some (w.heap.size + 1)) → IntsA W oa oc (provedS c p o).o ∧ IntsA W sa5 sc5 (provedS c p o).s ∧ IntsA W qa5 qc5 (provedS c p o).q ∧ Below w.heap.size w W from fun W hg => by
          have hc : Ch (fun i => i = w.heap.size + 1) w5 W := Ch.grown hg (fun i e => by injection e with e; exact e.symm)
          exact ⟨h1.ch hc (fun x hx => by have := HX.out.far x hx; omega), h2.ch hc (fun x hx => by have := k1 x hx; omega), h3.ch hc (fun x hx => by have := k2 x hx; omega), X5.out.bel.grown hg X5.out.bel.size (fun i e => by injection e with e; omega)⟩)
        have r0 : w5.cell? ⟨w.heap.size + 1, 0, none⟩ = some (.int .i64 0) := box_cell X5.out.res 0 _ rfl
        have f0 : w5.frozen? ⟨w.heap.size + 1, 0, none⟩ = false := box_fz X5.out.res 0
        have r1 : w5.cell? ⟨w.heap.size + 1, 1, none⟩ = some (.slice none 0 0) := box_cell X5.out.res 1 _ rfl
        have f1 : w5.frozen? ⟨w.heap.size + 1, 1, none⟩ = false := box_fz X5.out.res 1
        have r2 : w5.cell? ⟨w.heap.size + 1, 2, none⟩ = some (.slice none 0 0) := box_cell X5.out.res 2 _ rfl
        have f2 : w5.frozen? ⟨w.heap.size + 1, 2, none⟩ = false := box_fz X5.out.res 2
        have r3 : w5.cell? ⟨w.heap.size + 1, 3, none⟩ = some (.slice none 0 0) := box_cell X5.out.res 3 _ rfl
        have f3 : w5.frozen? ⟨w.heap.size + 1, 3, none⟩ = false := box_fz X5.out.res 3
        have lr : w.heap.size + 1 < w5.heap.size := lt_of_block X5.out.res
        clear h1 h2 h3 b5 k1 k2 HX X5 c0 c1 c2 c3 t0 t1 t2 t3 t4 HPr
        have HEx := Lib.hid (show ∃ p' o', BestIs c p' o' ∧ provedS c p o = provedS c p' o' from ⟨p, o, HBst.out, rfl⟩)
        generalize provedS c p o = sch at *
        obtain ⟨sp, so, ss, sq⟩ := sch
        simp only at HFin HPs
        go_wp2_with fail
        have hg := grown_trans (grown_trans (grown_trans (grown_set (w := w5) (w.heap.size + 1) 0 (.int .i64 sp)) (grown_set _ 1 (.slice oa so.length oc))) (grown_set _ 2 (.slice sa5 ss.length sc5))) (grown_set _ 3 (.slice qa5 sq.length qc5))
        obtain ⟨h1, h2, h3, h4⟩ := HFin.out _ hg
        refine bodyPost_ret (v := .tuple #[.agg #[.int .i64 sp, .slice oa so.length oc, .slice sa5 ss.length sc5, .slice qa5 sq.length qc5], .int .i64 0]) ?_ rfl ?_
        · rw [results_cell_tmp rfl]; simp [go_sem, r0, r1, r2, r3]
        · exact ⟨true, ⟨sp, so, ss, sq⟩, oa, sa5, qa5, oc, sc5, qc5, rfl, h1, h2, h3, h4, fun h => (by cases h), fun _ => HEx.out⟩
end Go.Proofs.Ytiolmcnngpaapaa
