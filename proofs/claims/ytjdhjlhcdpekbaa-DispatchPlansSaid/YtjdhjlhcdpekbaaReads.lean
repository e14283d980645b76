/-
  Contracts of Busy, Len, slices.Clone (at bookings), List and New.
-/
import Derived.Test.YtjdhjlhcdpekbaaSearch
import Derived.WalkSpells
import Derived.Lib.SliceRun
namespace Go.Proofs.Ytjdhjlhcdpekbaa
open Go.RowKit Go.Shelf

theorem CalAt.row {B : Nat} {c : CalP} {K : Kal.Kal} {w : World} (h : CalAt B c K w) {i : Nat} (hi : i < 60) : ∃ a m, c.V i = .slice a (K i).length m ∧ BkA w a m (K i) := by
  obtain ⟨a, m, e, h1, _⟩ := (h.rows i hi).arg
  exact ⟨a, m, e, h1⟩

/-- What Busy looks at. -/
theorem busy_at {l : List Kal.Bk} {s e : Int} (hs : Kal.Srt l) (hse : s < e) : Kal.busy l s e = Kal.nextB l[Kal.fb l s]? e := by
  unfold Kal.busy; rw [decide_eq_true hse, Bool.true_and, Kal.busy_next hs]
theorem Busy_none (p : Value) (t s e : Int) (w : World) (h : ¬ s < e) : Calls Try.prog 40 #[p, .int .i64 t, .int .i64 s, .int .i64 e] w fun r w' => r = .returned (.bool false) ∧ w = w' := by
  go_enter Try.func40, Try.ntmps40
  go_wp2_with fail
  go_ret
  exact ⟨rfl, rfl⟩
set_option maxRecDepth 100000 in
theorem Busy_row (p : Value) (t s e : Int) (w : World) (l : List Kal.Bk) (a : Option Addr) (m : Nat) (hse : s < e) (hr : BkA w a m l) (hs : Kal.Srt l) (hl : l.length ≤ 1000000)
    (hlist : Calls Try.prog 56 #[p, .int .i64 t] w fun r w' => r = .returned (.slice a l.length m) ∧ w = w') :
    Calls Try.prog 40 #[p, .int .i64 t, .int .i64 s, .int .i64 e] w fun r w' => r = .returned (.bool (Kal.busy l s e)) ∧ Below w.heap.size w w' := by
  have HB := Lib.hid (firstBehind_any l a m s w hr hs hl)
  have HL := Lib.hid hlist
  have HV := Lib.hid (busy_at hs hse)
  have hk := Kal.fb_le l s
  have HA := Lib.hid hr
  rw [HV.out]
  clear hlist hs hr
  generalize Kal.fb l s = k at *
  by_cases hlt : k < l.length
  · obtain ⟨b, off, rfl, hb, hc⟩ := HA.out.at (by omega)
    have c1 := (hc k hlt).2.1
    rw [show l[k]? = some l[k] by simp [hlt]]
    unfold Kal.nextB
    simp only
    clear hc HA HV
    generalize l[k].s = x at *
    generalize l.length = n at *
    go_enter Try.func40, Try.ntmps40
    go_wp2_with fail
    refine HL.out.mono ?_; rintro _ w1 ⟨rfl, rfl⟩
    go_wp2_with fail
    refine HB.out.mono ?_; rintro _ w1 ⟨rfl, g1⟩
    have c1 := cell_below g1 c1
    have G1 := Lib.hid g1; clear g1
    go_wp2_with fail
    go_ret
    exact ⟨rfl, G1.out⟩
  · rw [show l[k]? = none by simp; omega]
    unfold Kal.nextB
    simp only
    generalize l.length = n at *
    clear HA HV
    go_enter Try.func40, Try.ntmps40
    go_wp2_with fail
    refine HL.out.mono ?_; rintro _ w1 ⟨rfl, rfl⟩
    go_wp2_with fail
    refine HB.out.mono ?_; rintro _ w1 ⟨rfl, g1⟩
    have G1 := Lib.hid g1; clear g1
    go_wp2_with fail
    go_ret
    exact ⟨rfl, G1.out⟩
theorem busy_no (l : List Kal.Bk) {s e : Int} (h : ¬ s < e) : Kal.busy l s e = false := by unfold Kal.busy; simp [h]
/-- Is a tool busy? -/
def busyK (K : Kal.Kal) (t s e : Int) : Bool := Kal.isTool t && Kal.busy (K t.toNat) s e
theorem Busy_any {B : Nat} {c : CalP} {K : Kal.Kal} {w : World} (t s e : Int) (h : CalAt B c K w) :
    Calls Try.prog 40 #[c.ptr, .int .i64 t, .int .i64 s, .int .i64 e] w fun r w' => r = .returned (.bool (busyK K t s e)) ∧ Below w.heap.size w w' := by
  by_cases hse : s < e
  · cases ht : Kal.isTool t with
    | false =>
      refine (Busy_row c.ptr t s e w [] none 0 hse (BkA.nil _) Kal.Srt.nil (by simp) (list_no t h ht)).mono fun _ _ ⟨h1, h2⟩ => ⟨?_, h2⟩
      rw [h1]; unfold busyK; rw [ht]; unfold Kal.busy Kal.anyHits; simp
    | true =>
      have ht' := ht
      unfold Kal.isTool at ht'
      simp only [Bool.and_eq_true, decide_eq_true_eq] at ht'
      obtain ⟨k, rfl⟩ : ∃ k : Nat, t = k := ⟨t.toNat, by omega⟩
      have hk : k < 60 := by omega
      obtain ⟨a, m, e1, hr⟩ := h.row hk
      have HL := list_yes k h hk
      rw [e1] at HL
      refine (Busy_row c.ptr k s e w (K k) a m hse hr (h.ok.srt k hk) (h.ok.len hk) HL).mono fun _ _ ⟨h1, h2⟩ => ⟨?_, h2⟩
      rw [h1]; unfold busyK; rw [ht]; simp
  · refine (Busy_none c.ptr t s e w hse).mono fun _ _ ⟨h1, h2⟩ => ⟨?_, by rw [← h2]; exact Below.refl _ _⟩
    rw [h1]; unfold busyK; rw [busy_no _ hse]; simp
theorem Busy_nil (t s e : Int) (w : World) : Calls Try.prog 40 #[.pointer none, .int .i64 t, .int .i64 s, .int .i64 e] w fun r w' => r = .returned (.bool false) ∧ Below w.heap.size w w' := by
  by_cases hse : s < e
  · refine (Busy_row (.pointer none) t s e w [] none 0 hse (BkA.nil _) Kal.Srt.nil (by simp) (list_nil t w)).mono fun _ _ ⟨h1, h2⟩ => ⟨?_, h2⟩
    rw [h1]; unfold Kal.busy Kal.anyHits; simp
  · exact (Busy_none _ t s e w hse).mono fun _ _ ⟨h1, h2⟩ => ⟨h1, by rw [← h2]; exact Below.refl _ _⟩

set_option maxRecDepth 100000 in
set_option maxHeartbeats 1000000 in
theorem Len_any {B : Nat} {c : CalP} {K : Kal.Kal} {w : World} (h : CalAt B c K w) :
    Calls Try.prog 34 #[c.ptr] w fun e w' => e = .returned (.int .i64 ((Kal.all K).length : Int)) ∧ w = w' := by
  have HN := Lib.hid (isNil_no h)
  have hc := h.cells.1
  have H := Lib.hid h
  unfold Kal.all
  obtain ⟨C, T, V⟩ := c
  clear h
  go_enter Try.func34, Try.ntmps34
  go_wp2_with fail
  refine HN.out.mono ?_; rintro _ w1 ⟨rfl, rfl⟩
  go_wp2_with fail
  go_loop [3, 13] (fun n i => ∃ k : Nat, k ≤ 60 ∧ n = .int .i64 ((Kal.upTo K k).length : Int) ∧ i = .int .i64 (k : Int)) (fun _ i => 60 - (intOf i).toNat)
  case atStart => exact ⟨0, by omega, by simp [Kal.upTo], rfl⟩
  case round =>
    obtain ⟨k, hk, rfl, rfl⟩ := hrel
    by_cases hlt : k < 60
    · obtain ⟨a, m, e1, hr⟩ := H.out.row hlt
      have hv := (H.out.cells.2 k hlt).1
      simp only at e1 hv
      rw [e1] at hv
      have h1 := Kal.upTo_len H.out.ok k hk
      have h2 := H.out.ok.len hlt
      have HS := Lib.hid (show (Kal.upTo K (k + 1)).length = (Kal.upTo K k).length + (K k).length by rw [Kal.upTo_succ, List.length_append])
      clear e1 hr
      generalize (Kal.upTo K k).length = x at *
      generalize (K k).length = y at *
      go_wp2_with fail
      go_round
      case rel => exact ⟨k + 1, by omega, by rw [HS.out]; go_num, by go_num⟩
      case measure => simp [intOf]; omega
    · obtain rfl : k = 60 := by omega
      go_wp2_with fail
      go_ret
      exact ⟨rfl, rfl⟩
theorem Len_nil (w : World) : Calls Try.prog 34 #[.pointer none] w fun e w' => e = .returned (.int .i64 0) ∧ w = w' := by
  go_enter Try.func34, Try.ntmps34
  go_wp2_with fail
  refine (isNil_nil _).mono ?_; rintro _ w1 ⟨rfl, rfl⟩
  go_wp2_with fail
  go_ret
  exact ⟨rfl, rfl⟩

/-- A new row of bookings. -/
def NewRow (w : World) (l : List Kal.Bk) (e : Ending) (w' : World) : Prop := ∃ v, e = .returned v ∧ BkOwn w' w.heap.size v l ∧ Below w.heap.size w w'
theorem sClone_nil (w : World) : Calls Try.prog 55 #[.slice none 0 0] w fun e w' => e = .returned (.slice none 0 0) ∧ w = w' := by
  have hq := fun (W : World) => Lib.run_eql_slice_nil (P := Try.prog) W 31 36 none 0 0 0 0 Try.underlying31
  go_enter Try.func55, Try.ntmps55
  go_wp2_with fail
  go_ret
  exact ⟨rfl, rfl⟩
set_option maxRecDepth 100000 in
set_option maxHeartbeats 1000000 in
theorem sClone_any (v : Value) (l : List Kal.Bk) (B : Nat) (w : World) (h : BkOwn w B v l) (hl : l.length ≤ 1000000) : Calls Try.prog 55 #[v] w (NewRow w l) := by
  rcases h.2 with ⟨rfl, h0⟩ | ⟨g, cap, cur, rfl, h2, h3, h4, h5, h6, h7⟩
  · obtain rfl : l = [] := List.eq_nil_of_length_eq_zero h0
    exact (sClone_nil w).mono fun _ _ ⟨h1, h2⟩ => ⟨_, h1, by rw [← h2]; exact BkOwn.nil _ _, by rw [← h2]; exact Below.refl _ _⟩
  · have hc := h.cells (g := g) rfl
    have HC := Lib.hid (show ∀ j u, (bkRow l)[j]? = some u → (w.alloc (.cells #[] 36)).cell? ((⟨g, 0, none⟩ : Addr).add j) = some u from fun j u hu => cell_below (below_new _ _) (hc j u hu))
    have HO := Lib.hid (World.ownsRow_made (base := w.heap.size) (e := 36) (size := 4) w #[] 0 (Nat.le_refl _) (by decide) rfl)
    obtain ⟨i0, hi, hz0, hz1, hz2⟩ := info_parts info_booking
    have hrl := bkRow_length l
    have HR := Lib.hid hrl
    clear h h2 h3 h4 h5 h6 h7 hc hrl
    unfold NewRow
    have hq := fun (W : World) => Lib.run_eql_slice_nil (P := Try.prog) W 31 36 (some ⟨g, 0, none⟩) l.length cap 0 0 Try.underlying31
    go_enter Try.func55, Try.ntmps55
    go_wp2_with (at_builtin; refine wpList_append_own _ rfl _ _ 31 rfl w.heap.size 36 i0 _ 4 32 Try.underlying31 hi hz0 hz1 hz2 rfl (by decide) _ _ _ rfl HO.out ⟨g, 0, none⟩ l.length cap (bkRow l) rfl HR.out ?c1 ?c2 ?c3 ?c4 ?c5 ?_)
    case c1 => exact HC.out
    case c2 => exact fun u hu => bkRow_one u l hu
    case c3 => unfold maxLen; omega
    case c4 => omega
    case c5 => simp
    intro v' w3 hown' hgrow _
    have O3 := Lib.hid hown'
    have G3 := Lib.hid ((below_new w (.cells #[] 36)).grown hgrow (by simp) (fun k hk => by injection hk with hk; rw [← hk]; exact Nat.le_refl _))
    clear hown' hgrow hq
    go_wp2_with fail
    go_ret
    exact ⟨_, rfl, O3.out, G3.out⟩

theorem List_any {B : Nat} {c : CalP} {K : Kal.Kal} {w : World} (t : Int) (h : CalAt B c K w) :
    Calls Try.prog 32 #[c.ptr, .int .i64 t] w (NewRow w (if Kal.isTool t = true then K t.toNat else [])) := by
  have key : ∀ (v : Value) (l : List Kal.Bk), Calls Try.prog 56 #[c.ptr, .int .i64 t] w (fun r w' => r = .returned v ∧ w = w') → BkOwn w B v l → l.length ≤ 1000000 → Calls Try.prog 32 #[c.ptr, .int .i64 t] w (NewRow w l) := by
    intro v l hlist ho hl
    have HL := Lib.hid hlist
    have HC := Lib.hid (sClone_any v l B w ho hl)
    clear hlist ho h
    unfold NewRow at *
    obtain ⟨C, T, V⟩ := c
    go_enter Try.func32, Try.ntmps32
    go_wp2_with fail
    refine HL.out.mono ?_; rintro _ w1 ⟨rfl, rfl⟩
    go_wp2_with fail
    refine HC.out.mono ?_; rintro _ w1 ⟨v', rfl, o1, g1⟩
    have O1 := Lib.hid o1; have G1 := Lib.hid g1; clear o1 g1
    go_wp2_with fail
    go_ret
    exact ⟨_, rfl, O1.out, G1.out⟩
  cases ht : Kal.isTool t with
  | false => rw [if_neg (by decide)]; exact key _ _ (list_no t h ht) (BkOwn.nil _ _) (by simp)
  | true =>
    rw [if_pos rfl]
    unfold Kal.isTool at ht
    simp only [Bool.and_eq_true, decide_eq_true_eq] at ht
    obtain ⟨k, rfl⟩ : ∃ k : Nat, t = k := ⟨t.toNat, by omega⟩
    have hk : k < 60 := by omega
    exact key _ _ (list_yes k h hk) (h.rows k hk) (h.ok.len hk)
theorem List_nil (t : Int) (w : World) : Calls Try.prog 32 #[.pointer none, .int .i64 t] w (NewRow w []) := by
  unfold NewRow
  go_enter Try.func32, Try.ntmps32
  go_wp2_with fail
  refine (list_nil t w).mono ?_; rintro _ w1 ⟨rfl, rfl⟩
  go_wp2_with fail
  refine (sClone_nil _).mono ?_; rintro _ w1 ⟨rfl, rfl⟩
  go_wp2_with fail
  go_ret
  exact ⟨_, rfl, BkOwn.nil _ _, Below.refl _ _⟩

/-- A new calendar. -/
def newP (w : World) : CalP := ⟨w.heap.size + 1, w.heap.size, fun _ => .slice none 0 0⟩
theorem newP_at {w w' : World} (h1 : w'.heap[w.heap.size]? = some (.cells (tabCells fun _ => .slice none 0 0) 111)) (h2 : w'.heap[w.heap.size + 1]? = some (.cells #[.pointer (some ⟨w.heap.size, 0, none⟩)] 101)) : CalAt w.heap.size (newP w) Kal.empty w' :=
  ⟨h2, h1, fun i hi => BkOwn.nil _ _, fun i j k _ _ h _ => by simp [newP, Value.ownBlock] at h, Kal.Ok.empty, Nat.le_succ _, Nat.le_refl _⟩
set_option maxRecDepth 100000 in
theorem New_any (w : World) : Calls Try.prog 37 #[] w fun e w' => e = .returned (newP w).ptr ∧ CalAt w.heap.size (newP w) Kal.empty w' ∧ Below w.heap.size w w' := by
  go_enter Try.func37, Try.ntmps37
  go_wp2_with fail
  go_ret
  refine ⟨rfl, ?_, ((Below.refl _ _).alloc (Nat.le_refl _) _).alloc (by simp) _⟩
  refine newP_at ?_ ?_
  · exact (Below.heap_alloc (w.alloc (.cells (tabCells fun _ => .slice none 0 0) 111)) _ w.heap.size (by simp)).trans (heap_alloc_new w _)
  · have := heap_alloc_new (w.alloc (.cells (tabCells fun _ => .slice none 0 0) 111)) (.cells #[.pointer (some ⟨w.heap.size, 0, none⟩)] 101)
    rw [show (w.alloc (.cells (tabCells fun _ => .slice none 0 0) 111)).heap.size = w.heap.size + 1 by simp] at this
    exact this
end Go.Proofs.Ytjdhjlhcdpekbaa

