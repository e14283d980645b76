/-
  How the laws on Run begin: what Made and Chosen leave stands as Run's arguments.
-/
import Derived.Test.YtngpkipblcihaaaMw
import Derived.Test.YtngpkipblcihaaaSa
import Derived.Test.YtngpkipblcihaaaChw
import Derived.Deep.DeepCutAuto
namespace Go.Proofs.Ytngpkipblcihaaa
open Go.RowKit

theorem made_ok {w : World} {B : Nat} {p : Pl.Plan} {sa wa : Option Addr} {sc wc : Nat} (h1 : StO w B (.slice sa p.st.length sc) p.st) (h2 : WnO w B (.slice wa p.wn.length wc) p.wn) : PlanP.ok ⟨p, sa, sc, wa, wc⟩ w := by
  obtain ⟨a1, c1, e1, k1, -⟩ := RowO.arg stage_len h1
  injection e1 with e1 _ e2
  obtain ⟨a2, c2, e3, k2, -⟩ := RowO.arg win_len h2
  injection e3 with e3 _ e4
  subst e1; subst e2; subst e3; subst e4
  exact ⟨k1, k2⟩
theorem scen_ok {w : World} {B : Nat} {s : Pl.Scen} {da ma : Option Addr} {dc mc : Nat} (h1 : IntsO w B (.slice da s.dur.length dc) s.dur) (h2 : IntsO w B (.slice ma s.mv.length mc) s.mv) : ScenP.ok ⟨s, da, dc, ma, mc⟩ w := by
  obtain ⟨a1, c1, e1, k1, -⟩ := RowO.arg int_len h1
  injection e1 with e1 _ e2
  obtain ⟨a2, c2, e3, k2, -⟩ := RowO.arg int_len h2
  injection e3 with e3 _ e4
  subst e1; subst e2; subst e3; subst e4
  exact ⟨k1, k2⟩
end Go.Proofs.Ytngpkipblcihaaa
