/- The contract of impl.TableSwap. -/
import Derived.Test.YtpimdgijjljejaaSwapped
import Derived.Test.YtpimdgijjljejaaPartTab
import Derived.Test.YtpimdgijjljejaaAddImpl
namespace Go.Proofs.Ytpimdgijjljejaa
open Go.RowKit Go.Deep


/-- Does TableSwap succeed? -/
noncomputable def swapOk (l : List (List Int)) (i k : Int) : Bool := tabIn l && (rowB i l.length && rowB k l.length)
theorem swapOk_tab {l : List (List Int)} {i k : Int} (h : swapOk l i k = true) : TabIn (swapL l i.toNat k.toNat) := by
  unfold swapOk at h
  rw [Bool.and_eq_true, Bool.and_eq_true] at h
  obtain ⟨i, rfl, hi⟩ := rowB_of h.2.1
  obtain ⟨k, rfl, hk⟩ := rowB_of h.2.2
  exact swapL_tab (tabIn_of h.1) hi hk
theorem szL_swapOk (l : List (List Int)) (i k : Int) (h : swapOk l i k = true) : szL (swapL l i.toNat k.toNat) ≤ 1048576 := szL_tab (swapOk_tab h)



end Go.Proofs.Ytpimdgijjljejaa
