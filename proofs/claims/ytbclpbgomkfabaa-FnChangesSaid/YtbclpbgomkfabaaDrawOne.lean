/- The contract of spec.l6Open, and of what draws one table. -/
import Derived.Test.YtbclpbgomkfabaaSome
namespace Go.Proofs.Ytbclpbgomkfabaa
open Go.RowKit Go.Deep

set_option maxHeartbeats 1000000 in
theorem l6Open_any (a : Option Addr) (nb cb : Nat) (w : World) (hc : nb ≤ cb) (h63 : cb ≤ 9223372036854775807) (hb : BytR w a nb) :
    Calls Try.prog 56 #[.slice a nb cb] w fun e w' => ∃ n' c', e = .returned (.pointer (some ⟨w.heap.size, 0, none⟩)) ∧ w.Since w.heap.size w' ∧ w'.heap.size = w.heap.size + 1 ∧ RD w w' w.heap.size a n' c' 103 0 := by
  by_cases hl : 2000 < nb
  · have hl' : decide ((2000 : Int) < (nb : Int)) = true := by simp; omega
    have h2 : (2000 : Int) ≤ (cb : Int) := by omega
    obtain ⟨b, o, rfl, hcell⟩ := hb (by omega)
    go_enter Try.func56, Try.ntmps56
    go_wp2
    go_ret
    exact ⟨_, _, rfl, (World.Since.refl _ _).alloc (Nat.le_refl _) _, by simp, ⟨heap_alloc_new _ _, Nat.le_refl _, (World.Since.refl _ _).alloc (Nat.le_refl _) _, fun _ => ⟨b, o, rfl, fun i hi => hcell i (by omega)⟩, by omega⟩⟩
  · have hl' : decide ((2000 : Int) < (nb : Int)) = false := by simp; omega
    go_enter Try.func56, Try.ntmps56
    go_wp2
    go_ret
    exact ⟨_, _, rfl, (World.Since.refl _ _).alloc (Nat.le_refl _) _, by simp, ⟨heap_alloc_new _ _, Nat.le_refl _, (World.Since.refl _ _).alloc (Nat.le_refl _) _, hb, by omega⟩⟩

/-- A call has drawn a table. -/
def DrawnT (w w' : World) (R K : Nat) (a : Option Addr) (l : List (List Int)) : Prop :=
  1 ≤ l.length ∧ l.length ≤ R ∧ (∀ j, j < l.length → 1 ≤ (l.getD j []).length ∧ (l.getD j []).length ≤ K + 1) ∧ InT w.heap.size w'.heap.size w' a l

set_option maxHeartbeats 1000000 in
theorem l91One_any (a : Option Addr) (nb cb : Nat) (w : World) (hc : nb ≤ cb) (h63 : cb ≤ 9223372036854775807) (hb : BytR w a nb) :
    Calls Try.prog 73 #[.slice a nb cb] w fun e w' => ∃ a' cap l, e = .returned (.slice a' l.length cap) ∧ w.Since w.heap.size w' ∧ DrawnT w w' 5 5 a' l := by
  have E := Lib.hid (l6Open_any a nb cb w hc h63 hb)
  clear hb
  go_enter Try.func73, Try.ntmps73
  go_wp2_with fail
  refine (E.out).mono ?_
  rintro e w1 ⟨n', c', rfl, hs, hz, hd⟩
  have HD := Lib.hid hd
  clear hd
  go_wp2_with fail
  refine (l91Some_any w w1 w.heap.size n' c' 0 5 5 a HD.out (by omega) (by omega) (by omega) (by omega) (by omega)).mono ?_
  rintro e w2 ⟨a', cap', l, p', rfl, hg, hd2, hp, h1, h5, hl, hit⟩
  go_wp2
  go_ret
  exact ⟨a', cap', l, rfl, hs.trans (since_grown hg (Nat.le_refl _) hs.size), h1, h5, hl, hit.mono hs.size (Nat.le_refl _)⟩

end Go.Proofs.Ytbclpbgomkfabaa
