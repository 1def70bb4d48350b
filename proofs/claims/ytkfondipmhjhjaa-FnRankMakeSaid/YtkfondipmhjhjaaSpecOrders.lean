/- The contracts of spec.l2Value, spec.ValueOrders and spec.ValueTrace. -/
import Derived.Test.YtkfondipmhjhjaaOrders
namespace Go.Proofs.Ytkfondipmhjhjaa
open Go.RowKit Go.Deep

set_option maxHeartbeats 1000000 in
theorem l2Value_any (a : Option Addr) (cap n : Nat) (l : List (List Int)) (hn : l.length = n) (hT : TabIn l) (hm : (l.getD 0 []).length = n) (w : World) (hmat : MatR w a l) :
    Calls Try.prog 68 #[.slice a n cap] w fun e w' => e = .returned (.int .i64 (ordF l n n 0)) ∧ Drawn w w' := by
  have E := Lib.hid (l2Orders_any a cap n l hn hT hm n 0 0 (Nat.zero_add _) (by omega) w hmat)
  clear hmat hT hm hn
  go_enter Try.func68, Try.ntmps68
  go_wp2_with fail
  refine (E.out).mono ?_
  rintro e w1 ⟨rfl, hd⟩
  go_wp2
  go_ret
  exact ⟨rfl, hd⟩

/-- A number and whether there is one. -/
def SpecV (w : World) (ok : Bool) (x : Int) (e : Ending) (w' : World) : Prop := e = .returned (.tuple #[.int .i64 (if ok then x else 0), .bool ok]) ∧ Drawn w w'

/-- The sum of the middle. -/
def trF (l : List (List Int)) (i : Nat) : Int := at2 l i i

set_option maxHeartbeats 2000000 in
theorem specValueTrace_any (a : Option Addr) (cap n : Nat) (l : List (List Int)) (w : World) (hn : l.length = n) (hsz : szL l ≤ 1048576) (hm : MatR w a l) :
    Calls Try.prog 32 #[.slice a n cap] w (SpecV w (sqB l) (sumN (trF l) n)) := by
  have E := l2Square_any a cap n l w hn hsz hm
  cases hs : sqB l with
  | false =>
    rw [hs] at E
    replace E := Lib.hid E
    clear hs hm hn hsz
    go_enter Try.func32, Try.ntmps32
    go_wp2_with fail
    refine (E.out).mono ?_
    rintro e w1 ⟨rfl, hd⟩
    go_wp2
    go_ret2
    exact ⟨rfl, hd⟩
  | true =>
    rw [hs] at E
    replace E := Lib.hid E
    obtain ⟨hT, hw⟩ := sqB_of hs
    have hmm : (l.getD 0 []).length = n := by rw [← hw, hn]
    have h6 := hT.2.1
    rw [hn] at h6
    have hbd : ∀ k, k ≤ n → -(k * 30 : Int) ≤ sumN (trF l) k ∧ sumN (trF l) k ≤ k * 30 := fun k hk => sumN_bdB k (fun j hj => hT.at (by omega) (by omega))
    obtain ⟨b, o, A, C, rfl, hrow, hcell⟩ := hm.grid hn hT hmm
    have HC := Lib.hid hcell
    have HB := Lib.hid hbd
    clear hs hm hn hsz hT hw hmm hrow hcell hbd
    go_enter Try.func32, Try.ntmps32
    go_wp2_with fail
    refine (E.out).mono ?_
    rintro e w1 ⟨rfl, hd⟩
    have HD := Lib.hid hd
    clear hd
    go_wp2
    go_loopg [4, 5] n (fun g s k wr => ∃ q : Nat, q ≤ n ∧ g = n - q ∧ k = .int .i64 q ∧ s = .int .i64 (sumN (trF l) q) ∧ Drawn w wr)
    case atStart => exact ⟨0, Nat.zero_le _, rfl, rfl, rfl, HD.out⟩
    case round =>
      obtain ⟨q, hq, rfl, rfl, rfl, hD⟩ := hrel
      obtain ⟨s0, hs0⟩ : ∃ s, s = sumN (trF l) q := ⟨_, rfl⟩
      rw [← hs0]
      by_cases hlt : q < n
      · obtain ⟨b', o', e1, e2, e3, e4⟩ := HC.out q q hlt hlt
        rw [← hD.cell] at e1 e2
        have hsb := HB.out q hq
        rw [← hs0] at hsb
        have e : sumN (trF l) (q + 1) = s0 + at2 l q q := by rw [hs0]; rfl
        obtain ⟨y, hy⟩ : ∃ y, y = at2 l q q := ⟨_, rfl⟩
        rw [← hy] at e e2 e3 e4
        have hw : IntKind.i64.wrap (s0 + y) = s0 + y := IntWalk.i64_in _ ⟨by omega, by omega⟩
        have HE := Lib.hid e
        clear hs0 e hy
        go_wp2
        go_roundg (n - (q + 1))
        case measure => omega
        case rel => exact ⟨q + 1, by omega, rfl, by go_num, by rw [HE.out], hD⟩
      · have hqn : n = q := by omega
        subst hqn
        go_wp2
        go_ret2
        exact ⟨by rw [hs0]; rfl, hD⟩

end Go.Proofs.Ytkfondipmhjhjaa
