/- Chapter 9: the contract of spec.ChainParts. -/
import Derived.Test.YtdbomnhlgaohaaaChainQ
import Derived.Test.YtdbomnhlgaohaaaOwnR
namespace Go.Proofs.Ytdbomnhlgaohaaa
open Go.RowKit Go.Deep

/-- The value without the first number, and without both ends. -/
def kT (f : Nat → Int) : Nat → Int
  | 0 => 0
  | n + 1 => kf (fun i => f (i + 1)) n
def kD (f : Nat → Int) : Nat → Int
  | 0 => 0
  | n + 1 => kP (fun i => f (i + 1)) n
def paL (f : Nat → Int) (m : Nat) : List Int := [kf f m, kP f m, kT f m, kD f m]
def resR (ok : Bool) (M : List Int) : List Int := if ok then M else []
theorem in4 (w : World) (p q r s : Int) : InR w.heap.size (w.alloc (.cells #[.int .i64 p, .int .i64 q, .int .i64 r, .int .i64 s] 3)).heap.size (w.alloc (.cells #[.int .i64 p, .int .i64 q, .int .i64 r, .int .i64 s] 3)) (some ⟨w.heap.size, 0, none⟩) [p, q, r, s] := fun _ => ⟨w.heap.size, 0, rfl, ⟨Nat.le_refl _, by simp⟩, fun i hi => by
  have hb := World.alloc_heap_new w (.cells #[.int .i64 p, .int .i64 q, .int .i64 r, .int .i64 s] 3)
  unfold World.cell?
  simp only [List.length_cons, List.length_nil] at hi
  rw [hb]
  match i, hi with
  | 0, _ => rfl
  | 1, _ => rfl
  | 2, _ => rfl
  | 3, _ => rfl
  | i + 4, h => omega⟩

set_option maxRecDepth 100000 in
set_option maxHeartbeats 2000000 in
theorem specChainParts_ok (a : Option Addr) (cap m : Nat) (x : List Int) (w : World) (hn : x.length = m) (hc : m ≤ cap) (h63 : cap ≤ 9223372036854775807) (hm : RowR w a x) (hok : l9B x = true) :
    Calls Try.prog 28 #[.slice a m cap] w fun e w' => ∃ g, e = .returned (.tuple #[.slice (some ⟨g, 0, none⟩) 4 4, .bool true]) ∧ w.Since w.heap.size w' ∧ InR w.heap.size w'.heap.size w' (some ⟨g, 0, none⟩) (paL (fun i => x.getD i 0) m) := by
  have E := l9Chain_any a cap m x w hn (by omega) hm
  rw [hok] at E
  replace E := Lib.hid E
  have h6 := (l9B_of hok).2
  have h9 := l9B_all9 hok
  obtain ⟨f, hf⟩ : ∃ f : Nat → Int, f = fun i => x.getD i 0 := ⟨_, rfl⟩
  have hm' : CelR w a f m := by rw [hf, ← hn]; exact CelR.row hm
  rw [← hf]
  have h9' : ∀ j, -9 ≤ f j ∧ f j ≤ 9 := fun j => by rw [hf]; exact h9 j
  have E0 := Lib.hid (l9Value_any a cap m f w (by omega) h9' hm')
  rw [hn] at h6
  clear hok hm hn h9 hf
  by_cases h0 : m = 0
  · subst h0
    clear hm' h9' h6 hc
    rw [show kf f 0 = 1 from rfl] at E0
    rw [show paL f 0 = [1, 0, 0, 0] from rfl]
    go_enter Try.func28, Try.ntmps28
    go_wp2_with fail
    refine (E.out).mono ?_
    rintro e w' ⟨rfl, rfl⟩
    go_wp2_with fail
    refine (E0.out).mono ?_
    rintro e w' ⟨rfl, rfl⟩
    go_wp2
    go_ret2
    exact ⟨_, rfl, (World.Since.refl _ _).alloc (Nat.le_refl _) _, in4 w 1 0 0 0⟩
  by_cases h1 : m = 1
  · subst h1
    obtain ⟨b, o, rfl, hc1⟩ := hm' (by omega)
    have EV := Lib.hid (fun (W : World) (q c : Nat) => l9Value_any (some ⟨b, q, none⟩) c 0 (fun i => f (i + 1)) W (by omega) (fun j => h9' (j + 1)) fun h => absurd h (Nat.lt_irrefl _))
    rw [show kf (fun i => f (i + 1)) 0 = 1 from rfl] at EV
    rw [show paL f 1 = [kf f 1, 1, 1, 0] from rfl]
    obtain ⟨v, hv⟩ : ∃ v, kf f 1 = v := ⟨_, rfl⟩
    rw [hv] at E0 ⊢
    clear hm' h9' h6 hc1 hv h0
    rcases Nat.lt_or_eq_of_le (show 1 ≤ cap by omega) with hc1 | rfl
    · have hc2 : ¬ cap = 1 := by omega
      have hc3 : (1 : Int) ≤ (cap : Int) := by omega
      go_enter Try.func28, Try.ntmps28
      go_wp2_with fail
      refine (E.out).mono ?_
      rintro e w' ⟨rfl, rfl⟩
      go_wp2_with fail
      refine (E0.out).mono ?_
      rintro e w' ⟨rfl, rfl⟩
      go_wp2_with fail
      refine (EV.out _ _ _).mono ?_
      rintro e w' ⟨rfl, rfl⟩
      go_wp2_with fail
      refine (EV.out _ _ _).mono ?_
      rintro e w' ⟨rfl, rfl⟩
      go_wp2
      go_ret2
      exact ⟨_, rfl, (World.Since.refl _ _).alloc (Nat.le_refl _) _, in4 w v 1 1 0⟩
    · clear hc h63
      go_enter Try.func28, Try.ntmps28
      go_wp2_with fail
      refine (E.out).mono ?_
      rintro e w' ⟨rfl, rfl⟩
      go_wp2_with fail
      refine (E0.out).mono ?_
      rintro e w' ⟨rfl, rfl⟩
      go_wp2_with fail
      refine (EV.out _ _ _).mono ?_
      rintro e w' ⟨rfl, rfl⟩
      go_wp2_with fail
      refine (EV.out _ _ _).mono ?_
      rintro e w' ⟨rfl, rfl⟩
      go_wp2
      go_ret2
      exact ⟨_, rfl, (World.Since.refl _ _).alloc (Nat.le_refl _) _, in4 w v 1 1 0⟩
  obtain ⟨n, rfl⟩ : ∃ n, m = n + 2 := ⟨m - 2, by omega⟩
  obtain ⟨b, o, rfl, hc1⟩ := hm' (by omega)
  have EB := Lib.hid (fun (W : World) (hs : w.Since w.heap.size W) (c : Nat) => l9Value_any (some ⟨b, o, none⟩) c (n + 1) f W (by omega) h9' (CelR.sub hc1 W hs 0 o (n + 1) (.inl rfl) (by omega)))
  have EC := Lib.hid (fun (W : World) (hs : w.Since w.heap.size W) (c : Nat) => l9Value_any (some ⟨b, o + 1, none⟩) c (n + 1) (fun i => f (i + 1)) W (by omega) (fun j => h9' (j + 1)) (CelR.sub hc1 W hs 1 (o + 1) (n + 1) (.inl rfl) (by omega)))
  have ED := Lib.hid (fun (W : World) (hs : w.Since w.heap.size W) (c : Nat) => l9Value_any (some ⟨b, o + 1, none⟩) c n (fun i => f (i + 1)) W (by omega) (fun j => h9' (j + 1)) (CelR.sub hc1 W hs 1 (o + 1) n (.inl rfl) (by omega)))
  rw [show paL f (n + 2) = [kf f (n + 2), kf f (n + 1), kf (fun i => f (i + 1)) (n + 1), kf (fun i => f (i + 1)) n] from rfl]
  obtain ⟨v0, hv0⟩ : ∃ v, kf f (n + 2) = v := ⟨_, rfl⟩
  obtain ⟨v1, hv1⟩ : ∃ v, kf f (n + 1) = v := ⟨_, rfl⟩
  obtain ⟨v2, hv2⟩ : ∃ v, kf (fun i => f (i + 1)) (n + 1) = v := ⟨_, rfl⟩
  obtain ⟨v3, hv3⟩ : ∃ v, kf (fun i => f (i + 1)) n = v := ⟨_, rfl⟩
  rw [hv0] at E0
  rw [hv1] at EB
  rw [hv2] at EC
  rw [hv3] at ED
  rw [hv0, hv1, hv2, hv3]
  clear hm' h9' hc1 hv0 hv1 hv2 hv3 h0 h1
  have hb0 : (0 : Int) < (n : Int) + 2 := by omega
  have hb1 : (1 : Int) ≤ (n : Int) + 2 := by omega
  have hb2 : (n : Int) + 2 ≤ (cap : Int) := by omega
  have hb3 : (0 : Int) ≤ (n : Int) + 1 := by omega
  have hb4 : (1 : Int) ≤ (n : Int) + 1 := by omega
  have hb5 : (n : Int) + 1 ≤ (cap : Int) := by omega
  have hb6 : ¬ cap = 1 := by omega
  have hb7 : (1 : Int) < (n : Int) + 2 := by omega
  have hb8 : ¬ cap = 0 := by omega
  go_enter Try.func28, Try.ntmps28
  go_wp2_with fail
  refine (E.out).mono ?_
  rintro e w' ⟨rfl, rfl⟩
  go_wp2_with fail
  refine (E0.out).mono ?_
  rintro e w' ⟨rfl, rfl⟩
  go_wp2_with fail
  refine (EB.out _ ((World.Since.refl _ _).alloc (Nat.le_refl _) _) _).mono ?_
  rintro e w' ⟨rfl, rfl⟩
  go_wp2_with fail
  refine (EC.out _ ((World.Since.refl _ _).alloc (Nat.le_refl _) _) _).mono ?_
  rintro e w' ⟨rfl, rfl⟩
  go_wp2_with fail
  refine (ED.out _ ((World.Since.refl _ _).alloc (Nat.le_refl _) _) _).mono ?_
  rintro e w' ⟨rfl, rfl⟩
  go_wp2
  go_ret2
  exact ⟨_, rfl, (World.Since.refl _ _).alloc (Nat.le_refl _) _, in4 w v0 v1 v2 v3⟩

set_option maxHeartbeats 1000000 in
theorem specChainParts_any (a : Option Addr) (cap m : Nat) (x : List Int) (w : World) (hn : x.length = m) (hc : m ≤ cap) (h63 : cap ≤ 9223372036854775807) (hm : RowR w a x) :
    Calls Try.prog 28 #[.slice a m cap] w fun e w' => ∃ a' cap', e = .returned (.tuple #[.slice a' (resR (l9B x) (paL (fun i => x.getD i 0) m)).length cap', .bool (l9B x)]) ∧ w.Since w.heap.size w' ∧ InR w.heap.size w'.heap.size w' a' (resR (l9B x) (paL (fun i => x.getD i 0) m)) := by
  cases hok : l9B x with
  | true =>
    refine (specChainParts_ok a cap m x w hn hc h63 hm hok).mono ?_
    rintro e w' ⟨g, rfl, hs, hr⟩
    exact ⟨_, _, rfl, hs, hr⟩
  | false =>
    have E := l9Chain_any a cap m x w hn (by omega) hm
    rw [hok] at E
    replace E := Lib.hid E
    clear hok hm hn
    go_enter Try.func28, Try.ntmps28
    go_wp2_with fail
    refine (E.out).mono ?_
    rintro e w' ⟨rfl, rfl⟩
    go_wp2
    go_ret2
    exact ⟨_, _, rfl, (World.Since.refl _ _).alloc (Nat.le_refl _) _, InR.nil _ _ _ _⟩
end Go.Proofs.Ytdbomnhlgaohaaa
