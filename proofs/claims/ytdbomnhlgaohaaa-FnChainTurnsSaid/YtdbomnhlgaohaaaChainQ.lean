/- Chapter 9: the contracts of spec.l9Pairs and spec.ChainPairs. -/
import Derived.Test.YtdbomnhlgaohaaaChainV
namespace Go.Proofs.Ytdbomnhlgaohaaa
open Go.RowKit Go.Deep

theorem CelR.sub {w : World} {b o : Nat} {f : Nat → Int} {m : Nat} (h : ∀ i, i < m → w.cell? ⟨b, o + i, none⟩ = some (.int .i64 (f i))) (W : World) (hs : w.Since w.heap.size W) (t q k : Nat) (hq : q = o + t ∨ k = 0) (hk : k + t ≤ m) : CelR W (some ⟨b, q, none⟩) (fun i => f (i + t)) k := fun h0 => ⟨b, q, rfl, fun i hi => by
  obtain rfl : q = o + t := by omega
  have := h (i + t) (by omega)
  rw [show o + t + i = o + (i + t) by omega]
  exact (hs.cell (World.block_lt_of_cell? _ _ this)).trans this⟩

set_option maxRecDepth 100000 in
set_option maxHeartbeats 1000000 in
theorem l9Pairs_any : ∀ (m : Nat) (a : Option Addr) (cap : Nat) (f : Nat → Int) (w : World), m ≤ 7 → m ≤ cap → cap ≤ 9223372036854775807 → (∀ j, -9 ≤ f j ∧ f j ≤ 9) → CelR w a f m →
    Calls Try.prog 56 #[.slice a m cap] w fun e w' => e = .returned (.int .i64 (kf f m)) ∧ w.Since w.heap.size w'
  | 0, a, cap, f, w, _, _, _, _, _ => by
    go_enter Try.func56, Try.ntmps56
    go_wp2
    go_ret
    exact ⟨rfl, World.Since.refl _ _⟩
  | 1, a, cap, f, w, h7, hcap, hc63, hf, hm => by
    obtain ⟨b, o, rfl, hc⟩ := hm (by omega)
    have IH := Lib.hid (fun (W : World) (q c : Nat) (h2 : c ≤ 9223372036854775807) => l9Pairs_any 0 (some ⟨b, q, none⟩) c (fun i => f (i + 1)) W (by omega) (Nat.zero_le _) h2 (fun j => hf (j + 1)) fun h => absurd h (Nat.lt_irrefl _))
    have c0 := hc 0 (by omega)
    have hf0 := hf 0
    obtain ⟨y, hy⟩ : ∃ y, f 0 = y := ⟨_, rfl⟩
    rw [show kf f 1 = f 0 from rfl]
    rw [hy] at c0 hf0 ⊢
    rw [Nat.add_zero] at c0
    rw [show kf (fun i => f (i + 1)) 0 = 1 from rfl] at IH
    have HS := Lib.hid (World.Since.refl w.heap.size w)
    have hwy : IntKind.i64.wrap y = y := IntWalk.i64_in _ ⟨by omega, by omega⟩
    clear hc hm hy hf
    rcases Nat.lt_or_eq_of_le (show 1 ≤ cap by omega) with hc1 | rfl
    · have hc2 : ¬ cap = 1 := by omega
      go_enter Try.func56, Try.ntmps56
      go_wp2_with fail
      go_region_held3 (fun w' => w'.cell? ⟨b, o, none⟩ = some (.int .i64 y)) (first | exact c0 | exact c4)
        (first | (go_at_call 56; refine (IH.out _ _ _ (by omega)).mono ?_; rintro e w1 ⟨rfl, hs1⟩; have c4 := (hs1.cell (a := ⟨b, o, none⟩) (World.block_lt_of_cell? _ _ c0)).trans c0; have HS1 := Lib.hid hs1; clear hs1))
      all_goals
        go_wp2_with fail
        go_ret
        exact ⟨rfl, HS.out.trans (since_mono (since_of_drew HS1.out) HS.out.size)⟩
    · clear hcap hc63
      go_enter Try.func56, Try.ntmps56
      go_wp2_with fail
      go_region_held3 (fun w' => w'.cell? ⟨b, o, none⟩ = some (.int .i64 y)) (first | exact c0 | exact c4)
        (first | (go_at_call 56; refine (IH.out _ _ _ (by omega)).mono ?_; rintro e w1 ⟨rfl, hs1⟩; have c4 := (hs1.cell (a := ⟨b, o, none⟩) (World.block_lt_of_cell? _ _ c0)).trans c0; have HS1 := Lib.hid hs1; clear hs1))
      all_goals
        go_wp2_with fail
        go_ret
        exact ⟨rfl, HS.out.trans (since_mono (since_of_drew HS1.out) HS.out.size)⟩
  | n + 2, a, cap, f, w, h7, hcap, hc63, hf, hm => by
    obtain ⟨b, o, rfl, hc⟩ := hm (by omega)
    have IH1 := Lib.hid (fun (W : World) (hs : w.Since w.heap.size W) => l9Pairs_any (n + 1) (some ⟨b, o + 1, none⟩) (cap - 1) (fun i => f (i + 1)) W (by omega) (by omega) (by omega) (fun j => hf (j + 1)) (CelR.sub hc W hs 1 (o + 1) (n + 1) (.inl rfl) (by omega)))
    have IH2 := Lib.hid (fun (W : World) (hs : w.Since w.heap.size W) (q c : Nat) (hq : q = o + 2 ∨ n = 0) (h1 : n ≤ c) (h2 : c ≤ 9223372036854775807) => l9Pairs_any n (some ⟨b, q, none⟩) c (fun i => f (i + 2)) W (by omega) h1 h2 (fun j => hf (j + 2)) (CelR.sub hc W hs 2 q n hq (by omega)))
    have c0 := hc 0 (by omega)
    rw [Nat.add_zero] at c0
    have hf0 := hf 0
    have bP := kf_lt (f := fun i => f (i + 1)) (fun j => hf (j + 1)) (n := n + 1) (by omega)
    have bQ := kf_lt (f := fun i => f (i + 2)) (fun j => hf (j + 2)) (n := n) (by omega)
    have bR := kf_lt hf (n := n + 2) (by omega)
    have hsum := kf_first f n
    obtain ⟨y, hy⟩ : ∃ y, f 0 = y := ⟨_, rfl⟩
    obtain ⟨p, hp⟩ : ∃ p, kf (fun i => f (i + 1)) (n + 1) = p := ⟨_, rfl⟩
    obtain ⟨q, hq⟩ : ∃ q, kf (fun i => f (i + 2)) n = q := ⟨_, rfl⟩
    obtain ⟨r, hr⟩ : ∃ r, kf f (n + 2) = r := ⟨_, rfl⟩
    obtain ⟨z, hz⟩ : ∃ z, y * p = z := ⟨_, rfl⟩
    rw [hy] at c0 hf0 hsum
    rw [hp] at bP hsum IH1
    rw [hq] at bQ hsum IH2
    rw [hr] at bR hsum ⊢
    have hm9 := mul9 (b := p) hf0 (c := 10000000) bP
    rw [hz] at hm9 hsum
    have hw1 : wrap64 (y * p) = z := by rw [hz]; unfold wrap64; omega
    have hw1' : IntKind.i64.wrap (y * p) = z := by rw [hz]; exact IntWalk.i64_in _ ⟨by omega, by omega⟩
    have hw2 : wrap64 (z + q) = r := by rw [← hsum]; unfold wrap64; omega
    have hw2' : IntKind.i64.wrap (z + q) = r := by rw [← hsum]; exact IntWalk.i64_in _ ⟨by omega, by omega⟩
    have HS := Lib.hid (World.Since.refl w.heap.size w)
    have hb0 : (0 : Int) < (n : Int) + 2 := by omega
    have hb1 : (1 : Int) ≤ (n : Int) + 2 := by omega
    have hb2 : (2 : Int) ≤ (n : Int) + 2 := by omega
    have hb3 : (n : Int) + 2 ≤ (cap : Int) := by omega
    have hb4 : ¬ cap = 1 := by omega
    have hb5 : (1 : Int) < (n : Int) + 2 := by omega
    have hb6 : (0 : Int) ≤ (n : Int) := by omega
    clear hc hm hy hf hp hq hr hz hsum
    rcases Nat.lt_or_eq_of_le (show 2 ≤ cap by omega) with hc1 | rfl
    · have hc2 : ¬ cap = 2 := by omega
      go_enter Try.func56, Try.ntmps56
      go_wp2_with fail
      go_region_held3 (fun w' => w'.cell? ⟨b, o, none⟩ = some (.int .i64 y)) (first | exact c0 | exact c4)
        (first | (go_at_call 56; refine (IH1.out _ HS.out.drew).mono ?_; rintro e w1 ⟨rfl, hs1⟩; have c4 := (hs1.cell (a := ⟨b, o, none⟩) (World.block_lt_of_cell? _ _ c0)).trans c0; have HS1 := Lib.hid (HS.out.trans (since_mono (since_of_drew hs1) HS.out.size)); clear hs1))
      all_goals
        go_wp2_with fail
        refine (IH2.out _ HS1.out _ _ (by first | exact .inr rfl | exact .inr trivial | omega) (by omega) (by omega)).mono ?_
        rintro e w2 ⟨rfl, hs2⟩
        go_wp2
        go_ret
        exact ⟨rfl, HS1.out.trans (since_mono hs2 HS1.out.size)⟩
    · obtain rfl : n = 0 := by omega
      clear hcap hc63
      go_enter Try.func56, Try.ntmps56
      go_wp2_with fail
      go_region_held3 (fun w' => w'.cell? ⟨b, o, none⟩ = some (.int .i64 y)) (first | exact c0 | exact c4)
        (first | (go_at_call 56; refine (IH1.out _ HS.out.drew).mono ?_; rintro e w1 ⟨rfl, hs1⟩; have c4 := (hs1.cell (a := ⟨b, o, none⟩) (World.block_lt_of_cell? _ _ c0)).trans c0; have HS1 := Lib.hid (HS.out.trans (since_mono (since_of_drew hs1) HS.out.size)); clear hs1))
      all_goals
        go_wp2_with fail
        refine (IH2.out _ HS1.out _ _ (by first | exact .inr rfl | exact .inr trivial | omega) (by omega) (by omega)).mono ?_
        rintro e w2 ⟨rfl, hs2⟩
        go_wp2
        go_ret
        exact ⟨rfl, HS1.out.trans (since_mono hs2 HS1.out.size)⟩

set_option maxHeartbeats 1000000 in
theorem specChainPairs_any (a : Option Addr) (cap m : Nat) (x : List Int) (w : World) (hn : x.length = m) (hc : m ≤ cap) (h63 : cap ≤ 9223372036854775807) (hm : RowR w a x) :
    Calls Try.prog 25 #[.slice a m cap] w fun e w' => e = .returned (.tuple #[.int .i64 (if l9B x = true then chV x else 0), .bool (l9B x)]) ∧ w.Since w.heap.size w' := by
  have E := l9Chain_any a cap m x w hn (by omega) hm
  cases hok : l9B x with
  | false =>
    rw [hok] at E
    replace E := Lib.hid E
    clear hok hm hn
    go_enter Try.func25, Try.ntmps25
    go_wp2_with fail
    refine (E.out).mono ?_
    rintro e w' ⟨rfl, rfl⟩
    go_wp2
    go_ret2
    exact ⟨rfl, World.Since.refl _ _⟩
  | true =>
    rw [hok] at E
    have h6 := (l9B_of hok).2
    have h9 := l9B_all9 hok
    have E2 := l9Pairs_any m a cap (fun i => x.getD i 0) w (by omega) hc h63 h9 (by rw [← hn]; exact CelR.row hm)
    rw [show kf (fun i => x.getD i 0) m = chV x by unfold chV; rw [hn]] at E2
    replace E := Lib.hid E
    replace E2 := Lib.hid E2
    clear hok hm hn h6 h9
    go_enter Try.func25, Try.ntmps25
    go_wp2_with fail
    refine (E.out).mono ?_
    rintro e w' ⟨rfl, rfl⟩
    go_wp2_with fail
    refine (E2.out).mono ?_
    rintro e w' ⟨rfl, hs⟩
    go_wp2
    go_ret2
    exact ⟨rfl, hs⟩
end Go.Proofs.Ytdbomnhlgaohaaa
