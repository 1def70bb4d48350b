/- The contracts of spec.l5Rows and spec.PairRows. -/
import Derived.Test.YtpimdgijjljejaaPairV
import Derived.Test.YtpimdgijjljejaaMinorV
namespace Go.Proofs.Ytpimdgijjljejaa
open Go.RowKit Go.Deep

/-- The square without its first row and column and those of k. -/
def restL (l : List (List Int)) (n k : Nat) : List (List Int) := partL l (2 ^ n - 2 - 2 ^ k) (2 ^ n - 2 - 2 ^ k)
/-- What l5Rows returns of a square of n rows. -/
def pfR : Nat → List (List Int) → Int
  | 0, _ => 1
  | 1, _ => 0
  | n + 2, l => sumN (fun k => if k = 0 then 0 else sg (k + 1) (at2 l 0 k * pfR n (restL l (n + 2) k))) (n + 2)
theorem pfR_two (n : Nat) (l : List (List Int)) : pfR (n + 2) l = sumN (fun k => if k = 0 then 0 else sg (k + 1) (at2 l 0 k * pfR n (restL l (n + 2) k))) (n + 2) := rfl
theorem rest_fin : ∀ n : Fin 7, ∀ k : Fin 6, 1 ≤ k.val → k.val < n.val → bits BinOp.andNot IntKind.i64 (bits BinOp.andNot IntKind.i64 ((2 ^ n.val - 1 : Nat) : Int) 1) (2 ^ k.val) = ((2 ^ n.val - 2 - 2 ^ k.val : Nat) : Int) ∧
    2 ^ n.val - 2 - 2 ^ k.val < 2 ^ n.val ∧ popcS (2 ^ n.val - 2 - 2 ^ k.val) + 2 = n.val ∧ bits BinOp.andNot IntKind.i64 ((2 ^ n.val - 1 : Nat) : Int) 1 = ((2 ^ n.val - 2 : Nat) : Int) ∧ bits BinOp.andNot IntKind.i64 ((2 ^ n.val - 2 : Nat) : Int) (2 ^ k.val) = ((2 ^ n.val - 2 - 2 ^ k.val : Nat) : Int) := by decide +kernel
theorem rest_sq {n : Nat} {l : List (List Int)} (h : SqD (n + 2) l) {k : Nat} (h1 : 1 ≤ k) (hk : k < n + 2) : SqD n (restL l (n + 2) k) := by
  obtain ⟨hT, hm⟩ := h.2 (by omega)
  have hl := h.1
  have h6 := hT.2.1
  obtain ⟨_, r2, r3, _⟩ := rest_fin ⟨n + 2, by omega⟩ ⟨k, by omega⟩ h1 hk
  simp only at r2 r3
  have := part_sq hT (s := 2 ^ (n + 2) - 2 - 2 ^ k) (c := 2 ^ (n + 2) - 2 - 2 ^ k) (by rw [hl]; exact r2) (by rw [hm]; exact r2) rfl
  rw [show popcS (2 ^ (n + 2) - 2 - 2 ^ k) = n by omega] at this
  exact this
theorem pfR_bd : ∀ (n : Nat) (l : List (List Int)), SqD n l → -(p180 n) ≤ pfR n l ∧ pfR n l ≤ p180 n
  | 0, _, _ => by simp [pfR, p180]
  | 1, _, _ => by simp [pfR, p180]
  | n + 2, l, h => by
    obtain ⟨hT, hm⟩ := h.2 (by omega)
    have hl := h.1
    have h6 := hT.2.1
    have hp := p180_pos n
    have hp2 : p180 (n + 2) = 180 * (180 * p180 n) := rfl
    have h1 := sumN_bdB (f := fun k => if k = 0 then 0 else sg (k + 1) (at2 l 0 k * pfR n (restL l (n + 2) k))) (B := 30 * p180 n) (n + 2) (fun k hk => by
      show _ ≤ (if k = 0 then (0 : Int) else _) ∧ (if k = 0 then (0 : Int) else _) ≤ _
      by_cases h0 : k = 0
      · rw [if_pos h0]; omega
      · rw [if_neg h0]
        have ih := pfR_bd n _ (rest_sq h (by omega) hk)
        have hb := hT.at (i := 0) (k := k) (by omega) (by omega)
        exact sg_bd (mul_bdB hb.1 hb.2 ih.1 ih.2))
    have h2 : ((n + 2 : Nat) : Int) * (30 * p180 n) ≤ 6 * (30 * p180 n) := Int.mul_le_mul_of_nonneg_right (by omega) (by omega)
    rw [pfR_two]
    omega

/-- One term. -/
def pfT (l : List (List Int)) (n k : Nat) : Int := if k = 0 then 0 else sg (k + 1) (at2 l 0 k * pfR n (restL l (n + 2) k))
theorem pfS_bd {n : Nat} {l : List (List Int)} (h : SqD (n + 2) l) {q : Nat} (hq : q ≤ n + 2) : -(180 * p180 n) ≤ sumN (pfT l n) q ∧ sumN (pfT l n) q ≤ 180 * p180 n := by
  obtain ⟨hT, hm⟩ := h.2 (by omega)
  have hl := h.1
  have h6 := hT.2.1
  have hp := p180_pos n
  have h1 := sumN_bdB (f := pfT l n) (B := 30 * p180 n) q (fun k hk => by
    unfold pfT
    by_cases h0 : k = 0
    · rw [if_pos h0]; omega
    · rw [if_neg h0]
      have ih := pfR_bd n _ (rest_sq h (by omega) (show k < n + 2 by omega))
      have hb := hT.at (i := 0) (k := k) (by omega) (by omega)
      exact sg_bd (mul_bdB hb.1 hb.2 ih.1 ih.2))
  have h2 : (q : Int) * (30 * p180 n) ≤ 6 * (30 * p180 n) := Int.mul_le_mul_of_nonneg_right (by omega) (by omega)
  omega

set_option maxRecDepth 100000 in
set_option maxHeartbeats 4000000 in
theorem l5Rows_any : ∀ (n : Nat), n ≤ 6 → ∀ (l : List (List Int)) (a : Option Addr) (cap : Nat) (W : World), SqD n l → MatR W a l → Calls Try.prog 38 #[.slice a n cap] W fun e w' => e = .returned (.int .i64 (pfR n l)) ∧ W.Since W.heap.size w'
  | 0, _, l, a, cap, W, _, _ => by
    show Calls _ _ _ _ fun e w' => e = .returned (.int .i64 1) ∧ _
    go_enter Try.func38, Try.ntmps38
    go_wp2
    go_ret
    exact ⟨rfl, World.Since.refl _ _⟩
  | 1, _, l, a, cap, W, _, _ => by
    show Calls _ _ _ _ fun e w' => e = .returned (.int .i64 0) ∧ _
    go_enter Try.func38, Try.ntmps38
    go_wp2
    go_loopg [3, 5, 6, 7] 0 (fun g s k _ _ wr => g = 0 ∧ k = .int .i64 1 ∧ s = .int .i64 0 ∧ W = wr)
    case atStart => exact ⟨rfl, rfl, rfl, rfl⟩
    case round =>
      obtain ⟨rfl, rfl, rfl, rfl⟩ := hrel
      go_wp2
      go_ret
      exact ⟨rfl, World.Since.refl _ _⟩
  | d + 2, hd6, l, a, cap, W, hsq, hmat => by
    have ih := l5Rows_any d (by omega)
    obtain ⟨hT, hm⟩ := hsq.2 (by omega)
    have hl := hsq.1
    have hrs := fun k (h1 : 1 ≤ k) (hk : k < d + 2) => rest_sq hsq h1 hk
    have hbd := fun k (h1 : 1 ≤ k) (hk : k < d + 2) => pfR_bd d _ (rest_sq hsq h1 hk)
    have hsb := fun q (hq : q ≤ d + 2) => pfS_bd hsq hq
    have hp1 := p180_pos d
    have hp2 := p180_le d (by omega)
    show Calls _ _ _ _ fun e w' => e = .returned (.int .i64 (sumN (pfT l d) (d + 2))) ∧ _
    have hFT : ∀ k, 1 ≤ k → pfT l d k = sg (k + 1) (at2 l 0 k * pfR d (restL l (d + 2) k)) := fun k hk => if_neg (by omega)
    have hF0 : sumN (pfT l d) 1 = 0 := rfl
    obtain ⟨F, hF⟩ : ∃ F, pfT l d = F := ⟨_, rfl⟩
    simp only [hF] at hsb hFT hF0 ⊢
    have hfin := fun (q : Nat) (h1 : 1 ≤ q) (hq : q < d + 2) => rest_fin ⟨d + 2, by omega⟩ ⟨q, by omega⟩ h1 hq
    simp only at hfin
    obtain ⟨n, hn⟩ : ∃ n, n = d + 2 := ⟨_, rfl⟩
    simp only [← hn] at hsb hrs hbd hm hl hFT hfin ⊢
    have hn1 : 2 ≤ n ∧ n ≤ 6 := by omega
    have e1 := pow_wrap n hn1.2
    have e64 : 2 ^ n ≤ 64 := Nat.pow_le_pow_right (n := 2) (by omega) hn1.2
    have hrl : ∀ k, restL l n k = partL l (2 ^ n - 2 - 2 ^ k) (2 ^ n - 2 - 2 ^ k) := fun k => rfl
    obtain ⟨Aa, hA⟩ : ∃ A, 2 ^ n - 1 = A := ⟨_, rfl⟩
    obtain ⟨B, hB⟩ : ∃ B, 2 ^ n - 2 = B := ⟨_, rfl⟩
    rw [hA] at e1
    simp only [hA, hB] at hfin
    simp only [hB] at hrl
    obtain ⟨b, o, A, C, rfl, hrow, hcell⟩ := hmat.grid hl hT hm
    have HC := Lib.hid hcell
    have HIH := Lib.hid (fun (L : List (List Int)) (a2 : Option Addr) (c2 : Nat) (V : World) (h1 : SqD d L) (h2 : MatR V a2 L) => ih L a2 c2 V h1 h2)
    have HPART := Lib.hid (fun (c : Nat) (hc : c ≤ 63) (V : World) (h : W.Since W.heap.size V) => l1Part_any (some ⟨b, o, none⟩) cap n c c l V hl hT hc hc (hmat.since h))
    have HRS := Lib.hid hrs
    have HRL := Lib.hid hrl
    have HBD := Lib.hid hbd
    have HSB := Lib.hid hsb
    have HFT := Lib.hid hFT
    have HF0 := Lib.hid hF0
    have HFIN := Lib.hid hfin
    have hn0 : 0 < n := by omega
    have hne : ((n : Int) == 0) = false := by simp; omega
    clear hmat hrow hcell ih hrs hrl hbd hsb hFT hF0 hfin hA hB hsq hm hl hF hn hd6
    go_enter Try.func38, Try.ntmps38
    go_wp2
    rw [e1]
    go_loopg [3, 5, 6, 7] (n - 1) (fun g s k _ _ wr => ∃ q : Nat, 1 ≤ q ∧ q ≤ n ∧ g = n - q ∧ k = .int .i64 q ∧ s = .int .i64 (sumN F q) ∧ W.Since W.heap.size wr)
    case atStart => exact ⟨1, Nat.le_refl _, by omega, rfl, rfl, by rw [HF0.out], World.Since.refl _ _⟩
    case round =>
      obtain ⟨q, hq1, hq, rfl, rfl, rfl, hS⟩ := hrel
      obtain ⟨s0, hs0⟩ : ∃ s, s = sumN F q := ⟨_, rfl⟩
      rw [← hs0]
      by_cases hlt : q < n
      · obtain ⟨b', o', c1, c2, c3, c4⟩ := HC.out 0 q hn0 hlt
        rw [Nat.add_zero] at c1
        have q1 := (hS.cell (a := ⟨b, o, none⟩) (World.block_lt_of_cell? _ _ c1)).trans c1
        have q0 := (hS.cell (a := ⟨b', o' + q, none⟩) (World.block_lt_of_cell? _ _ c2)).trans c2
        have l1 : b < wr.heap.size := World.block_lt_of_cell? _ _ q1
        have l0 : b' < wr.heap.size := World.block_lt_of_cell? _ _ q0
        obtain ⟨_, f2, f3, f4, f5⟩ := HFIN.out q hq1 hlt
        obtain ⟨y, hy⟩ : ∃ y, y = at2 l 0 q := ⟨_, rfl⟩
        rw [← hy] at q0 c3 c4
        have hLs := HRS.out q hq1 hlt
        have hfb := HBD.out q hq1 hlt
        have hLp := HRL.out q
        have hFq := HFT.out q hq1
        obtain ⟨L, hL⟩ : ∃ L, restL l n q = L := ⟨_, rfl⟩
        rw [hL] at hLs hfb hLp hFq
        obtain ⟨Cq, hCq⟩ : ∃ c, B - 2 ^ q = c := ⟨_, rfl⟩
        rw [hCq] at f5 hLp f2
        have hCl : Cq ≤ 63 := by omega
        have hLl := hLs.1
        obtain ⟨g2, hg2⟩ : ∃ f, pfR d L = f := ⟨_, rfl⟩
        rw [hg2] at hfb hFq
        have hxb := mul_bdB c3 c4 hfb.1 hfb.2
        have hwx : IntKind.i64.wrap (y * g2) = y * g2 := IntWalk.i64_in _ ⟨by omega, by omega⟩
        have hwq := pow_in ⟨q, by omega⟩
        simp only at hwq
        have hmq : min q 64 = q := by omega
        have EP := fun (V : World) (h : W.Since W.heap.size V) => HPART.out Cq hCl V h
        simp only [← hLp, hLl] at EP
        replace EP := Lib.hid EP
        have ER := fun (a2 : Option Addr) (c2 : Nat) (V : World) (h : MatR V a2 L) => HIH.out L a2 c2 V hLs h
        simp only [hg2] at ER
        replace ER := Lib.hid ER
        have e : sumN F (q + 1) = s0 + sg (q + 1) (y * g2) := by
          show sumN F q + F q = _
          rw [← hs0, hFq, ← hy]
        have hsb := HSB.out (q + 1) (by omega)
        rw [e] at hsb
        have HE := Lib.hid e
        have HS := Lib.hid hS
        clear e hs0 hy hCq hL hLp hLs hLl hg2 hfb hS c1 c2 c3 c4 f2 f3 hFq
        go_wp2
        go_region_held3 (fun w' => w'.cell? ⟨b, o, none⟩ = some (.slice (some ⟨b', o', none⟩) n (C 0)) ∧ w'.cell? ⟨b', o' + q, none⟩ = some (.int .i64 y))
          (first | exact ⟨q1, q0⟩)
          (first
            | (go_at_call 61; refine (EP.out _ (HS.out.drew)).mono ?_; rintro e w2 ⟨a2, k2, rfl, hs2, hi2⟩; have hs2 := since_of_drew hs2; have q1 := (hs2.cell (a := ⟨b, o, none⟩) l1).trans q1; have q0 := (hs2.cell (a := ⟨b', o' + q, none⟩) l0).trans q0; have l1 : b < w2.heap.size := World.block_lt_of_cell? _ _ q1; have l0 : b' < w2.heap.size := World.block_lt_of_cell? _ _ q0; have HS2 := Lib.hid (HS.out.trans (since_mono hs2 HS.out.size)); have HI2 := Lib.hid hi2.matR; clear hs2 hi2)
            | (go_at_call 38; refine (ER.out a2 k2 w2 HI2.out).mono ?_; rintro e w3 ⟨rfl, hs3⟩; have q1 := (hs3.cell (a := ⟨b, o, none⟩) l1).trans q1; have q0 := (hs3.cell (a := ⟨b', o' + q, none⟩) l0).trans q0; have HS3 := Lib.hid (HS2.out.trans (since_mono hs3 HS2.out.size)); clear hs3))
        clear q1 q0 l1 l0
        by_cases hodd : q % 2 = 0
        · have ho : ((q : Int) % 2 == 0) = true := by simp; omega
          have e0 : sg (q + 1) (y * g2) = -(y * g2) := by unfold sg; rw [if_pos (by omega)]
          rw [e0] at hsb
          have w1 : IntKind.i64.wrap (0 - y * g2) = -(y * g2) := (IntWalk.i64_in _ ⟨by omega, by omega⟩).trans (by omega)
          have w2' : IntKind.i64.wrap (-(y * g2)) = -(y * g2) := IntWalk.i64_in _ ⟨by omega, by omega⟩
          have w3' : IntKind.i64.wrap (s0 + -(y * g2)) = s0 + -(y * g2) := IntWalk.i64_in _ ⟨by omega, by omega⟩
          go_wp2
          go_roundg (n - (q + 1))
          case measure => omega
          case rel => exact ⟨q + 1, by omega, by omega, rfl, by go_num, by rw [HE.out, e0], HS3.out⟩
        · have ho : ((q : Int) % 2 == 0) = false := by simp; omega
          have e0 : sg (q + 1) (y * g2) = y * g2 := by unfold sg; rw [if_neg (by omega)]
          rw [e0] at hsb
          have w3' : IntKind.i64.wrap (s0 + y * g2) = s0 + y * g2 := IntWalk.i64_in _ ⟨by omega, by omega⟩
          go_wp2
          go_roundg (n - (q + 1))
          case measure => omega
          case rel => exact ⟨q + 1, by omega, by omega, rfl, by go_num, by rw [HE.out, e0], HS3.out⟩
      · have hqn : n = q := by omega
        rw [hs0]
        subst hqn
        go_wp2
        go_ret
        exact ⟨rfl, hS⟩

set_option maxHeartbeats 1000000 in
theorem specPairRows_any (a : Option Addr) (cap n : Nat) (l : List (List Int)) (w : World) (hn : l.length = n) (hsz : szL l ≤ 1048576) (hm : MatR w a l) :
    Calls Try.prog 17 #[.slice a n cap] w (SpecW w (pairB l) (pfR n l)) := by
  have E := specPairIn_any a cap n l w hn hsz hm
  cases hs : pairB l with
  | false =>
    rw [hs] at E
    replace E := Lib.hid E
    clear hs hm hn hsz
    go_enter Try.func17, Try.ntmps17
    go_wp2_with fail
    refine (E.out).mono ?_
    rintro e w1 ⟨rfl, hd⟩
    have HD := Lib.hid (hd.since w.heap.size)
    clear hd
    go_wp2
    go_ret2
    exact ⟨rfl, HD.out⟩
  | true =>
    rw [hs] at E
    replace E := Lib.hid E
    obtain ⟨hT, hw, _⟩ := pairB_of hs hn
    have h6 := hT.2.1
    rw [hn] at h6
    have E2 := Lib.hid (fun (W : World) (hd : w.Since w.heap.size W) => l5Rows_any n h6 l a cap W ⟨hn, fun _ => ⟨hT, hw⟩⟩ (hm.since hd))
    clear hs hm hn hsz hT hw
    go_enter Try.func17, Try.ntmps17
    go_wp2_with fail
    refine (E.out).mono ?_
    rintro e w1 ⟨rfl, hd⟩
    have HD := Lib.hid (hd.since w.heap.size)
    clear hd
    go_wp2_with fail
    refine (E2.out w1 HD.out).mono ?_
    rintro e w2 ⟨rfl, hs2⟩
    have HS2 := Lib.hid (HD.out.trans (since_mono hs2 HD.out.size))
    clear hs2
    go_wp2
    go_ret2
    exact ⟨rfl, HS2.out⟩

end Go.Proofs.Ytpimdgijjljejaa
