import Derived.Test.YthdemjfllfhhpaaRankV
import Derived.Test.YthdemjfllfhhpaaFnPairLa
import Derived.Test.YthdemjfllfhhpaaOrdF
import Derived.Test.YthdemjfllfhhpaaBar
import Derived.Test.YthdemjfllfhhpaaTurnSpec
import Derived.Test.YthdemjfllfhhpaaSwapped
import Derived.Test.YthdemjfllfhhpaaL2Square
import Derived.Test.YthdemjfllfhhpaaMinorV
import Derived.Test.YthdemjfllfhhpaaSumSpec
import Derived.Test.YthdemjfllfhhpaaMakeEntry
import Derived.Test.YthdemjfllfhhpaaPartImpl
import Derived.Test.YthdemjfllfhhpaaOrders
import Derived.Test.YthdemjfllfhhpaaRowsV
import Derived.Test.YthdemjfllfhhpaaAddSpec
import Derived.Test.YthdemjfllfhhpaaTimesSpec
import Derived.Test.YthdemjfllfhhpaaTimesImpl
import Derived.Test.YthdemjfllfhhpaaTurnImpl
import Derived.Test.YthdemjfllfhhpaaSig
import Derived.Test.YthdemjfllfhhpaaRows
import Derived.Test.YthdemjfllfhhpaaData
import Derived.ProofKit
import Derived.Deep.Matrix

section
namespace Go.Proofs.Ythdemjfllfhhpaa
open Go.RowKit Go.Deep

def nzM (l : List (List Int)) (r c : Nat) : Prop := popcS r = popcS c ∧ ordF (partL l r c) (popcS r) (popcS r) 0 ≠ 0
theorem stepR_ge (l : List (List Int)) (r c b : Nat) : b ≤ stepR l r c b := by
  unfold stepR
  split
  · omega
  · omega
theorem stepR_yes {l : List (List Int)} {r c : Nat} (h : nzM l r c) (b : Nat) : popcS r ≤ stepR l r c b := by
  unfold stepR
  by_cases hb : b < popcS r
  · rw [if_pos ⟨h.1, hb, h.2⟩]; omega
  · have := stepR_ge l r c b
    unfold stepR at this
    omega
theorem stepR_ex (l : List (List Int)) (r c b : Nat) : stepR l r c b = b ∨ (stepR l r c b = popcS r ∧ nzM l r c) := by
  unfold stepR
  split
  · rename_i h; exact .inr ⟨rfl, h.1, h.2.2⟩
  · exact .inl rfl
theorem rkC_step (l : List (List Int)) (r b : Nat) : ∀ c, 1 ≤ c → b ≤ rkC l r b c ∧ (∀ c', 1 ≤ c' → c' < c → nzM l r c' → popcS r ≤ rkC l r b c) ∧ (rkC l r b c = b ∨ (rkC l r b c = popcS r ∧ ∃ c', c' < c ∧ nzM l r c'))
  | 0, h => by omega
  | 1, _ => by rw [rkC_one]; exact ⟨by omega, fun c' h1 h2 => by omega, .inl rfl⟩
  | c + 2, _ => by
    obtain ⟨i1, i2, i3⟩ := rkC_step l r b (c + 1) (by omega)
    rw [rkC_succ l r b (by omega)]
    have g := stepR_ge l r (c + 1) (rkC l r b (c + 1))
    refine ⟨by omega, fun c' h1 h2 hn => ?_, ?_⟩
    · by_cases e : c' = c + 1
      · subst e; exact stepR_yes hn _
      · have := i2 c' h1 (by omega) hn
        omega
    · rcases stepR_ex l r (c + 1) (rkC l r b (c + 1)) with e | ⟨e, hn⟩
      · rw [e]
        rcases i3 with e2 | ⟨e2, c', h1, h2⟩
        · exact .inl e2
        · exact .inr ⟨e2, c', by omega, h2⟩
      · exact .inr ⟨e, c + 1, by omega, hn⟩
theorem rkR_step (l : List (List Int)) (C : Nat) (hC : 1 ≤ C) : ∀ r, 1 ≤ r → (∀ r' c', 1 ≤ r' → r' < r → 1 ≤ c' → c' < C → nzM l r' c' → popcS r' ≤ rkR l C r) ∧ (rkR l C r = 0 ∨ ∃ r' c', r' < r ∧ c' < C ∧ nzM l r' c' ∧ rkR l C r = popcS r')
  | 0, h => by omega
  | 1, _ => by rw [rkR_one]; exact ⟨fun r' c' h1 h2 => by omega, .inl rfl⟩
  | r + 2, _ => by
    obtain ⟨i1, i2⟩ := rkR_step l C hC (r + 1) (by omega)
    rw [rkR_succ l C (by omega)]
    obtain ⟨j1, j2, j3⟩ := rkC_step l (r + 1) (rkR l C (r + 1)) C hC
    refine ⟨fun r' c' h1 h2 h3 h4 hn => ?_, ?_⟩
    · by_cases e : r' = r + 1
      · subst e; exact j2 c' h3 h4 hn
      · have := i1 r' c' h1 (by omega) h3 h4 hn
        omega
    · rcases j3 with e | ⟨e, c', h1, h2⟩
      · rw [e]
        rcases i2 with e2 | ⟨r', c', h1, h2, h3, h4⟩
        · exact .inl e2
        · exact .inr ⟨r', c', by omega, h2, h3, h4⟩
      · exact .inr ⟨r + 1, c', by omega, h1, h2, e⟩
theorem popc_le_n : ∀ n : Fin 7, ∀ s : Fin 64, s.val < 2 ^ n.val → popcS s.val ≤ n.val := by decide +kernel
theorem hasB_iff {l : List (List Int)} {k M1 M2 : Nat} : hasB l k M1 M2 = true ↔ ∃ r c, (r < M1 ∧ popcS r = k) ∧ (c < M2 ∧ popcS c = k) ∧ dt k (at2 (partL l r c)) ≠ 0 := by
  unfold hasB hasR
  rw [List.any_eq_true]
  constructor
  · rintro ⟨r, hr, h⟩
    obtain ⟨c, hc, h⟩ := List.any_eq_true.1 h
    exact ⟨r, c, (setsTo_mem k).1 hr, (setsTo_mem k).1 hc, by simpa using h⟩
  · rintro ⟨r, c, hr, hc, h⟩
    exact ⟨r, (setsTo_mem k).2 hr, List.any_eq_true.2 ⟨c, (setsTo_mem k).2 hc, by simpa using h⟩⟩
theorem rank_down {l : List (List Int)} {n m : Nat} (hn : n ≤ 6) (hm : m ≤ 6) :
    rkR l (2 ^ m) (2 ^ n) ≤ n ∧ rkR l (2 ^ m) (2 ^ n) ≤ m ∧ ∀ k, 1 ≤ k → (hasB l k (2 ^ n) (2 ^ m) = true → k ≤ rkR l (2 ^ m) (2 ^ n)) ∧ (hasB l k (2 ^ n) (2 ^ m) = false → rkR l (2 ^ m) (2 ^ n) ≠ k) := by
  have p1 : 2 ^ n ≤ 2 ^ 6 := Nat.pow_le_pow_right (by omega) hn
  have p2 : 2 ^ m ≤ 2 ^ 6 := Nat.pow_le_pow_right (by omega) hm
  have q1 : 1 ≤ 2 ^ n := Nat.pow_pos (by omega)
  have q2 : 1 ≤ 2 ^ m := Nat.pow_pos (by omega)
  obtain ⟨s1, s2⟩ := rkR_step l (2 ^ m) q2 (2 ^ n) q1
  have hle : rkR l (2 ^ m) (2 ^ n) ≤ n ∧ rkR l (2 ^ m) (2 ^ n) ≤ m := by
    rcases s2 with e | ⟨r, c, h1, h2, h3, h4⟩
    · omega
    · have e1 := popc_le_n ⟨n, by omega⟩ ⟨r, by omega⟩ h1
      have e2 := popc_le_n ⟨m, by omega⟩ ⟨c, by omega⟩ h2
      have := h3.1
      simp only at e1 e2
      omega
  refine ⟨hle.1, hle.2, fun k hk => ⟨fun h => ?_, fun h e => ?_⟩⟩
  · obtain ⟨r, c, ⟨r1, r2⟩, ⟨c1, c2⟩, hd⟩ := hasB_iff.1 h
    have g1 := popcS_pos ⟨r, by omega⟩ (by rw [r2]; exact hk)
    have g2 := popcS_pos ⟨c, by omega⟩ (by rw [c2]; exact hk)
    have hk6 : k ≤ 6 := by rw [← r2]; exact popcS_le r
    have := s1 r c g1 r1 g2 c1 ⟨by omega, by rw [r2, ordF_all _ hk6]; exact hd⟩
    omega
  · rcases s2 with e2 | ⟨r, c, h1, h2, h3, h4⟩
    · omega
    · have hk6 : k ≤ 6 := by rw [← e, h4]; exact popcS_le r
      have hr : popcS r = k := by omega
      have : hasB l k (2 ^ n) (2 ^ m) = true := hasB_iff.2 ⟨r, c, ⟨h1, hr⟩, ⟨h2, by rw [← h3.1]; exact hr⟩, by
        have := h3.2
        rw [hr, ordF_all _ hk6] at this
        exact this⟩
      rw [h] at this
      cases this

end Go.Proofs.Ythdemjfllfhhpaa
end

section
namespace Go.Proofs.Ythdemjfllfhhpaa
open Go.RowKit Go.Deep

set_option maxRecDepth 100000 in
set_option maxHeartbeats 2000000 in
theorem rank_any (a : Option Addr) (cap n m : Nat) (l : List (List Int)) (w : World) (hn : l.length = n) (hT : TabIn l) (hmm : (l.getD 0 []).length = m) (hm : MatR w a l) :
    Calls Try.prog 54 #[.slice a n cap] w fun e w' => e = .returned (.int .i64 (rkR l (2 ^ m) (2 ^ n) : Nat)) ∧ w.Since w.heap.size w' := by
  have h6 := hT.2.1
  have h1 := hT.1
  have hw := hT.width
  rw [hn] at h6 h1
  rw [hmm] at hw
  obtain ⟨r1, r2, r3⟩ := rank_down (l := l) h6 hw.2
  obtain ⟨b, hb⟩ : ∃ b, rkR l (2 ^ m) (2 ^ n) = b := ⟨_, rfl⟩
  rw [hb] at r1 r2 r3 ⊢
  have EW := width_any a cap n l w hn (by omega) (by omega) hm
  rw [hmm] at EW
  have EH := Lib.hid (fun (k : Nat) (W : World) (h : w.Since w.heap.size W) => hasMinor_any a cap n m k l W hn hmm hT (hm.since h))
  replace EW := Lib.hid EW
  have R3 := Lib.hid r3
  clear r3 hn hmm hm hT hb
  go_enter Try.func54, Try.ntmps54
  go_wp2_with fail
  refine (EW.out).mono ?_
  rintro e w1 ⟨rfl, rfl⟩
  go_wp2
  all_goals
    go_loopg [3] 6 (fun g v wr => ∃ c : Nat, b ≤ c ∧ c ≤ 6 ∧ c ≤ g ∧ v = .int .i64 c ∧ w.Since w.heap.size wr)
    case atStart => first | exact ⟨n, r1, h6, h6, rfl, World.Since.refl _ _⟩ | exact ⟨m, r2, hw.2, hw.2, rfl, World.Since.refl _ _⟩
    case round =>
      obtain ⟨c, hbc, hc6, hcg, rfl, hS⟩ := hrel
      by_cases hc0 : c = 0
      · have hb0 : b = 0 := by omega
        subst hc0 hb0
        have HS := Lib.hid hS
        clear hS
        go_wp2
        go_ret
        exact ⟨rfl, HS.out⟩
      · have hc1 : decide ((0 : Int) < (c : Int)) = true := by simp; omega
        have E := EH.out c wr hS
        obtain ⟨q1, q2⟩ := R3.out c (by omega)
        obtain ⟨h, hh⟩ : ∃ h, hasB l c (2 ^ n) (2 ^ m) = h := ⟨_, rfl⟩
        rw [hh] at E q1 q2
        replace E := Lib.hid E
        have HS := Lib.hid hS
        clear hS hh
        go_wp2_with fail
        refine (E.out).mono ?_
        rintro e w2 ⟨rfl, hs2⟩
        have HS2 := Lib.hid (HS.out.trans (since_mono hs2 HS.out.size))
        clear hs2
        cases h with
        | true =>
          have hcb : c = b := by have := q1 rfl; omega
          subst hcb
          go_wp2
          go_ret
          exact ⟨rfl, HS2.out⟩
        | false =>
          have hcb := q2 rfl
          go_wp2
          go_roundg (gk - 1)
          case measure => omega
          case rel => exact ⟨c - 1, by omega, by omega, by omega, by go_num, HS2.out⟩

set_option maxHeartbeats 1000000 in
theorem implValueRank_any (a : Option Addr) (cap n : Nat) (l : List (List Int)) (w : World) (hn : l.length = n) (hsz : szL l ≤ 1048576) (hm : MatR w a l) :
    Calls Try.prog 15 #[.slice a n cap] w (SpecW w (tabIn l) (rkR l (2 ^ (l.getD 0 []).length) (2 ^ n) : Nat)) := by
  have E := implTableIn_any a cap n l w hn hsz hm
  cases hT : tabIn l with
  | false =>
    rw [hT] at E
    replace E := Lib.hid E
    clear hT hm hn hsz
    go_enter Try.func15, Try.ntmps15
    go_wp2_with fail
    refine (E.out).mono ?_
    rintro e w1 ⟨rfl, hd⟩
    have HD := Lib.hid hd
    clear hd
    go_wp2
    go_ret2
    exact ⟨rfl, HD.out⟩
  | true =>
    rw [hT] at E
    replace E := Lib.hid E
    have E2 := Lib.hid (fun (W : World) (hd : w.Since w.heap.size W) => rank_any a cap n _ l W hn (tabIn_of hT) rfl (hm.since hd))
    clear hT hm hn hsz
    go_enter Try.func15, Try.ntmps15
    go_wp2_with fail
    refine (E.out).mono ?_
    rintro e w1 ⟨rfl, hd⟩
    have HD := Lib.hid hd
    clear hd
    go_wp2_with fail
    refine (E2.out w1 HD.out).mono ?_
    rintro e w2 ⟨rfl, hs2⟩
    have HS2 := Lib.hid (HD.out.trans (since_mono hs2 HD.out.size))
    clear hs2
    go_wp2
    go_ret2
    exact ⟨rfl, HS2.out⟩

end Go.Proofs.Ythdemjfllfhhpaa
end

section
namespace Go.Proofs.Ythdemjfllfhhpaa
open Go.RowKit Go.Deep

def plT (l : List (List Int)) (i used : Nat) (f : Nat → Int) (k : Nat) : Int := if used.testBit k then 0 else at2 l i k * f (used ||| 2 ^ k)
theorem plT_yes {l : List (List Int)} {i used k : Nat} (f : Nat → Int) (h : used.testBit k = true) : plT l i used f k = 0 := by unfold plT; rw [if_pos h]
theorem plT_no {l : List (List Int)} {i used k : Nat} (f : Nat → Int) (h : used.testBit k = false) : plT l i used f k = at2 l i k * f (used ||| 2 ^ k) := by unfold plT; rw [if_neg (by rw [h]; simp)]
def plF (l : List (List Int)) (n : Nat) : Nat → Nat → Int
  | 0, _ => 1
  | d + 1, used => sumN (plT l (n - (d + 1)) used (plF l n d)) n
theorem plF_zero (l : List (List Int)) (n used : Nat) : plF l n 0 used = 1 := rfl
theorem plF_succ (l : List (List Int)) (n d used : Nat) : plF l n (d + 1) used = sumN (plT l (n - (d + 1)) used (plF l n d)) n := rfl

def EntB (l : List (List Int)) (n : Nat) : Prop := n ≤ 6 ∧ ∀ i j, i < n → j < n → -30 ≤ at2 l i j ∧ at2 l i j ≤ 30
theorem plT_bd {l : List (List Int)} {n i used k : Nat} {f : Nat → Int} {B : Int} (h : EntB l n) (hi : i < n) (hk : k < n) (hB : 0 ≤ B) (hf : ∀ u, -B ≤ f u ∧ f u ≤ B) : -(30 * B) ≤ plT l i used f k ∧ plT l i used f k ≤ 30 * B := by
  unfold plT
  split
  · omega
  · have h1 := h.2 i k hi hk
    have h2 := hf (used ||| 2 ^ k)
    exact mul_bdB h1.1 h1.2 h2.1 h2.2
theorem sumP_bd {l : List (List Int)} {n i used k : Nat} {f : Nat → Int} {B : Int} (h : EntB l n) (hi : i < n) (hk : k ≤ n) (hB : 0 ≤ B) (hf : ∀ u, -B ≤ f u ∧ f u ≤ B) : -(180 * B) ≤ sumN (plT l i used f) k ∧ sumN (plT l i used f) k ≤ 180 * B := by
  have h6 := h.1
  have h1 := sumN_bdB (f := plT l i used f) (B := 30 * B) k (fun j hj => plT_bd h hi (by omega) hB hf)
  have h2 : (k : Int) * (30 * B) ≤ 6 * (30 * B) := Int.mul_le_mul_of_nonneg_right (by omega) (by omega)
  omega
theorem plF_bd {l : List (List Int)} {n : Nat} (h : EntB l n) : ∀ d, d ≤ n → ∀ u, -(p180 d) ≤ plF l n d u ∧ plF l n d u ≤ p180 d
  | 0, _, u => by rw [plF_zero]; simp [p180]
  | d + 1, hd, u => by
    have ih := plF_bd h d (by omega)
    rw [plF_succ]
    have := p180_pos d
    exact sumP_bd h (by omega) (Nat.le_refl _) (by omega) ih
theorem entB_of {l : List (List Int)} {n : Nat} (hT : TabIn l) (hn : l.length = n) (hm : (l.getD 0 []).length = n) : EntB l n :=
  ⟨by have := hT.2.1; omega, fun i j hi hj => hT.at (by omega) (by omega)⟩

end Go.Proofs.Ythdemjfllfhhpaa
end

section
namespace Go.Proofs.Ythdemjfllfhhpaa
open Go.RowKit Go.Deep

def lowB (s : Nat) : Nat := if s % 2 = 1 then 0 else if s / 2 % 2 = 1 then 1 else if s / 4 % 2 = 1 then 2 else if s / 8 % 2 = 1 then 3 else if s / 16 % 2 = 1 then 4 else 5
theorem lowB_fin : ∀ s : Fin 64, s.val ≠ 0 → s.val.testBit (lowB s.val) = true ∧ lowB s.val < 6 ∧ ∀ j : Fin 6, j.val < lowB s.val → s.val.testBit j.val = false := by decide +kernel
theorem lowB_in : ∀ n : Fin 7, ∀ s : Fin 64, s.val < 2 ^ n.val → s.val ≠ 0 → lowB s.val < n.val := by decide +kernel
def btw (s i k : Nat) : Nat := popcS (s / 2 ^ (i + 1) % 2 ^ (k - i - 1))
theorem btw_fin : ∀ s : Fin 64, ∀ i k : Fin 6, i.val < k.val → btw s.val i.val (k.val + 1) = btw s.val i.val k.val + (if s.val.testBit k.val = true then 1 else 0) := by decide +kernel
theorem btw_zero : ∀ s : Fin 64, ∀ i : Fin 6, btw s.val i.val (i.val + 1) = 0 := by decide +kernel
theorem two_off : ∀ s : Fin 64, ∀ i k : Fin 6, i.val < k.val → s.val.testBit i.val = true → s.val.testBit k.val = true →
    bits BinOp.andNot IntKind.i64 (s.val : Int) (2 ^ i.val) = ((s.val - 2 ^ i.val : Nat) : Int) ∧ bits BinOp.andNot IntKind.i64 ((s.val - 2 ^ i.val : Nat) : Int) (2 ^ k.val) = ((s.val - 2 ^ i.val - 2 ^ k.val : Nat) : Int) ∧
    popcS (s.val - 2 ^ i.val - 2 ^ k.val) + 2 = popcS s.val := by decide +kernel
theorem two_less {s i k m : Nat} (h : s < m) : s - 2 ^ i - 2 ^ k < m := Nat.lt_of_le_of_lt (Nat.le_trans (Nat.sub_le _ _) (Nat.sub_le _ _)) h

def halfT (l : List (List Int)) (i s : Nat) (f : Nat → Int) (k : Nat) : Int := if i < k ∧ s.testBit k = true then sg (btw s i k) (at2 l i k * f (s - 2 ^ i - 2 ^ k)) else 0
theorem halfT_no {l : List (List Int)} {i s k : Nat} (f : Nat → Int) (h : ¬(i < k ∧ s.testBit k = true)) : halfT l i s f k = 0 := by unfold halfT; rw [if_neg h]
theorem halfT_yes {l : List (List Int)} {i s k : Nat} (f : Nat → Int) (h1 : i < k) (h2 : s.testBit k = true) : halfT l i s f k = sg (btw s i k) (at2 l i k * f (s - 2 ^ i - 2 ^ k)) := by unfold halfT; rw [if_pos ⟨h1, h2⟩]
def halfF (l : List (List Int)) (n : Nat) : Nat → Nat → Int
  | 0, s => if s = 0 then 1 else 0
  | d + 1, s => if s = 0 then 1 else sumN (halfT l (lowB s) s (halfF l n d)) n
theorem halfF_none (l : List (List Int)) (n d : Nat) : halfF l n d 0 = 1 := by cases d <;> rfl
theorem halfF_some (l : List (List Int)) (n d : Nat) {s : Nat} (h : s ≠ 0) : halfF l n (d + 1) s = sumN (halfT l (lowB s) s (halfF l n d)) n := if_neg h

def cntT (l : List (List Int)) (i s : Nat) (f : Nat → Nat) (k : Nat) : Nat := if (i < k ∧ s.testBit k = true) ∧ at2 l i k ≠ 0 then f (s - 2 ^ i - 2 ^ k) else 0
def sumM (f : Nat → Nat) : Nat → Nat
  | 0 => 0
  | n + 1 => sumM f n + f n
def cntF (l : List (List Int)) (n : Nat) : Nat → Nat → Nat
  | 0, s => if s = 0 then 1 else 0
  | d + 1, s => if s = 0 then 1 else sumM (cntT l (lowB s) s (cntF l n d)) n
theorem cntF_none (l : List (List Int)) (n d : Nat) : cntF l n d 0 = 1 := by cases d <;> rfl
theorem cntF_some (l : List (List Int)) (n d : Nat) {s : Nat} (h : s ≠ 0) : cntF l n (d + 1) s = sumM (cntT l (lowB s) s (cntF l n d)) n := if_neg h
theorem cntT_no {l : List (List Int)} {i s k : Nat} (f : Nat → Nat) (h : ¬((i < k ∧ s.testBit k = true) ∧ at2 l i k ≠ 0)) : cntT l i s f k = 0 := by unfold cntT; rw [if_neg h]
theorem cntT_yes {l : List (List Int)} {i s k : Nat} (f : Nat → Nat) (h : (i < k ∧ s.testBit k = true) ∧ at2 l i k ≠ 0) : cntT l i s f k = f (s - 2 ^ i - 2 ^ k) := by unfold cntT; rw [if_pos h]

theorem sumN_congrH {f g : Nat → Int} : ∀ n, (∀ c, c < n → f c = g c) → sumN f n = sumN g n
  | 0, _ => rfl
  | n + 1, h => by
    show sumN f n + f n = sumN g n + g n
    rw [sumN_congrH n (fun c hc => h c (by omega)), h n (by omega)]
theorem halfT_bd {l : List (List Int)} {n i s k : Nat} {f : Nat → Int} {B : Int} (h : EntB l n) (hi : i < n) (hk : k < n) (hB : 0 ≤ B) (hf : ∀ u, -B ≤ f u ∧ f u ≤ B) : -(30 * B) ≤ halfT l i s f k ∧ halfT l i s f k ≤ 30 * B := by
  unfold halfT
  split
  · have h1 := h.2 i k hi hk
    have h2 := hf (s - 2 ^ i - 2 ^ k)
    exact sg_bd (mul_bdB h1.1 h1.2 h2.1 h2.2)
  · omega
theorem halfT_in {l : List (List Int)} {i s k m : Nat} {f : Nat → Int} (hs : s < m) : halfT l i s (fun u => if u < m then f u else 0) k = halfT l i s f k := by
  unfold halfT
  split
  · show sg _ (at2 l i k * (if s - 2 ^ i - 2 ^ k < m then f (s - 2 ^ i - 2 ^ k) else 0)) = _
    rw [if_pos (two_less hs)]
  · rfl
theorem sumH_bd {l : List (List Int)} {n i s k : Nat} {f : Nat → Int} {B : Int} (h : EntB l n) (hi : i < n) (hk : k ≤ n) (hB : 0 ≤ B) (hf : ∀ u, -B ≤ f u ∧ f u ≤ B) : -(180 * B) ≤ sumN (halfT l i s f) k ∧ sumN (halfT l i s f) k ≤ 180 * B := by
  have h6 := h.1
  have h1 := sumN_bdB (f := halfT l i s f) (B := 30 * B) k (fun j hj => halfT_bd h hi (by omega) hB hf)
  have h2 : (k : Int) * (30 * B) ≤ 6 * (30 * B) := Int.mul_le_mul_of_nonneg_right (by omega) (by omega)
  omega
theorem halfF_bd {l : List (List Int)} {n : Nat} (h : EntB l n) : ∀ d s, s < 2 ^ n → -(p180 d) ≤ halfF l n d s ∧ halfF l n d s ≤ p180 d
  | 0, s, _ => by unfold halfF; split <;> simp [p180]
  | d + 1, s, hs => by
    have hp := p180_pos d
    have hp3 : p180 (d + 1) = 180 * p180 d := rfl
    by_cases h0 : s = 0
    · rw [h0, halfF_none]; omega
    · rw [halfF_some l n d h0]
      have h6 := h.1
      have h64 : 2 ^ n ≤ 2 ^ 6 := Nat.pow_le_pow_right (by omega) h6
      have hl := lowB_in ⟨n, by omega⟩ ⟨s, by omega⟩ hs h0
      simp only at hl
      have e : sumN (halfT l (lowB s) s (halfF l n d)) n = sumN (halfT l (lowB s) s (fun u => if u < 2 ^ n then halfF l n d u else 0)) n := by
        exact sumN_congrH n (fun k _ => (halfT_in hs).symm)
      rw [e]
      exact sumH_bd h hl (Nat.le_refl _) (by omega) (fun u => by
        by_cases hu : u < 2 ^ n
        · rw [if_pos hu]; exact halfF_bd h d u hu
        · rw [if_neg hu]; omega)

theorem sumM_le {f : Nat → Nat} {B : Nat} (h : ∀ k, f k ≤ B) : ∀ n, sumM f n ≤ n * B
  | 0 => by simp [sumM]
  | n + 1 => by
    have := sumM_le h n
    have := h n
    rw [Nat.add_mul, Nat.one_mul]
    show sumM f n + f n ≤ _
    omega
def p6 : Nat → Nat
  | 0 => 1
  | d + 1 => 6 * p6 d
theorem p6_pos : ∀ d, 1 ≤ p6 d
  | 0 => by simp [p6]
  | d + 1 => by have := p6_pos d; unfold p6; omega
theorem cntF_bd (l : List (List Int)) {n : Nat} (h6 : n ≤ 6) : ∀ d s, cntF l n d s ≤ p6 d
  | 0, s => by unfold cntF; split <;> simp [p6]
  | d + 1, s => by
    have hp := p6_pos (d + 1)
    by_cases h0 : s = 0
    · rw [h0, cntF_none]; exact hp
    · rw [cntF_some l n d h0]
      have := sumM_le (f := cntT l (lowB s) s (cntF l n d)) (B := p6 d) (fun k => by
        unfold cntT
        split
        · exact cntF_bd l h6 d _
        · omega) n
      have h2 : n * p6 d ≤ 6 * p6 d := Nat.mul_le_mul_right _ h6
      show _ ≤ 6 * p6 d
      omega

end Go.Proofs.Ythdemjfllfhhpaa
end

section
namespace Go.Proofs.Ythdemjfllfhhpaa
open Go.RowKit Go.Deep

theorem popc_two : ∀ s : Fin 64, ∀ k : Fin 6, s.val ≠ 0 → lowB s.val < k.val → s.val.testBit k.val = true → popcS (s.val - 2 ^ lowB s.val - 2 ^ k.val) + 2 = popcS s.val ∧ s.val - 2 ^ lowB s.val - 2 ^ k.val < 64 := by decide +kernel
theorem popc_zero0 : popcS 0 = 0 := by decide
theorem half_odd (l : List (List Int)) {n : Nat} (hn : n ≤ 6) : ∀ d s, s < 64 → popcS s % 2 = 1 → halfF l n d s = 0
  | 0, s, _, h => by
    have h0 : s ≠ 0 := fun e => by rw [e, popc_zero0] at h; omega
    unfold halfF; rw [if_neg h0]
  | d + 1, s, hs, h => by
    have h0 : s ≠ 0 := fun e => by rw [e, popc_zero0] at h; omega
    rw [halfF_some l n d h0]
    refine sumN_none n fun k hk => ?_
    by_cases h1 : lowB s < k ∧ s.testBit k = true
    · obtain ⟨e1, e2⟩ := popc_two ⟨s, hs⟩ ⟨k, by omega⟩ h0 h1.1 h1.2
      simp only at e1 e2
      rw [halfT_yes _ h1.1 h1.2, half_odd l hn d _ e2 (by omega), Int.mul_zero]
      unfold sg; split <;> rfl
    · exact halfT_no _ h1

theorem half_two (l : List (List Int)) : halfF l 2 3 3 = at2 l 0 1 := by
  simp (decide := true) [halfF, sumN, halfT, lowB, sg]
theorem half_four (l : List (List Int)) : halfF l 4 3 15 = at2 l 0 1 * at2 l 2 3 - at2 l 0 2 * at2 l 1 3 + at2 l 0 3 * at2 l 1 2 := by
  simp (decide := true) [halfF, sumN, halfT, lowB, sg]
  grind
def h4 (a b c d e f : Int) : Int := a * f - b * e + c * d
theorem half_six (l : List (List Int)) : halfF l 6 3 63 =
    at2 l 0 1 * h4 (at2 l 2 3) (at2 l 2 4) (at2 l 2 5) (at2 l 3 4) (at2 l 3 5) (at2 l 4 5)
    - at2 l 0 2 * h4 (at2 l 1 3) (at2 l 1 4) (at2 l 1 5) (at2 l 3 4) (at2 l 3 5) (at2 l 4 5)
    + at2 l 0 3 * h4 (at2 l 1 2) (at2 l 1 4) (at2 l 1 5) (at2 l 2 4) (at2 l 2 5) (at2 l 4 5)
    - at2 l 0 4 * h4 (at2 l 1 2) (at2 l 1 3) (at2 l 1 5) (at2 l 2 3) (at2 l 2 5) (at2 l 3 5)
    + at2 l 0 5 * h4 (at2 l 1 2) (at2 l 1 3) (at2 l 1 4) (at2 l 2 3) (at2 l 2 4) (at2 l 3 4) := by
  simp (decide := true) [halfF, sumN, halfT, lowB, sg]
  unfold h4
  grind

theorem dtq_three (f : Nat → Nat → Int) : dt 3 f = f 0 0 * (f 1 1 * f 2 2 - f 1 2 * f 2 1) - f 0 1 * (f 1 0 * f 2 2 - f 1 2 * f 2 0) + f 0 2 * (f 1 0 * f 2 1 - f 1 1 * f 2 0) := by
  rw [dt_succ]; simp only [sumN, dt_two, dr]; simp [skip, sn]; grind
theorem dtq_four (f : Nat → Nat → Int) : dt 4 f = f 0 0 * dt 3 (dr 0 f) - f 0 1 * dt 3 (dr 1 f) + f 0 2 * dt 3 (dr 2 f) - f 0 3 * dt 3 (dr 3 f) := by
  rw [dt_succ]; simp [sumN, sn]; omega
theorem dtq_five (f : Nat → Nat → Int) : dt 5 f = f 0 0 * dt 4 (dr 0 f) - f 0 1 * dt 4 (dr 1 f) + f 0 2 * dt 4 (dr 2 f) - f 0 3 * dt 4 (dr 3 f) + f 0 4 * dt 4 (dr 4 f) := by
  rw [dt_succ]; simp [sumN, sn]; omega
def Skew (n : Nat) (f : Nat → Nat → Int) : Prop := ∀ i j, i < n → j < n → f i j = -f j i
theorem skew_mid {n : Nat} {f : Nat → Nat → Int} (h : Skew n f) {i : Nat} (hi : i < n) : f i i = 0 := by have := h i i hi hi; omega
theorem det_two {f : Nat → Nat → Int} (h : Skew 2 f) : dt 2 f = f 0 1 * f 0 1 := by
  rw [dt_two, skew_mid h (i := 0) (by omega), h 1 0 (by omega) (by omega)]
  grind
theorem det_four {f : Nat → Nat → Int} (h : Skew 4 f) : dt 4 f = h4 (f 0 1) (f 0 2) (f 0 3) (f 1 2) (f 1 3) (f 2 3) * h4 (f 0 1) (f 0 2) (f 0 3) (f 1 2) (f 1 3) (f 2 3) := by
  rw [dtq_four]
  simp only [dtq_three, dr, skip]
  simp only [Nat.reduceAdd, Nat.reduceLT, if_true, if_false, Nat.lt_irrefl, Nat.zero_add]
  simp only [h 1 0 (by omega) (by omega), h 2 0 (by omega) (by omega), h 2 1 (by omega) (by omega), h 3 0 (by omega) (by omega), h 3 1 (by omega) (by omega), h 3 2 (by omega) (by omega), skew_mid h (show 0 < 4 by omega), skew_mid h (show 1 < 4 by omega), skew_mid h (show 2 < 4 by omega), skew_mid h (show 3 < 4 by omega)]
  unfold h4
  grind
def pf5 (g : Nat → Nat → Int) (p : Nat) : Int := h4 (g (skip p 0) (skip p 1)) (g (skip p 0) (skip p 2)) (g (skip p 0) (skip p 3)) (g (skip p 1) (skip p 2)) (g (skip p 1) (skip p 3)) (g (skip p 2) (skip p 3))
theorem min5_00 {g : Nat → Nat → Int} (h : Skew 5 g) : dt 4 (fun r j => g (skip 0 r) (skip 0 j)) = pf5 g 0 * pf5 g 0 := by
  rw [dtq_four]
  simp only [dtq_three, dr, skip, pf5]
  simp only [Nat.reduceAdd, Nat.reduceLT, if_true, if_false, Nat.lt_irrefl, Nat.zero_add]
  simp only [h 2 1 (by omega) (by omega), h 3 1 (by omega) (by omega), h 3 2 (by omega) (by omega), h 4 1 (by omega) (by omega), h 4 2 (by omega) (by omega), h 4 3 (by omega) (by omega), skew_mid h (show 1 < 5 by omega), skew_mid h (show 2 < 5 by omega), skew_mid h (show 3 < 5 by omega), skew_mid h (show 4 < 5 by omega)]
  unfold h4
  grind
theorem min5_01 {g : Nat → Nat → Int} (h : Skew 5 g) : dt 4 (fun r j => g (skip 0 r) (skip 1 j)) = pf5 g 0 * pf5 g 1 := by
  rw [dtq_four]
  simp only [dtq_three, dr, skip, pf5]
  simp only [Nat.reduceAdd, Nat.reduceLT, if_true, if_false, Nat.lt_irrefl, Nat.zero_add]
  simp only [h 1 0 (by omega) (by omega), h 2 0 (by omega) (by omega), h 3 0 (by omega) (by omega), h 3 2 (by omega) (by omega), h 4 0 (by omega) (by omega), h 4 2 (by omega) (by omega), h 4 3 (by omega) (by omega), skew_mid h (show 2 < 5 by omega), skew_mid h (show 3 < 5 by omega), skew_mid h (show 4 < 5 by omega)]
  unfold h4
  grind
theorem min5_02 {g : Nat → Nat → Int} (h : Skew 5 g) : dt 4 (fun r j => g (skip 0 r) (skip 2 j)) = pf5 g 0 * pf5 g 2 := by
  rw [dtq_four]
  simp only [dtq_three, dr, skip, pf5]
  simp only [Nat.reduceAdd, Nat.reduceLT, if_true, if_false, Nat.lt_irrefl, Nat.zero_add]
  simp only [h 1 0 (by omega) (by omega), h 2 0 (by omega) (by omega), h 2 1 (by omega) (by omega), h 3 0 (by omega) (by omega), h 3 1 (by omega) (by omega), h 4 0 (by omega) (by omega), h 4 1 (by omega) (by omega), h 4 3 (by omega) (by omega), skew_mid h (show 1 < 5 by omega), skew_mid h (show 3 < 5 by omega), skew_mid h (show 4 < 5 by omega)]
  unfold h4
  grind
theorem min5_03 {g : Nat → Nat → Int} (h : Skew 5 g) : dt 4 (fun r j => g (skip 0 r) (skip 3 j)) = pf5 g 0 * pf5 g 3 := by
  rw [dtq_four]
  simp only [dtq_three, dr, skip, pf5]
  simp only [Nat.reduceAdd, Nat.reduceLT, if_true, if_false, Nat.lt_irrefl, Nat.zero_add]
  simp only [h 1 0 (by omega) (by omega), h 2 0 (by omega) (by omega), h 2 1 (by omega) (by omega), h 3 0 (by omega) (by omega), h 3 1 (by omega) (by omega), h 3 2 (by omega) (by omega), h 4 0 (by omega) (by omega), h 4 1 (by omega) (by omega), h 4 2 (by omega) (by omega), skew_mid h (show 1 < 5 by omega), skew_mid h (show 2 < 5 by omega), skew_mid h (show 4 < 5 by omega)]
  unfold h4
  grind
theorem min5_04 {g : Nat → Nat → Int} (h : Skew 5 g) : dt 4 (fun r j => g (skip 0 r) (skip 4 j)) = pf5 g 0 * pf5 g 4 := by
  rw [dtq_four]
  simp only [dtq_three, dr, skip, pf5]
  simp only [Nat.reduceAdd, Nat.reduceLT, if_true, if_false, Nat.lt_irrefl, Nat.zero_add]
  simp only [h 1 0 (by omega) (by omega), h 2 0 (by omega) (by omega), h 2 1 (by omega) (by omega), h 3 0 (by omega) (by omega), h 3 1 (by omega) (by omega), h 3 2 (by omega) (by omega), h 4 0 (by omega) (by omega), h 4 1 (by omega) (by omega), h 4 2 (by omega) (by omega), h 4 3 (by omega) (by omega), skew_mid h (show 1 < 5 by omega), skew_mid h (show 2 < 5 by omega), skew_mid h (show 3 < 5 by omega)]
  unfold h4
  grind
theorem min5_10 {g : Nat → Nat → Int} (h : Skew 5 g) : dt 4 (fun r j => g (skip 1 r) (skip 0 j)) = pf5 g 1 * pf5 g 0 := by
  rw [dtq_four]
  simp only [dtq_three, dr, skip, pf5]
  simp only [Nat.reduceAdd, Nat.reduceLT, if_true, if_false, Nat.lt_irrefl, Nat.zero_add]
  simp only [h 2 1 (by omega) (by omega), h 3 1 (by omega) (by omega), h 3 2 (by omega) (by omega), h 4 1 (by omega) (by omega), h 4 2 (by omega) (by omega), h 4 3 (by omega) (by omega), skew_mid h (show 2 < 5 by omega), skew_mid h (show 3 < 5 by omega), skew_mid h (show 4 < 5 by omega)]
  unfold h4
  grind
theorem min5_11 {g : Nat → Nat → Int} (h : Skew 5 g) : dt 4 (fun r j => g (skip 1 r) (skip 1 j)) = pf5 g 1 * pf5 g 1 := by
  rw [dtq_four]
  simp only [dtq_three, dr, skip, pf5]
  simp only [Nat.reduceAdd, Nat.reduceLT, if_true, if_false, Nat.lt_irrefl, Nat.zero_add]
  simp only [h 2 0 (by omega) (by omega), h 3 0 (by omega) (by omega), h 3 2 (by omega) (by omega), h 4 0 (by omega) (by omega), h 4 2 (by omega) (by omega), h 4 3 (by omega) (by omega), skew_mid h (show 0 < 5 by omega), skew_mid h (show 2 < 5 by omega), skew_mid h (show 3 < 5 by omega), skew_mid h (show 4 < 5 by omega)]
  unfold h4
  grind
theorem min5_12 {g : Nat → Nat → Int} (h : Skew 5 g) : dt 4 (fun r j => g (skip 1 r) (skip 2 j)) = pf5 g 1 * pf5 g 2 := by
  rw [dtq_four]
  simp only [dtq_three, dr, skip, pf5]
  simp only [Nat.reduceAdd, Nat.reduceLT, if_true, if_false, Nat.lt_irrefl, Nat.zero_add]
  simp only [h 2 0 (by omega) (by omega), h 2 1 (by omega) (by omega), h 3 0 (by omega) (by omega), h 3 1 (by omega) (by omega), h 4 0 (by omega) (by omega), h 4 1 (by omega) (by omega), h 4 3 (by omega) (by omega), skew_mid h (show 0 < 5 by omega), skew_mid h (show 3 < 5 by omega), skew_mid h (show 4 < 5 by omega)]
  unfold h4
  grind
theorem min5_13 {g : Nat → Nat → Int} (h : Skew 5 g) : dt 4 (fun r j => g (skip 1 r) (skip 3 j)) = pf5 g 1 * pf5 g 3 := by
  rw [dtq_four]
  simp only [dtq_three, dr, skip, pf5]
  simp only [Nat.reduceAdd, Nat.reduceLT, if_true, if_false, Nat.lt_irrefl, Nat.zero_add]
  simp only [h 2 0 (by omega) (by omega), h 2 1 (by omega) (by omega), h 3 0 (by omega) (by omega), h 3 1 (by omega) (by omega), h 3 2 (by omega) (by omega), h 4 0 (by omega) (by omega), h 4 1 (by omega) (by omega), h 4 2 (by omega) (by omega), skew_mid h (show 0 < 5 by omega), skew_mid h (show 2 < 5 by omega), skew_mid h (show 4 < 5 by omega)]
  unfold h4
  grind
theorem min5_14 {g : Nat → Nat → Int} (h : Skew 5 g) : dt 4 (fun r j => g (skip 1 r) (skip 4 j)) = pf5 g 1 * pf5 g 4 := by
  rw [dtq_four]
  simp only [dtq_three, dr, skip, pf5]
  simp only [Nat.reduceAdd, Nat.reduceLT, if_true, if_false, Nat.lt_irrefl, Nat.zero_add]
  simp only [h 2 0 (by omega) (by omega), h 2 1 (by omega) (by omega), h 3 0 (by omega) (by omega), h 3 1 (by omega) (by omega), h 3 2 (by omega) (by omega), h 4 0 (by omega) (by omega), h 4 1 (by omega) (by omega), h 4 2 (by omega) (by omega), h 4 3 (by omega) (by omega), skew_mid h (show 0 < 5 by omega), skew_mid h (show 2 < 5 by omega), skew_mid h (show 3 < 5 by omega)]
  unfold h4
  grind
theorem min5_20 {g : Nat → Nat → Int} (h : Skew 5 g) : dt 4 (fun r j => g (skip 2 r) (skip 0 j)) = pf5 g 2 * pf5 g 0 := by
  rw [dtq_four]
  simp only [dtq_three, dr, skip, pf5]
  simp only [Nat.reduceAdd, Nat.reduceLT, if_true, if_false, Nat.lt_irrefl, Nat.zero_add]
  simp only [h 3 1 (by omega) (by omega), h 3 2 (by omega) (by omega), h 4 1 (by omega) (by omega), h 4 2 (by omega) (by omega), h 4 3 (by omega) (by omega), skew_mid h (show 1 < 5 by omega), skew_mid h (show 3 < 5 by omega), skew_mid h (show 4 < 5 by omega)]
  unfold h4
  grind
theorem min5_21 {g : Nat → Nat → Int} (h : Skew 5 g) : dt 4 (fun r j => g (skip 2 r) (skip 1 j)) = pf5 g 2 * pf5 g 1 := by
  rw [dtq_four]
  simp only [dtq_three, dr, skip, pf5]
  simp only [Nat.reduceAdd, Nat.reduceLT, if_true, if_false, Nat.lt_irrefl, Nat.zero_add]
  simp only [h 1 0 (by omega) (by omega), h 3 0 (by omega) (by omega), h 3 2 (by omega) (by omega), h 4 0 (by omega) (by omega), h 4 2 (by omega) (by omega), h 4 3 (by omega) (by omega), skew_mid h (show 0 < 5 by omega), skew_mid h (show 3 < 5 by omega), skew_mid h (show 4 < 5 by omega)]
  unfold h4
  grind
theorem min5_22 {g : Nat → Nat → Int} (h : Skew 5 g) : dt 4 (fun r j => g (skip 2 r) (skip 2 j)) = pf5 g 2 * pf5 g 2 := by
  rw [dtq_four]
  simp only [dtq_three, dr, skip, pf5]
  simp only [Nat.reduceAdd, Nat.reduceLT, if_true, if_false, Nat.lt_irrefl, Nat.zero_add]
  simp only [h 1 0 (by omega) (by omega), h 3 0 (by omega) (by omega), h 3 1 (by omega) (by omega), h 4 0 (by omega) (by omega), h 4 1 (by omega) (by omega), h 4 3 (by omega) (by omega), skew_mid h (show 0 < 5 by omega), skew_mid h (show 1 < 5 by omega), skew_mid h (show 3 < 5 by omega), skew_mid h (show 4 < 5 by omega)]
  unfold h4
  grind
theorem min5_23 {g : Nat → Nat → Int} (h : Skew 5 g) : dt 4 (fun r j => g (skip 2 r) (skip 3 j)) = pf5 g 2 * pf5 g 3 := by
  rw [dtq_four]
  simp only [dtq_three, dr, skip, pf5]
  simp only [Nat.reduceAdd, Nat.reduceLT, if_true, if_false, Nat.lt_irrefl, Nat.zero_add]
  simp only [h 1 0 (by omega) (by omega), h 3 0 (by omega) (by omega), h 3 1 (by omega) (by omega), h 3 2 (by omega) (by omega), h 4 0 (by omega) (by omega), h 4 1 (by omega) (by omega), h 4 2 (by omega) (by omega), skew_mid h (show 0 < 5 by omega), skew_mid h (show 1 < 5 by omega), skew_mid h (show 4 < 5 by omega)]
  unfold h4
  grind
theorem min5_24 {g : Nat → Nat → Int} (h : Skew 5 g) : dt 4 (fun r j => g (skip 2 r) (skip 4 j)) = pf5 g 2 * pf5 g 4 := by
  rw [dtq_four]
  simp only [dtq_three, dr, skip, pf5]
  simp only [Nat.reduceAdd, Nat.reduceLT, if_true, if_false, Nat.lt_irrefl, Nat.zero_add]
  simp only [h 1 0 (by omega) (by omega), h 3 0 (by omega) (by omega), h 3 1 (by omega) (by omega), h 3 2 (by omega) (by omega), h 4 0 (by omega) (by omega), h 4 1 (by omega) (by omega), h 4 2 (by omega) (by omega), h 4 3 (by omega) (by omega), skew_mid h (show 0 < 5 by omega), skew_mid h (show 1 < 5 by omega), skew_mid h (show 3 < 5 by omega)]
  unfold h4
  grind
theorem min5_30 {g : Nat → Nat → Int} (h : Skew 5 g) : dt 4 (fun r j => g (skip 3 r) (skip 0 j)) = pf5 g 3 * pf5 g 0 := by
  rw [dtq_four]
  simp only [dtq_three, dr, skip, pf5]
  simp only [Nat.reduceAdd, Nat.reduceLT, if_true, if_false, Nat.lt_irrefl, Nat.zero_add]
  simp only [h 2 1 (by omega) (by omega), h 4 1 (by omega) (by omega), h 4 2 (by omega) (by omega), h 4 3 (by omega) (by omega), skew_mid h (show 1 < 5 by omega), skew_mid h (show 2 < 5 by omega), skew_mid h (show 4 < 5 by omega)]
  unfold h4
  grind
theorem min5_31 {g : Nat → Nat → Int} (h : Skew 5 g) : dt 4 (fun r j => g (skip 3 r) (skip 1 j)) = pf5 g 3 * pf5 g 1 := by
  rw [dtq_four]
  simp only [dtq_three, dr, skip, pf5]
  simp only [Nat.reduceAdd, Nat.reduceLT, if_true, if_false, Nat.lt_irrefl, Nat.zero_add]
  simp only [h 1 0 (by omega) (by omega), h 2 0 (by omega) (by omega), h 4 0 (by omega) (by omega), h 4 2 (by omega) (by omega), h 4 3 (by omega) (by omega), skew_mid h (show 0 < 5 by omega), skew_mid h (show 2 < 5 by omega), skew_mid h (show 4 < 5 by omega)]
  unfold h4
  grind
theorem min5_32 {g : Nat → Nat → Int} (h : Skew 5 g) : dt 4 (fun r j => g (skip 3 r) (skip 2 j)) = pf5 g 3 * pf5 g 2 := by
  rw [dtq_four]
  simp only [dtq_three, dr, skip, pf5]
  simp only [Nat.reduceAdd, Nat.reduceLT, if_true, if_false, Nat.lt_irrefl, Nat.zero_add]
  simp only [h 1 0 (by omega) (by omega), h 2 0 (by omega) (by omega), h 2 1 (by omega) (by omega), h 4 0 (by omega) (by omega), h 4 1 (by omega) (by omega), h 4 3 (by omega) (by omega), skew_mid h (show 0 < 5 by omega), skew_mid h (show 1 < 5 by omega), skew_mid h (show 4 < 5 by omega)]
  unfold h4
  grind
theorem min5_33 {g : Nat → Nat → Int} (h : Skew 5 g) : dt 4 (fun r j => g (skip 3 r) (skip 3 j)) = pf5 g 3 * pf5 g 3 := by
  rw [dtq_four]
  simp only [dtq_three, dr, skip, pf5]
  simp only [Nat.reduceAdd, Nat.reduceLT, if_true, if_false, Nat.lt_irrefl, Nat.zero_add]
  simp only [h 1 0 (by omega) (by omega), h 2 0 (by omega) (by omega), h 2 1 (by omega) (by omega), h 4 0 (by omega) (by omega), h 4 1 (by omega) (by omega), h 4 2 (by omega) (by omega), skew_mid h (show 0 < 5 by omega), skew_mid h (show 1 < 5 by omega), skew_mid h (show 2 < 5 by omega), skew_mid h (show 4 < 5 by omega)]
  unfold h4
  grind
theorem min5_34 {g : Nat → Nat → Int} (h : Skew 5 g) : dt 4 (fun r j => g (skip 3 r) (skip 4 j)) = pf5 g 3 * pf5 g 4 := by
  rw [dtq_four]
  simp only [dtq_three, dr, skip, pf5]
  simp only [Nat.reduceAdd, Nat.reduceLT, if_true, if_false, Nat.lt_irrefl, Nat.zero_add]
  simp only [h 1 0 (by omega) (by omega), h 2 0 (by omega) (by omega), h 2 1 (by omega) (by omega), h 4 0 (by omega) (by omega), h 4 1 (by omega) (by omega), h 4 2 (by omega) (by omega), h 4 3 (by omega) (by omega), skew_mid h (show 0 < 5 by omega), skew_mid h (show 1 < 5 by omega), skew_mid h (show 2 < 5 by omega)]
  unfold h4
  grind
theorem min5_40 {g : Nat → Nat → Int} (h : Skew 5 g) : dt 4 (fun r j => g (skip 4 r) (skip 0 j)) = pf5 g 4 * pf5 g 0 := by
  rw [dtq_four]
  simp only [dtq_three, dr, skip, pf5]
  simp only [Nat.reduceAdd, Nat.reduceLT, if_true, if_false, Nat.lt_irrefl, Nat.zero_add]
  simp only [h 2 1 (by omega) (by omega), h 3 1 (by omega) (by omega), h 3 2 (by omega) (by omega), skew_mid h (show 1 < 5 by omega), skew_mid h (show 2 < 5 by omega), skew_mid h (show 3 < 5 by omega)]
  unfold h4
  grind
theorem min5_41 {g : Nat → Nat → Int} (h : Skew 5 g) : dt 4 (fun r j => g (skip 4 r) (skip 1 j)) = pf5 g 4 * pf5 g 1 := by
  rw [dtq_four]
  simp only [dtq_three, dr, skip, pf5]
  simp only [Nat.reduceAdd, Nat.reduceLT, if_true, if_false, Nat.lt_irrefl, Nat.zero_add]
  simp only [h 1 0 (by omega) (by omega), h 2 0 (by omega) (by omega), h 3 0 (by omega) (by omega), h 3 2 (by omega) (by omega), skew_mid h (show 0 < 5 by omega), skew_mid h (show 2 < 5 by omega), skew_mid h (show 3 < 5 by omega)]
  unfold h4
  grind
theorem min5_42 {g : Nat → Nat → Int} (h : Skew 5 g) : dt 4 (fun r j => g (skip 4 r) (skip 2 j)) = pf5 g 4 * pf5 g 2 := by
  rw [dtq_four]
  simp only [dtq_three, dr, skip, pf5]
  simp only [Nat.reduceAdd, Nat.reduceLT, if_true, if_false, Nat.lt_irrefl, Nat.zero_add]
  simp only [h 1 0 (by omega) (by omega), h 2 0 (by omega) (by omega), h 2 1 (by omega) (by omega), h 3 0 (by omega) (by omega), h 3 1 (by omega) (by omega), skew_mid h (show 0 < 5 by omega), skew_mid h (show 1 < 5 by omega), skew_mid h (show 3 < 5 by omega)]
  unfold h4
  grind
theorem min5_43 {g : Nat → Nat → Int} (h : Skew 5 g) : dt 4 (fun r j => g (skip 4 r) (skip 3 j)) = pf5 g 4 * pf5 g 3 := by
  rw [dtq_four]
  simp only [dtq_three, dr, skip, pf5]
  simp only [Nat.reduceAdd, Nat.reduceLT, if_true, if_false, Nat.lt_irrefl, Nat.zero_add]
  simp only [h 1 0 (by omega) (by omega), h 2 0 (by omega) (by omega), h 2 1 (by omega) (by omega), h 3 0 (by omega) (by omega), h 3 1 (by omega) (by omega), h 3 2 (by omega) (by omega), skew_mid h (show 0 < 5 by omega), skew_mid h (show 1 < 5 by omega), skew_mid h (show 2 < 5 by omega)]
  unfold h4
  grind
theorem min5_44 {g : Nat → Nat → Int} (h : Skew 5 g) : dt 4 (fun r j => g (skip 4 r) (skip 4 j)) = pf5 g 4 * pf5 g 4 := by
  rw [dtq_four]
  simp only [dtq_three, dr, skip, pf5]
  simp only [Nat.reduceAdd, Nat.reduceLT, if_true, if_false, Nat.lt_irrefl, Nat.zero_add]
  simp only [h 1 0 (by omega) (by omega), h 2 0 (by omega) (by omega), h 2 1 (by omega) (by omega), h 3 0 (by omega) (by omega), h 3 1 (by omega) (by omega), h 3 2 (by omega) (by omega), skew_mid h (show 0 < 5 by omega), skew_mid h (show 1 < 5 by omega), skew_mid h (show 2 < 5 by omega), skew_mid h (show 3 < 5 by omega)]
  unfold h4
  grind
theorem min5 {g : Nat → Nat → Int} (h : Skew 5 g) : ∀ p q, p < 5 → q < 5 → dt 4 (fun r j => g (skip p r) (skip q j)) = pf5 g p * pf5 g q
  | 0, 0, _, _ => min5_00 h
  | 0, 1, _, _ => min5_01 h
  | 0, 2, _, _ => min5_02 h
  | 0, 3, _, _ => min5_03 h
  | 0, 4, _, _ => min5_04 h
  | 1, 0, _, _ => min5_10 h
  | 1, 1, _, _ => min5_11 h
  | 1, 2, _, _ => min5_12 h
  | 1, 3, _, _ => min5_13 h
  | 1, 4, _, _ => min5_14 h
  | 2, 0, _, _ => min5_20 h
  | 2, 1, _, _ => min5_21 h
  | 2, 2, _, _ => min5_22 h
  | 2, 3, _, _ => min5_23 h
  | 2, 4, _, _ => min5_24 h
  | 3, 0, _, _ => min5_30 h
  | 3, 1, _, _ => min5_31 h
  | 3, 2, _, _ => min5_32 h
  | 3, 3, _, _ => min5_33 h
  | 3, 4, _, _ => min5_34 h
  | 4, 0, _, _ => min5_40 h
  | 4, 1, _, _ => min5_41 h
  | 4, 2, _, _ => min5_42 h
  | 4, 3, _, _ => min5_43 h
  | 4, 4, _, _ => min5_44 h
  | _ + 5, _, h1, _ => by omega
  | _, _ + 5, _, h2 => by omega
theorem det_six {f : Nat → Nat → Int} (h : Skew 6 f) : dt 6 f = sumN (fun k => sn k * (f 0 (k + 1) * pf5 (fun i j => f (i + 1) (j + 1)) k)) 5 * sumN (fun k => sn k * (f 0 (k + 1) * pf5 (fun i j => f (i + 1) (j + 1)) k)) 5 := by
  have hg : Skew 5 (fun i j => f (i + 1) (j + 1)) := fun i j hi hj => h (i + 1) (j + 1) (by omega) (by omega)
  rw [dt_succ, sumN_first, skew_mid h (show 0 < 6 by omega), Int.zero_mul, Int.mul_zero, Int.zero_add]
  have hk : ∀ k, k < 5 → sn (k + 1) * (f 0 (k + 1) * dt 5 (dr (k + 1) f)) = sumN (fun k => sn k * (f 0 (k + 1) * pf5 (fun i j => f (i + 1) (j + 1)) k)) 5 * (sn k * (f 0 (k + 1) * pf5 (fun i j => f (i + 1) (j + 1)) k)) := fun k hk5 => by
    rw [dt_col 4 (dr (k + 1) f)]
    have e : ∀ i, i < 5 → sn i * (dr (k + 1) f i 0 * dt 4 (fun r j => dr (k + 1) f (skip i r) (j + 1))) = -(pf5 (fun i j => f (i + 1) (j + 1)) k) * (sn i * (f 0 (i + 1) * pf5 (fun i j => f (i + 1) (j + 1)) i)) := fun i hi => by
      have e1 : dr (k + 1) f i 0 = f (i + 1) 0 := by unfold dr; rw [skip_lt (by omega)]
      have e2 : dt 4 (fun r j => dr (k + 1) f (skip i r) (j + 1)) = dt 4 (fun r j => (fun i j => f (i + 1) (j + 1)) (skip i r) (skip k j)) := dt_congr 4 (fun r j _ _ => by unfold dr; rw [skip_succ])
      rw [e1, e2, min5 hg i k hi hk5, h (i + 1) 0 (by omega) (by omega)]
      grind
    rw [sumN_congr 5 e, sumN_mul, sn_succ]
    grind
  rw [sumN_congr 5 hk]
  exact sumN_mul _ _ _
theorem dt_neg : ∀ (n : Nat) (f : Nat → Nat → Int), dt n (fun i j => -f i j) = sn n * dt n f
  | 0, _ => by rw [dt_zero, dt_zero]; rfl
  | n + 1, f => by
    rw [dt_succ, dt_succ, ← sumN_mul]
    refine sumN_congr _ fun k _ => ?_
    rw [show dr k (fun i j => -f i j) = fun i j => -(dr k f i j) from rfl, dt_neg n, sn_succ]
    grind
theorem det_odd {n : Nat} {f : Nat → Nat → Int} (h : Skew n f) (hn : n % 2 = 1) : dt n f = 0 := by
  have h1 := dt_turn n f
  rw [dt_congr n (f := fun i j => f j i) (g := fun i j => -f i j) (fun i j hi hj => h j i hj hi), dt_neg] at h1
  have h2 : sn n = -1 := by unfold sn; rw [if_pos hn]
  rw [h2] at h1
  omega
theorem popc_allH : ∀ n : Fin 7, popcS (2 ^ n.val - 1) = n.val := by decide
theorem half_sq (l : List (List Int)) {n : Nat} (h1 : 1 ≤ n) (h6 : n ≤ 6) (h : Skew n (at2 l)) : dt n (at2 l) = halfF l n 3 (2 ^ n - 1) * halfF l n 3 (2 ^ n - 1) ∧ (n % 2 = 1 → halfF l n 3 (2 ^ n - 1) = 0) := by
  have ho : n % 2 = 1 → halfF l n 3 (2 ^ n - 1) = 0 := fun hn => by
    have hp := popc_allH ⟨n, by omega⟩
    simp only at hp
    have p : 2 ^ n ≤ 2 ^ 6 := Nat.pow_le_pow_right (by omega) h6
    exact half_odd l h6 3 _ (by omega) (by rw [hp]; exact hn)
  refine ⟨?_, ho⟩
  by_cases hn : n % 2 = 1
  · rw [ho hn, det_odd h hn]; rfl
  · have : n = 2 ∨ n = 4 ∨ n = 6 := by omega
    rcases this with rfl | rfl | rfl
    · rw [show 2 ^ 2 - 1 = 3 by decide, half_two, det_two h]
    · rw [show 2 ^ 4 - 1 = 15 by decide, half_four, det_four h]; rfl
    · rw [show 2 ^ 6 - 1 = 63 by decide, det_six h]
      have e : halfF l 6 3 63 = sumN (fun k => sn k * (at2 l 0 (k + 1) * pf5 (fun i j => at2 l (i + 1) (j + 1)) k)) 5 := by
        rw [half_six]
        simp [sumN, sn, pf5, skip]
        omega
      rw [e]

end Go.Proofs.Ythdemjfllfhhpaa
end

section
namespace Go.Proofs.Ythdemjfllfhhpaa
open Go.RowKit Go.Deep

theorem sumN_more (f : Nat → Int) (n : Nat) : ∀ m, (∀ j, n ≤ j → j < n + m → f j = 0) → sumN f (n + m) = sumN f n
  | 0, _ => rfl
  | m + 1, h => by
    show sumN f (n + m) + f (n + m) = _
    rw [sumN_more f n m (fun j h1 h2 => h j h1 (by omega)), h (n + m) (by omega) (by omega)]
    omega
theorem sumN_one (f : Nat → Int) (k : Nat) : ∀ n, k < n → (∀ j, j < n → j ≠ k → f j = 0) → sumN f n = f k
  | 0, h, _ => by omega
  | n + 1, h, hz => by
    unfold sumN
    by_cases e : k = n
    · subst e
      rw [sumN_none k (fun j hj => hz j (by omega) (by omega))]; omega
    · rw [sumN_one f k n (by omega) (fun j hj hk => hz j (by omega) hk), hz n (by omega) (fun h => e h.symm)]; omega
theorem sumN_mulR (c : Int) (f : Nat → Int) (n : Nat) : sumN (fun j => f j * c) n = sumN f n * c := by
  rw [sumN_congr n (g := fun j => c * f j) (fun j _ => Int.mul_comm _ _), sumN_mul, Int.mul_comm]

theorem dt_block (m : Nat) : ∀ (n : Nat) (f : Nat → Nat → Int), (∀ i j, i < n → n ≤ j → j < n + m → f i j = 0) → dt (n + m) f = dt n f * dt m (fun i j => f (n + i) (n + j))
  | 0, f, _ => by
    rw [dt_zero, Int.one_mul, Nat.zero_add]
    exact dt_congr m fun i j _ _ => by rw [Nat.zero_add, Nat.zero_add]
  | n + 1, f, h => by
    rw [show n + 1 + m = (n + m) + 1 by omega, dt_succ, show n + m + 1 = (n + 1) + m by omega, sumN_more _ (n + 1) m (fun j h1 h2 => by rw [h 0 j (by omega) h1 h2]; simp), dt_succ, ← sumN_mulR]
    refine sumN_congr _ fun k hk => ?_
    rw [dt_block m n (dr k f) (fun i j h1 h2 h3 => by
      show f (i + 1) (skip k j) = 0
      rw [skip_ge (by omega)]
      exact h _ _ (by omega) (by omega) (by omega))]
    have e : dt m (fun i j => dr k f (n + i) (n + j)) = dt m (fun i j => f (n + 1 + i) (n + 1 + j)) := dt_congr m fun i j _ _ => by
      show f (n + i + 1) (skip k (n + j)) = _
      rw [skip_ge (by omega), show n + i + 1 = n + 1 + i by omega, show n + j + 1 = n + 1 + j by omega]
    rw [e, Int.mul_assoc, Int.mul_assoc]

theorem dt_addS {n r : Nat} (f : Nat → Nat → Int) (c : Nat → Int) (s : Nat → Nat) (hr : r < n) : ∀ k, (∀ m, m < k → s m < n ∧ s m ≠ r) → dt n (setR f r (fun j => f r j + sumN (fun m => c m * f (s m) j) k)) = dt n f
  | 0, _ => by
    rw [dt_congr n (g := f) (fun i j _ _ => by
      unfold setR
      split
      · rename_i h; rw [h]; simp [sumN]
      · rfl)]
  | k + 1, h => by
    have e : ∀ i j, setR f r (fun j => f r j + sumN (fun m => c m * f (s m) j) (k + 1)) i j = setR f r (fun j => 1 * (f r j + sumN (fun m => c m * f (s m) j) k) + c k * f (s k) j) i j := fun i j => by
      unfold setR
      split
      · show f r j + (sumN (fun m => c m * f (s m) j) k + c k * f (s k) j) = 1 * (f r j + sumN (fun m => c m * f (s m) j) k) + c k * f (s k) j
        omega
      · rfl
    obtain ⟨h1, h2⟩ := h k (by omega)
    rw [dt_congr n (fun i j _ _ => e i j), dt_lin n r f 1 (c k) _ _ hr, dt_addS f c s hr k (fun m hm => h m (by omega)), dt_sameR (setR f r (fun j => f (s k) j)) (Ne.symm h2) hr h1 (fun j _ => by unfold setR; rw [if_pos rfl, if_neg h2])]
    omega

def mulF (n : Nat) (A B : Nat → Nat → Int) (i j : Nat) : Int := sumN (fun m => A i m * B m j) n
def oneF (i j : Nat) : Int := if i = j then 1 else 0
def blk (n : Nat) (A B : Nat → Nat → Int) (i j : Nat) : Int := if i < n then (if j < n then A i j else 0) else (if j < n then (if i - n = j then -1 else 0) else B (i - n) (j - n))
def blkT (n : Nat) (A B : Nat → Nat → Int) (t i j : Nat) : Int := if i < t then (if j < n then 0 else mulF n A B i (j - n)) else blk n A B i j
theorem dt_blkT (n : Nat) (A B : Nat → Nat → Int) : ∀ t, t ≤ n → dt (n + n) (blkT n A B t) = dt (n + n) (blk n A B)
  | 0, _ => dt_congr _ fun i j _ _ => by unfold blkT; rw [if_neg (by omega)]
  | t + 1, ht => by
    rw [← dt_blkT n A B t (by omega), ← dt_addS (blkT n A B t) (A t) (fun m => n + m) (show t < n + n by omega) n (fun m hm => ⟨by omega, by omega⟩)]
    refine dt_congr _ fun i j _ hj => ?_
    unfold setR
    by_cases hi : i = t
    · subst hi
      rw [if_pos rfl]
      have e1 : blkT n A B (i + 1) i j = if j < n then 0 else mulF n A B i (j - n) := if_pos (by omega)
      have e2 : blkT n A B i i j = if j < n then A i j else 0 := by unfold blkT blk; rw [if_neg (by omega), if_pos (by omega)]
      have e3 : ∀ m, blkT n A B i (n + m) j = if j < n then (if m = j then -1 else 0) else B m (j - n) := fun m => by unfold blkT blk; rw [if_neg (by omega), if_neg (by omega), Nat.add_sub_cancel_left]
      show _ = blkT n A B i i j + sumN (fun m => A i m * blkT n A B i (n + m) j) n
      rw [e1, e2]
      by_cases hjn : j < n
      · rw [if_pos hjn, if_pos hjn, sumN_one (fun m => A i m * blkT n A B i (n + m) j) j n hjn (fun m _ hmj => by rw [e3, if_pos hjn, if_neg hmj]; simp), e3, if_pos hjn, if_pos rfl]
        omega
      · rw [if_neg hjn, if_neg hjn, Int.zero_add]
        exact sumN_congr n fun m _ => by rw [e3, if_neg hjn]
    · rw [if_neg hi]
      unfold blkT
      by_cases h1 : i < t
      · rw [if_pos (by omega), if_pos h1]
      · rw [if_neg (by omega), if_neg h1]
def colT (n t j : Nat) : Nat := if j < t then n + j else if n ≤ j ∧ j < n + t then j - n else j
theorem dt_colT (n : Nat) (f : Nat → Nat → Int) : ∀ t, t ≤ n → dt (n + n) (fun i j => f i (colT n t j)) = sn t * dt (n + n) f
  | 0, _ => by
    rw [sn_zero, Int.one_mul]
    exact dt_congr _ fun i j _ _ => by
      congr 1
      unfold colT
      rw [if_neg (by omega), if_neg (by omega)]
  | t + 1, ht => by
    have h := dt_exC (fun i j => f i (colT n t j)) (show t ≠ n + t by omega) (show t < n + n by omega) (show n + t < n + n by omega)
    rw [dt_colT n f t (by omega)] at h
    rw [sn_succ]
    have e : dt (n + n) (fun i j => f i (colT n (t + 1) j)) = dt (n + n) (fun i j => f i (colT n t (ex t (n + t) j))) := dt_congr _ fun i j _ _ => by
      congr 1
      unfold colT ex
      repeat (first | split | omega)
    rw [e, h]
    grind
theorem dt_oneF : ∀ n, dt n oneF = 1
  | 0 => rfl
  | n + 1 => by
    rw [dt_corner oneF (fun i _ => if_neg (by omega)), show oneF 0 0 = 1 from rfl, Int.one_mul]
    rw [dt_congr n (g := oneF) (fun i j _ _ => by unfold oneF; by_cases h : i = j <;> simp [h])]
    exact dt_oneF n
theorem pw_neg : ∀ n, pw (-1) n = sn n
  | 0 => rfl
  | n + 1 => by rw [sn_succ, ← pw_neg n]; show -1 * pw (-1) n = _; omega
theorem dt_mul (n : Nat) (A B : Nat → Nat → Int) : dt n (mulF n A B) = dt n A * dt n B := by
  have h1 : dt (n + n) (blk n A B) = dt n A * dt n B := by
    rw [dt_block n n (blk n A B) (fun i j h1 h2 _ => by unfold blk; rw [if_pos h1, if_neg (by omega)])]
    congr 1
    · exact dt_congr n fun i j hi hj => by unfold blk; rw [if_pos hi, if_pos hj]
    · exact dt_congr n fun i j _ _ => by unfold blk; rw [if_neg (by omega), if_neg (by omega), Nat.add_sub_cancel_left, Nat.add_sub_cancel_left]
  have h2 := dt_colT n (blkT n A B n) n (Nat.le_refl _)
  rw [dt_blkT n A B n (Nat.le_refl _), h1] at h2
  have h3 : dt (n + n) (fun i j => blkT n A B n i (colT n n j)) = dt n (mulF n A B) * sn n := by
    rw [dt_block n n _ (fun i j h1 h2 h3 => by
      show blkT n A B n i (colT n n j) = 0
      have ec : colT n n j = j - n := by unfold colT; rw [if_neg (by omega), if_pos ⟨h2, h3⟩]
      rw [ec]
      unfold blkT
      rw [if_pos h1, if_pos (by omega)])]
    congr 1
    · refine dt_congr n fun i j hi hj => ?_
      show blkT n A B n i (colT n n j) = _
      have ec : colT n n j = n + j := by unfold colT; rw [if_pos hj]
      rw [ec]
      unfold blkT
      rw [if_pos hi, if_neg (by omega), Nat.add_sub_cancel_left]
    · rw [dt_congr n (g := fun i j => -1 * oneF i j) (fun i j hi hj => by
        show blkT n A B n (n + i) (colT n n (n + j)) = _
        have ec : colT n n (n + j) = j := by unfold colT; rw [if_neg (by omega), if_pos (by omega), Nat.add_sub_cancel_left]
        rw [ec]
        unfold blkT blk oneF
        rw [if_neg (show ¬ n + i < n by omega), if_neg (show ¬ n + i < n by omega), if_pos hj, Nat.add_sub_cancel_left]
        by_cases e : i = j <;> simp [e]), dt_scale (-1) n oneF, dt_oneF, pw_neg]
      omega
  rw [h3] at h2
  have h4 := sn_sq n
  have h5 : dt n (mulF n A B) * (sn n * sn n) = sn n * sn n * (dt n A * dt n B) := by grind
  rw [h4] at h5
  omega

def selN (s n i : Nat) : Nat := ((sel s n n).map (·.1)).getD i 0
theorem pickTo_at (c : Nat) (x : List Int) (m j : Nat) (hj : j < (sel c m m).length) : (pickTo c x m m).getD j 0 = x.getD (selN c m j) 0 := by
  unfold pickTo selN
  simp [List.getD, hj]
theorem partL_at (l : List (List Int)) (s c : Nat) {i j : Nat} (hi : i < (sel s l.length l.length).length) (hj : j < (sel c (l.getD 0 []).length (l.getD 0 []).length).length) :
    at2 (partL l s c) i j = at2 l (selN s l.length i) (selN c (l.getD 0 []).length j) := by
  have e1 : (partL l s c).getD i [] = pickTo c (l.getD (selN s l.length i) []) (l.getD 0 []).length (l.getD 0 []).length := by
    unfold partL partRows selN
    simp [List.getD, hi]
  unfold at2
  rw [e1, pickTo_at _ _ _ _ hj]
theorem selN_but : ∀ n : Fin 7, ∀ k : Fin 6, ∀ j : Fin 6, k.val < n.val → j.val + 1 < n.val → selN (2 ^ n.val - 1 - 2 ^ k.val) n.val j.val = skip k.val j.val := by decide +kernel
theorem sel_but_len : ∀ n : Fin 7, ∀ k : Fin 6, k.val < n.val → (sel (2 ^ n.val - 1 - 2 ^ k.val) n.val n.val).length + 1 = n.val := by decide +kernel
theorem partL_but {l : List (List Int)} {n r k i j : Nat} (hn : l.length = n) (hw : (l.getD 0 []).length = n) (h6 : n ≤ 6) (hr : r < n) (hk : k < n) (hi : i + 1 < n) (hj : j + 1 < n) :
    at2 (partL l (2 ^ n - 1 - 2 ^ r) (2 ^ n - 1 - 2 ^ k)) i j = at2 l (skip r i) (skip k j) := by
  have l1 := sel_but_len ⟨n, by omega⟩ ⟨r, by omega⟩ hr
  have l2 := sel_but_len ⟨n, by omega⟩ ⟨k, by omega⟩ hk
  simp only at l1 l2
  rw [partL_at l _ _ (by rw [hn]; omega) (by rw [hw]; omega), hn, hw]
  have e1 := selN_but ⟨n, by omega⟩ ⟨r, by omega⟩ ⟨i, by omega⟩ hr hi
  have e2 := selN_but ⟨n, by omega⟩ ⟨k, by omega⟩ ⟨j, by omega⟩ hk hj
  simp only at e1 e2
  rw [e1, e2]
theorem rowF_dt : ∀ (d : Nat) (l : List (List Int)), SqD d l → rowF d l = dt d (at2 l)
  | 0, _, _ => rfl
  | d + 1, l, h => by
    obtain ⟨hT, hw⟩ := h.2 (by omega)
    have h6 := hT.2.1
    have hn := h.1
    rw [rowF_succ, dt_succ]
    refine sumN_congr _ fun k hk => ?_
    rw [sg_sn, rowF_dt d _ (minor_sq h hk)]
    have e : dt d (at2 (minorL l (d + 1) k)) = dt d (dr k (at2 l)) := dt_congr d fun i j hi hj => by
      have := partL_but (r := 0) (k := k) (i := i) (j := j) hn hw (by omega) (by omega) hk (by omega) (by omega)
      exact this
    rw [e]

end Go.Proofs.Ythdemjfllfhhpaa
end

section
namespace Go.Proofs.Ythdemjfllfhhpaa
open Go.RowKit Go.Deep

theorem selN_lt {s n i : Nat} (h : i < (sel s n n).length) : selN s n i < n := by
  unfold selN
  have e : ((sel s n n).map (·.1)).getD i 0 = ((sel s n n)[i]).1 := by simp [List.getD, h]
  rw [e]
  exact ((sel s n n)[i]).2
theorem has_turn {l : List (List Int)} {n m k : Nat} (hT : TabIn l) (hn : l.length = n) (hmm : (l.getD 0 []).length = m) (h : hasB l k (2 ^ n) (2 ^ m) = true) : hasB (turnL l) k (2 ^ m) (2 ^ n) = true := by
  have h6 := hT.2.1
  have hw := hT.width
  have p1 : 2 ^ n ≤ 2 ^ 6 := Nat.pow_le_pow_right (by omega) (by omega)
  have p2 : 2 ^ m ≤ 2 ^ 6 := Nat.pow_le_pow_right (by omega) (by omega)
  obtain ⟨r, c, ⟨r1, r2⟩, ⟨c1, c2⟩, hd⟩ := hasB_iff.1 h
  refine hasB_iff.2 ⟨c, r, ⟨c1, c2⟩, ⟨r1, r2⟩, ?_⟩
  have e0 : ((turnL l).getD 0 []).length = n := (tabF_len _ _ _ _ (by omega)).trans hn
  have e1 : (turnL l).length = m := (turnL_length l).trans hmm
  have g1 := popcS_sel ⟨n, by omega⟩ ⟨r, by omega⟩ r1
  have g2 := popcS_sel ⟨m, by omega⟩ ⟨c, by omega⟩ c1
  simp only at g1 g2
  have e : dt k (at2 (partL (turnL l) c r)) = dt k (fun i j => at2 (partL l r c) j i) := dt_congr k fun i j hi hj => by
    rw [partL_at (turnL l) c r (by rw [e1]; omega) (by rw [e0]; omega), partL_at l r c (by rw [hn]; omega) (by rw [hmm]; omega), e0, e1, hn, hmm]
    exact tabF_at _ _ _ _ _ (by rw [hmm]; exact selN_lt (by omega)) (by rw [hn]; exact selN_lt (by omega))
  rw [e, dt_turn]
  exact hd
theorem turn_turn {l : List (List Int)} (hT : TabIn l) : TabIn (turnL l) ∧ (turnL l).length = (l.getD 0 []).length ∧ ((turnL l).getD 0 []).length = l.length :=
  ⟨tabIn_of (tabIn_turn hT), turnL_length l, tabF_len _ _ _ _ (by have := hT.width; omega)⟩
theorem turnL_back {l : List (List Int)} {n m k : Nat} (hT : TabIn l) (hn : l.length = n) (hmm : (l.getD 0 []).length = m) (h : hasB (turnL l) k (2 ^ m) (2 ^ n) = true) : hasB l k (2 ^ n) (2 ^ m) = true := by
  obtain ⟨h1, h2, h3⟩ := turn_turn hT
  have := has_turn h1 (h2.trans hmm) (h3.trans hn) h
  rw [turnL_turnL hT] at this
  exact this
theorem rank_turn {l : List (List Int)} {n m : Nat} (hT : TabIn l) (hn : l.length = n) (hmm : (l.getD 0 []).length = m) : rkR (turnL l) (2 ^ n) (2 ^ m) = rkR l (2 ^ m) (2 ^ n) := by
  have h6 := hT.2.1
  have hw := hT.width
  obtain ⟨_, _, a3⟩ := rank_down (l := l) (n := n) (m := m) (by omega) (by omega)
  obtain ⟨_, _, b3⟩ := rank_down (l := turnL l) (n := m) (m := n) (by omega) (by omega)
  have q1 : rkR l (2 ^ m) (2 ^ n) ≤ rkR (turnL l) (2 ^ n) (2 ^ m) := by
    by_cases h0 : 1 ≤ rkR l (2 ^ m) (2 ^ n)
    · cases hb : hasB l (rkR l (2 ^ m) (2 ^ n)) (2 ^ n) (2 ^ m) with
      | false => exact absurd rfl ((a3 _ h0).2 hb)
      | true => exact (b3 _ h0).1 (has_turn hT hn hmm hb)
    · omega
  have q2 : rkR (turnL l) (2 ^ n) (2 ^ m) ≤ rkR l (2 ^ m) (2 ^ n) := by
    by_cases h0 : 1 ≤ rkR (turnL l) (2 ^ n) (2 ^ m)
    · cases hb : hasB (turnL l) (rkR (turnL l) (2 ^ n) (2 ^ m)) (2 ^ m) (2 ^ n) with
      | false => exact absurd rfl ((b3 _ h0).2 hb)
      | true => exact (a3 _ h0).1 (turnL_back hT hn hmm hb)
    · omega
  omega
theorem popc_full : ∀ n : Fin 7, ∀ s : Fin 64, s.val < 2 ^ n.val → popcS s.val = n.val → s.val = 2 ^ n.val - 1 := by decide +kernel
theorem popc_all : ∀ n : Fin 7, popcS (2 ^ n.val - 1) = n.val := by decide +kernel
theorem rank_full {l : List (List Int)} {n : Nat} (h : sqB l = true) (hn : l.length = n) : rkR l (2 ^ n) (2 ^ n) = n ↔ ordF l n n 0 ≠ 0 := by
  obtain ⟨hT, hw⟩ := sqB_of h
  have h6 := hT.2.1
  have h1 := hT.1
  have p1 : 2 ^ n ≤ 2 ^ 6 := Nat.pow_le_pow_right (by omega) (by omega)
  have q1 : 1 ≤ 2 ^ n := Nat.pow_pos (by omega)
  obtain ⟨a1, _, a3⟩ := rank_down (l := l) (n := n) (m := n) (by omega) (by omega)
  obtain ⟨c1, c2⟩ := a3 n (by omega)
  have hf : partL l (2 ^ n - 1) (2 ^ n - 1) = l := by
    have := partL_full hT.rec
    rw [← hw, hn] at this
    exact this
  rw [ordF_all _ (by omega)]
  have e : hasB l n (2 ^ n) (2 ^ n) = true ↔ dt n (at2 l) ≠ 0 := by
    rw [hasB_iff]
    constructor
    · rintro ⟨r, c, ⟨r1, r2⟩, ⟨s1, s2⟩, hd⟩
      have e1 := popc_full ⟨n, by omega⟩ ⟨r, by omega⟩ r1 r2
      have e2 := popc_full ⟨n, by omega⟩ ⟨c, by omega⟩ s1 s2
      simp only at e1 e2
      rw [e1, e2, hf] at hd
      exact hd
    · intro hd
      have e3 := popc_all ⟨n, by omega⟩
      exact ⟨2 ^ n - 1, 2 ^ n - 1, ⟨by omega, e3⟩, ⟨by omega, e3⟩, by rw [hf]; exact hd⟩
  constructor
  · intro hr
    cases hb : hasB l n (2 ^ n) (2 ^ n) with
    | false => exact absurd hr (c2 hb)
    | true => exact e.1 hb
  · intro hd
    have := c1 (e.2 hd)
    omega

end Go.Proofs.Ythdemjfllfhhpaa
end

section
namespace Go.Proofs.Ythdemjfllfhhpaa
open Go.RowKit Go.Deep

theorem popcS_but : ∀ n : Fin 7, ∀ k : Fin 6, k.val < n.val → popcS (2 ^ n.val - 1 - 2 ^ k.val) = n.val - 1 := by decide +kernel
theorem but_lt : ∀ n : Fin 7, ∀ k : Fin 6, k.val < n.val → 2 ^ n.val - 1 - 2 ^ k.val < 2 ^ n.val ∧ 2 ^ n.val - 1 - 2 ^ k.val ≤ 63 := by decide +kernel

def othF (l : List (List Int)) (n i k : Nat) : Int := sg (i + k) (ordF (partL l (2 ^ n - 1 - 2 ^ k) (2 ^ n - 1 - 2 ^ i)) (n - 1) (n - 1) 0)
def otherR (l : List (List Int)) (n i j : Nat) : List Int := (List.range j).map fun k => othF l n i k
theorem otherR_succ (l : List (List Int)) (n i j : Nat) : otherR l n i (j + 1) = otherR l n i j ++ [othF l n i j] := by simp [otherR, List.range_succ]
theorem otherR_length (l : List (List Int)) (n i j : Nat) : (otherR l n i j).length = j := by simp [otherR]
def otherTo (l : List (List Int)) (n r : Nat) : List (List Int) := (List.range r).map fun i => otherR l n i n
theorem otherTo_succ (l : List (List Int)) (n r : Nat) : otherTo l n (r + 1) = otherTo l n r ++ [otherR l n r n] := by simp [otherTo, List.range_succ]
theorem otherTo_length (l : List (List Int)) (n r : Nat) : (otherTo l n r).length = r := by simp [otherTo]
theorem otherTo_all (l : List (List Int)) (n : Nat) : otherTo l n n = tabF n n (othF l n) := rfl
theorem RB.later {wo wr w1 : World} {v : Value} {x : List Int} (h : RB wo wr v x) (hs : wr.Since wr.heap.size w1) : RB wo w1 v x :=
  ⟨h.since.trans (since_mono hs h.since.size), World.ownsRow.kept h.own (row := none) ⟨hs.os, hs.tape, hs.output, hs.size, fun k hk _ => hs.block k hk⟩ (by cases hv : v.ownBlock <;> simp)⟩

set_option maxRecDepth 100000 in
set_option maxHeartbeats 4000000 in
theorem l2Other_any (a : Option Addr) (cap n : Nat) (l : List (List Int)) (w : World) (hn : l.length = n) (hT : TabIn l) (hmm : (l.getD 0 []).length = n) (hm : MatR w a l) :
    Calls Try.prog 85 #[.slice a n cap] w fun e w' => ∃ a' cap', e = .returned (.slice a' n cap') ∧ w.Since w.heap.size w' ∧ InT w.heap.size w'.heap.size w' a' (tabF n n (othF l n)) := by
  obtain ⟨i42, hi42⟩ := info42_parts
  obtain ⟨i3, hi3⟩ := info3_parts
  have HI := Lib.hid hi42
  have HJ := Lib.hid hi3
  clear hi42 hi3
  have hst := bt_start w (fun _ => none) (fun _ => 0) #[] rfl
  have h6 := hT.2.1
  have h1 := hT.1
  rw [hn] at h6 h1
  have e1 := pow_wrap n h6
  have hand := fun (q : Nat) (hq : q < n) => andNot_fin ⟨n, by omega⟩ ⟨q, by omega⟩ hq
  have hbl := fun (q : Nat) (hq : q < n) => but_lt ⟨n, by omega⟩ ⟨q, by omega⟩ hq
  have hbp := fun (q : Nat) (hq : q < n) => popcS_but ⟨n, by omega⟩ ⟨q, by omega⟩ hq
  simp only at hand hbl hbp
  have hsq : ∀ i k, i < n → k < n → SqD (n - 1) (partL l (2 ^ n - 1 - 2 ^ k) (2 ^ n - 1 - 2 ^ i)) := fun i k hi hk => by
    have h := part_sq hT (s := 2 ^ n - 1 - 2 ^ k) (c := 2 ^ n - 1 - 2 ^ i) (by rw [hn]; exact (hbl k hk).1) (by rw [hmm]; exact (hbl i hi).1) (by rw [hbp k hk, hbp i hi])
    rw [hbp k hk] at h
    exact h
  have hfb : ∀ i k, i < n → k < n → -(34012224000000 : Int) ≤ ordF (partL l (2 ^ n - 1 - 2 ^ k) (2 ^ n - 1 - 2 ^ i)) (n - 1) (n - 1) 0 ∧ ordF (partL l (2 ^ n - 1 - 2 ^ k) (2 ^ n - 1 - 2 ^ i)) (n - 1) (n - 1) 0 ≤ 34012224000000 := fun i k hi hk => by
    have h := hsq i k hi hk
    by_cases h0 : 1 ≤ n - 1
    · have hb := ordF_bd (h.2 h0).1 h.1 (h.2 h0).2 (n - 1) (Nat.le_refl _) 0
      have := p180_le (n - 1) (by omega)
      omega
    · rw [show n - 1 = 0 by omega, ordF_zero]; omega
  have HPART := Lib.hid (fun (s c : Nat) (hs : s ≤ 63) (hc : c ≤ 63) (V : World) (h : w.Since w.heap.size V) => l1Part_any a cap n s c l V hn hT hs hc (hm.since h))
  have HSQ := Lib.hid hsq
  have HFB := Lib.hid hfb
  have HAND := Lib.hid hand
  have HBL := Lib.hid hbl
  obtain ⟨Aa, hA⟩ : ∃ A, A = 2 ^ n - 1 := ⟨_, rfl⟩
  rw [← hA] at e1
  have HA := Lib.hid hA
  clear hn hT hmm hm hand hbl hbp hsq hfb hA
  go_enter Try.func85, Try.ntmps85
  go_wp2
  rw [e1]
  go_loopg [3, 5, 6, 7, 8] n (fun g v i _ _ _ wr => ∃ r : Nat, ∃ A C, r ≤ n ∧ g = n - r ∧ i = .int .i64 r ∧ BT w wr v (otherTo l n r) A C)
  case atStart => exact ⟨0, _, _, Nat.zero_le _, rfl, rfl, hst⟩
  case round =>
    obtain ⟨r, A, C, hr, rfl, rfl, hR⟩ := hrel
    clear hst
    by_cases hlt : r < n
    · have HR := Lib.hid hR
      have hrb := rb_start wr #[] rfl
      have HRB := Lib.hid hrb
      have hsz := hR.since.size
      have hlen := otherTo_length l n r
      obtain ⟨wo, hwo⟩ : ∃ wo : World, wo = wr := ⟨_, rfl⟩
      clear hR hrb
      go_wp2
      subst hwo
      go_loopg [6, 7, 8] n (fun g v k _ wi => ∃ j : Nat, j ≤ n ∧ g = n - j ∧ k = .int .i64 j ∧ RB wo wi v (otherR l n r j))
      case atStart => exact ⟨0, Nat.zero_le _, rfl, rfl, HRB.out⟩
      case round =>
        obtain ⟨j, hj, rfl, rfl, hI⟩ := hrel
        clear HRB
        by_cases hjn : j < n
        · have hS := Lib.hid (HR.out.since.trans (since_mono hI.since hsz))
          have HII := Lib.hid hI
          have hle := otherR_length l n r j
          have hzi := hI.since.size
          clear hI
          obtain ⟨s1, hs1⟩ : ∃ s, s = Aa - 2 ^ j := ⟨_, rfl⟩
          obtain ⟨s2, hs2⟩ : ∃ s, s = Aa - 2 ^ r := ⟨_, rfl⟩
          have ha1 := HAND.out j hjn
          have ha2 := HAND.out r hlt
          have hb1 := (HBL.out j hjn).2
          have hb2 := (HBL.out r hlt).2
          have hq := HSQ.out r j hlt hjn
          have hf := HFB.out r j hlt hjn
          rw [← HA.out, ← hs1] at ha1 hb1
          rw [← HA.out, ← hs2] at ha2 hb2
          rw [← HA.out, ← hs1, ← hs2] at hq hf
          have EP := fun (V : World) (h : w.Since w.heap.size V) => HPART.out s1 s2 hb1 hb2 V h
          obtain ⟨L, hL⟩ : ∃ L, partL l s1 s2 = L := ⟨_, rfl⟩
          rw [hL] at hq hf
          simp only [hL, hq.1] at EP
          obtain ⟨n1, hn1⟩ : ∃ k, n - 1 = k := ⟨_, rfl⟩
          rw [hn1] at hq hf
          simp only [hn1] at EP
          replace EP := Lib.hid EP
          have EV := fun (a3 : Option Addr) (k3 : Nat) (V : World) (h : MatR V a3 L) => l2Value_sq a3 k3 n1 L hq V h
          obtain ⟨f2, hf2⟩ : ∃ f, ordF L n1 n1 0 = f := ⟨_, rfl⟩
          rw [hf2] at hf
          simp only [hf2] at EV
          replace EV := Lib.hid EV
          have hot : othF l n r j = sg (r + j) f2 := by
            unfold othF
            rw [← HA.out, ← hs1, ← hs2, hL, hn1, hf2]
          have HOT := Lib.hid hot
          have hwq1 := pow_in ⟨j, by omega⟩
          have hwq2 := pow_in ⟨r, by omega⟩
          simp only at hwq1 hwq2
          have hm1 : min j 64 = j := by omega
          have hm2 : min r 64 = r := by omega
          have hwi : IntKind.i64.wrap ((r : Int) + (j : Int)) = (r : Int) + (j : Int) := IntWalk.i64_in _ ⟨by omega, by omega⟩
          clear hs1 hs2 hq hL hn1 hf2 hot
          go_wp2
          go_region_held3 (fun _ => True) (trivial)
            (first
              | (go_at_call 63; refine (EP.out _ (hS.out.drew)).mono ?_; rintro e w2 ⟨a2, k2, rfl, hs2, hi2⟩; have hs2 := since_of_drew hs2; have HI2 := Lib.hid hi2.matR; have HS2 := Lib.hid hs2; clear hs2 hi2)
              | (go_at_call 62; refine (EV.out a2 k2 w2 HI2.out).mono ?_; rintro e w3 ⟨rfl, hd3⟩; have HS3 := Lib.hid (HS2.out.trans (since_mono (hd3.since w2.heap.size) HS2.out.size)); clear hd3))
          have HII2 := Lib.hid (HII.out.later HS3.out)
          have hz3 := HS3.out.size
          by_cases hodd : (r + j) % 2 = 1
          · have ho : (((r : Int) + (j : Int)) % 2 == 1) = true := by simp; omega
            have e0 : sg (r + j) f2 = -f2 := by unfold sg; rw [if_pos hodd]
            have w1' : IntKind.i64.wrap (0 - f2) = -f2 := (IntWalk.i64_in _ ⟨by omega, by omega⟩).trans (by omega)
            have w2' : IntKind.i64.wrap (-f2) = -f2 := IntWalk.i64_in _ ⟨by omega, by omega⟩
            go_wp2_with (at_builtin; (refine wpList_append_own _ rfl _ _ 37 rfl wo.heap.size 3 i3 (.int .i64 0) 1 8 Try.underlying37 HJ.out.1 HJ.out.2.1 HJ.out.2.2.1 HJ.out.2.2.2 rfl (by decide) _ _ _ rfl (HII2.out.own.alloc _) ⟨w3.heap.size, 0, none⟩ 1 1 [.int .i64 (-f2)] rfl rfl (cell_one_at _ _ _ rfl) (fun x hx => by simp at hx; subst hx; rfl) (by unfold maxLen; omega) (by omega) (by simp; omega) ?_); intro v' w5 hown' hgrow _)
            have hP := HII2.out.push hown' hgrow
            rw [← e0, ← HOT.out, ← otherR_succ] at hP
            have HP := Lib.hid hP
            clear hP hown' hgrow
            go_roundg (n - (j + 1))
            case measure => omega
            case rel => exact ⟨j + 1, by omega, rfl, by go_num, HP.out⟩
          · have ho : (((r : Int) + (j : Int)) % 2 == 1) = false := by simp; omega
            have e0 : sg (r + j) f2 = f2 := by unfold sg; rw [if_neg hodd]
            go_wp2_with (at_builtin; (refine wpList_append_own _ rfl _ _ 37 rfl wo.heap.size 3 i3 (.int .i64 0) 1 8 Try.underlying37 HJ.out.1 HJ.out.2.1 HJ.out.2.2.1 HJ.out.2.2.2 rfl (by decide) _ _ _ rfl (HII2.out.own.alloc _) ⟨w3.heap.size, 0, none⟩ 1 1 [.int .i64 (f2)] rfl rfl (cell_one_at _ _ _ rfl) (fun x hx => by simp at hx; subst hx; rfl) (by unfold maxLen; omega) (by omega) (by simp; omega) ?_); intro v' w5 hown' hgrow _)
            have hP := HII2.out.push hown' hgrow
            rw [← e0, ← HOT.out, ← otherR_succ] at hP
            have HP := Lib.hid hP
            clear hP hown' hgrow
            go_roundg (n - (j + 1))
            case measure => omega
            case rel => exact ⟨j + 1, by omega, rfl, by go_num, HP.out⟩
        · have hjj : n = j := by omega
          subst hjj
          obtain ⟨ra, rcp, hv, hrow⟩ := hI.slice
          rw [otherR_length] at hv
          subst hv
          have HII := Lib.hid hI
          have hle := otherR_length l n r n
          have hzi := hI.since.size
          have HROW := Lib.hid hrow
          clear hI hrow
          have HBT := Lib.hid (HR.out.later HII.out.since)
          go_wp2_with (at_builtin; (refine wpList_append_own _ rfl _ _ 23 rfl w.heap.size 37 i42 (.slice none 0 0) 1 24 Try.underlying23 HI.out.1 HI.out.2.1 HI.out.2.2.1 HI.out.2.2.2 rfl (by decide) _ _ _ rfl (HBT.out.own.alloc _) ⟨wr.heap.size, 0, none⟩ 1 1 [.slice ra n rcp] rfl rfl (cell_one_at _ _ _ rfl) (fun x hx => by simp at hx; subst hx; rfl) (by unfold maxLen; omega) (by omega) (by simp; omega) ?_); intro v' w5 hown' hgrow _)
          have hP := HBT.out.push (rv := .slice ra n rcp) (x := otherR l n r n) (a := ra) (cp := rcp) (by rw [otherR_length]) (fun h => by obtain ⟨G, e, h2, h3⟩ := HROW.out h; exact ⟨G, e, by omega, h3⟩) (fun h => by obtain ⟨G, e, h2, _⟩ := HROW.out h; exact HR.out.fresh e h2) hown' hgrow
          rw [← otherTo_succ] at hP
          have HP := Lib.hid hP
          clear hP hown' hgrow hle hlen
          go_roundg (n - (r + 1))
          case measure => omega
          case rel => exact ⟨r + 1, _, _, by omega, rfl, by go_num, HP.out⟩
    · have hrn : n = r := by omega
      subst hrn
      obtain ⟨ra, rcp, hv, hin⟩ := hR.slice
      rw [otherTo_length] at hv
      subst hv
      have HS := Lib.hid hR.since
      clear hR
      go_wp2
      go_ret
      exact ⟨ra, rcp, rfl, HS.out, hin⟩

set_option maxHeartbeats 1000000 in
theorem specValueOther_any (a : Option Addr) (cap n : Nat) (l : List (List Int)) (w : World) (hn : l.length = n) (hsz : szL l ≤ 1048576) (hm : MatR w a l) :
    Calls Try.prog 33 #[.slice a n cap] w (SpecT w (sqB l) (tabF n n (othF l n))) := by
  have E := l2Square_any a cap n l w hn hsz hm
  cases hs : sqB l with
  | false =>
    rw [hs] at E
    replace E := Lib.hid E
    clear hs hm hn hsz
    go_enter Try.func33, Try.ntmps33
    go_wp2_with fail
    refine (E.out).mono ?_
    rintro e w1 ⟨rfl, hd⟩
    have hs := hd.since w.heap.size
    clear hd
    go_wp2_with fail
    refine (l1None_any w1).mono ?_
    rintro e w2 ⟨rfl, hs2⟩
    go_wp2
    go_ret2
    exact ⟨_, _, rfl, hs.trans (since_mono hs2 hs.size), InT.nil _ _ _ _⟩
  | true =>
    rw [hs] at E
    replace E := Lib.hid E
    obtain ⟨hT, hw⟩ := sqB_of hs
    have E2 := Lib.hid (fun (W : World) (hd : w.Since w.heap.size W) => l2Other_any a cap n l W hn hT (by rw [← hw, hn]) (hm.since hd))
    clear hs hm hn hsz hT hw
    go_enter Try.func33, Try.ntmps33
    go_wp2_with fail
    refine (E.out).mono ?_
    rintro e w1 ⟨rfl, hd⟩
    have HS := Lib.hid (hd.since w.heap.size)
    clear hd
    go_wp2_with fail
    refine (E2.out w1 HS.out).mono ?_
    rintro e w2 ⟨a2, c2, rfl, hs2, hi2⟩
    go_wp2
    go_ret2
    exact ⟨a2, c2, by rw [show (resT true (tabF n n (othF l n))).length = n from tabF_length _ _ _]; rfl, HS.out.trans (since_mono hs2 HS.out.size), hi2.mono HS.out.size (Nat.le_refl _)⟩

end Go.Proofs.Ythdemjfllfhhpaa
end

section
namespace Go.Proofs.Ythdemjfllfhhpaa
open Go.RowKit Go.Deep

def makeL (l u : List (List Int)) : List (List Int) := tabF l.length (u.getD 0 []).length fun i k => sumN (dotF l u i k) u.length
theorem makeL_length (l u : List (List Int)) : (makeL l u).length = l.length := tabF_length _ _ _

set_option maxRecDepth 100000 in
set_option maxHeartbeats 2000000 in
theorem product_any (a : Option Addr) (cap n : Nat) (l : List (List Int)) (a2 : Option Addr) (cap2 n2 : Nat) (u : List (List Int)) (w : World) (hn : l.length = n) (hT : TabIn l) (hm : MatR w a l) (hu : u.length = n2) (hTu : TabIn u) (huw : (l.getD 0 []).length = n2) (hmu : MatR w a2 u) :
    Calls Try.prog 71 #[.slice a n cap, .slice a2 n2 cap2] w fun e w' => e = .returned (.slice (some ⟨w.heap.size + 1 + 1, 0, none⟩) n n) ∧ w.Since w.heap.size w' ∧ OwnT w.heap.size w'.heap.size w' (some ⟨w.heap.size + 1 + 1, 0, none⟩) (makeL l u) := by
  have hw := hTu.width
  have h6 := hT.2.1
  rw [hn] at h6
  have g6 := hTu.2.1
  have g1 := hTu.1
  rw [hu] at g6 g1
  have hwid := fun (W : World) (hs : w.Since w.heap.size W) => width_any a2 cap2 n2 u W hu (by omega) (by omega) (hmu.since hs)
  obtain ⟨m2, hmm⟩ : ∃ m, (u.getD 0 []).length = m := ⟨_, rfl⟩
  have hnt := fun (W : World) (hs : w.Since w.heap.size W) (hb0 : W.cell? ⟨w.heap.size, 0, none⟩ = some (.slice a n cap)) (hb1 : W.cell? ⟨w.heap.size + 1, 0, none⟩ = some (.slice a2 n2 cap2)) =>
    newTable_any 111 #[.pointer (some ⟨w.heap.size + 1, 0, none⟩), .pointer (some ⟨w.heap.size, 0, none⟩)] n m2 (fun i k => sumN (dotF l u i k) n2) W (by omega) (by omega) (enters_of Try.func111 (by kernel_rfl) rfl)
      (fun W' i k hs' hi hk => prodEntry_any (w.heap.size + 1) w.heap.size i k n n2 n2 m2 cap cap2 a a2 l u W' hn hu hT hTu huw hmm rfl ((hs'.cell (a := ⟨w.heap.size + 1, 0, none⟩) (World.block_lt_of_cell? _ _ hb1)).trans hb1) ((hs'.cell (a := ⟨w.heap.size, 0, none⟩) (World.block_lt_of_cell? _ _ hb0)).trans hb0) (hm.since (hs.trans (since_mono hs' hs.size))) (hmu.since (hs.trans (since_mono hs' hs.size))) hi hk)
  have htl : makeL l u = tabF n m2 (fun i k => sumN (dotF l u i k) n2) := by unfold makeL; rw [hmm, hn, hu]
  rw [hmm] at hwid hw
  rw [htl]
  have HW := Lib.hid hwid
  have HNT := Lib.hid hnt
  have HS1 := Lib.hid (show w.Since w.heap.size ((w.alloc (.cells #[.slice a n cap] 48)).alloc (.cells #[.slice a2 n2 cap2] 48)) from (((World.Since.refl _ _).alloc (Nat.le_refl _) _).alloc (by simp) _))
  have hc0 := cell_new_l w (.slice a n cap) 48
  have hc1 := cell_new_l (w.alloc (.cells #[.slice a n cap] 48)) (.slice a2 n2 cap2) 48
  simp only [World.size_alloc] at hc1
  have hcb0 : ((w.alloc (.cells #[.slice a n cap] 48)).alloc (.cells #[.slice a2 n2 cap2] 48)).cell? ⟨w.heap.size, 0, none⟩ = some (.slice a n cap) := (cell_alloc_l _ hc0.1)
  have hcb1 : ((w.alloc (.cells #[.slice a n cap] 48)).alloc (.cells #[.slice a2 n2 cap2] 48)).cell? ⟨w.heap.size + 1, 0, none⟩ = some (.slice a2 n2 cap2) := hc1.1
  clear hwid hnt hm hT hn hmm htl hc0 hc1 hu hTu huw hmu
  go_enter Try.func71, Try.ntmps71
  go_wp2
  go_region_held3 (fun w' => w'.cell? ⟨w.heap.size, 0, none⟩ = some (.slice a n cap) ∧ w'.cell? ⟨w.heap.size + 1, 0, none⟩ = some (.slice a2 n2 cap2)) (go_keep)
    (first
      | (go_at_call 58; refine (HW.out _ ?_).mono ?_; (exact World.Since.drew HS1.out); rintro e w1 ⟨rfl, rfl⟩)
      | (go_at_call 79; refine (HNT.out _ ?_ ?_ ?_).mono ?_; (exact World.Since.drew HS1.out); (exact hcb0); (exact hcb1); rintro e w1 ⟨rfl, hs2, ho⟩; have hcc := hs2.cell (a := ⟨w.heap.size, 0, none⟩) (World.block_lt_of_cell? _ _ hcb0); simp only [World.cell?_drew, hcb0] at hcc; have hcd := hs2.cell (a := ⟨w.heap.size + 1, 0, none⟩) (World.block_lt_of_cell? _ _ hcb1); simp only [World.cell?_drew, hcb1] at hcd))
  all_goals
    go_wp2
    go_ret
    refine ⟨rfl, HS1.out.trans (since_mono (since_of_drew hs2) (by simp; omega)), ?_⟩
    have hz : ((w.alloc (.cells #[.slice a n cap] 48)).alloc (.cells #[.slice a2 n2 cap2] 48)).drew.heap.size = w.heap.size + 1 + 1 := by simp
    rw [hz] at ho
    exact ho.mono (by omega) (Nat.le_refl _)

noncomputable def makeOk (l u : List (List Int)) : Bool := tabIn l && (tabIn u && (((l.getD 0 []).length == u.length) && tabIn (makeL l u)))
theorem szL_make {l u : List (List Int)} (h : TabIn l) (hu : TabIn u) : szL (makeL l u) ≤ 1048576 := szL_tabF _ _ _ (by have := h.2.1; omega) (by have := hu.width; omega)

set_option maxHeartbeats 1000000 in
theorem implTableMake_any (a a2 : Option Addr) (cap cap2 n n2 : Nat) (l u : List (List Int)) (w : World) (hn : l.length = n) (hu : u.length = n2) (hsz : szL l ≤ 1048576) (hszu : szL u ≤ 1048576) (hm : MatR w a l) (hmu : MatR w a2 u) :
    Calls Try.prog 25 #[.slice a n cap, .slice a2 n2 cap2] w (ImplT w (makeOk l u) (makeL l u)) := by
  have E := Lib.hid (implTableIn_any a cap n l w hn hsz hm)
  have E2 := Lib.hid (fun (W : World) (hs : w.Since w.heap.size W) => implTableIn_any a2 cap2 n2 u W hu hszu (hmu.since hs))
  cases hT : tabIn l with
  | false =>
    have hok : makeOk l u = false := by unfold makeOk; rw [hT]; rfl
    rw [hT] at E
    rw [hok]
    clear hT hsz hm hn hok E2 hszu hmu hu
    go_enter Try.func25, Try.ntmps25
    go_wp2_with fail
    refine (E.out).mono ?_
    rintro e w1 ⟨rfl, hs⟩
    go_wp2
    go_ret2
    exact ⟨_, _, rfl, hs, OwnT.nil _ _ _ _⟩
  | true =>
    have hTT := tabIn_of hT
    rw [hT] at E
    cases hTu : tabIn u with
    | false =>
      have hok : makeOk l u = false := by unfold makeOk; rw [hT, hTu]; rfl
      rw [hTu] at E2
      rw [hok]
      clear hT hsz hm hn hok hTT hTu hszu hmu hu
      go_enter Try.func25, Try.ntmps25
      go_wp2_with fail
      refine (E.out).mono ?_
      rintro e w1 ⟨rfl, hs⟩
      go_wp2_with fail
      refine (E2.out w1 hs).mono ?_
      rintro e w2 ⟨rfl, hs2⟩
      go_wp2
      go_ret2
      exact ⟨_, _, rfl, hs.trans (since_mono hs2 hs.size), OwnT.nil _ _ _ _⟩
    | true =>
      have hTTu := tabIn_of hTu
      rw [hTu] at E2
      have h6 := hTT.2.1
      have h1 := hTT.1
      have g6 := hTTu.2.1
      rw [hn] at h6 h1
      rw [hu] at g6
      have E3 := Lib.hid (fun (W : World) (hs : w.Since w.heap.size W) => width_any a cap n l W hn (by omega) (by omega) (hm.since hs))
      have hw := hTT.width
      obtain ⟨m, hmm⟩ : ∃ m, (l.getD 0 []).length = m := ⟨_, rfl⟩
      rw [hmm] at E3 hw
      by_cases hal : m = n2
      · subst hal
        have hok : makeOk l u = tabIn (makeL l u) := by unfold makeOk; rw [hT, hTu, hmm, hu]; simp
        have HE2 := Lib.hid (fun (W : World) (hs : w.Since w.heap.size W) => product_any a cap n l a2 cap2 m u W hn hTT (hm.since hs) hu hTTu hmm (hmu.since hs))
        have HTL := Lib.hid ((makeL_length l u).trans hn)
        have hszl := szL_make hTT hTTu
        rw [hok]
        clear hT hsz hm hn hok hTT hTu hszu hmu hu hTTu hmm
        go_enter Try.func25, Try.ntmps25
        go_wp2_with fail
        refine (E.out).mono ?_
        rintro e w1 ⟨rfl, hs⟩
        go_wp2_with fail
        refine (E2.out w1 hs).mono ?_
        rintro e w2 ⟨rfl, hs2⟩
        have hs12 := hs.trans (since_mono hs2 hs.size)
        go_wp2_with fail
        refine (E3.out w2 hs12).mono ?_
        rintro e w3 ⟨rfl, rfl⟩
        go_wp2_with fail
        refine (HE2.out w2 hs12).mono ?_
        rintro e w3 ⟨rfl, hs3, ho⟩
        have hs13 : w.Since w.heap.size w3 := hs12.trans (since_mono hs3 hs12.size)
        have hz := hs12.size
        go_wp2_with fail
        refine (result_any _ _ _ _ _ (makeL l u) w3 HTL.out hszl ho).mono ?_
        rintro e w4 ⟨a', cap', rfl, hs4, ho4⟩
        go_wp2
        go_ret2
        exact ⟨a', cap', rfl, hs13.trans (since_mono hs4 hs13.size), ho4.mono hz hs4.size⟩
      · have hb : ((m : Int) != (n2 : Int)) = true := by simp; omega
        have hok : makeOk l u = false := by unfold makeOk; rw [hT, hTu, hmm, hu]; simp [hal]
        rw [hok]
        clear hT hsz hm hn hok hTT hTu hszu hmu hu hTTu hmm hal
        go_enter Try.func25, Try.ntmps25
        go_wp2_with fail
        refine (E.out).mono ?_
        rintro e w1 ⟨rfl, hs⟩
        go_wp2_with fail
        refine (E2.out w1 hs).mono ?_
        rintro e w2 ⟨rfl, hs2⟩
        have hs12 := hs.trans (since_mono hs2 hs.size)
        go_wp2_with fail
        refine (E3.out w2 hs12).mono ?_
        rintro e w3 ⟨rfl, rfl⟩
        go_wp2
        go_ret2
        exact ⟨_, _, rfl, hs12, OwnT.nil _ _ _ _⟩

end Go.Proofs.Ythdemjfllfhhpaa
end

section
namespace Go.Proofs.Ythdemjfllfhhpaa
open Go.RowKit Go.Deep

def mv (r i : Nat) : Nat := if i = 0 then r else if i ≤ r then i - 1 else i
theorem mv_zero (i : Nat) : mv 0 i = i := by unfold mv; repeat (first | split | omega)
theorem mv_succ (r i : Nat) : ex r (r + 1) (mv r i) = mv (r + 1) i := by unfold mv ex; repeat (first | split | omega)
theorem mv_skip (r i : Nat) : mv r (i + 1) = skip r i := by unfold mv skip; repeat (first | split | omega)
theorem dt_mv {n : Nat} : ∀ (r : Nat) (f : Nat → Nat → Int), r < n → dt n (fun i j => f (mv r i) j) = sn r * dt n f
  | 0, f, _ => by
    rw [sn_zero, Int.one_mul]
    exact dt_congr n fun i j _ _ => by rw [mv_zero]
  | r + 1, f, h => by
    have e : (fun i j => f (mv (r + 1) i) j) = fun i j => (fun i j => f (ex r (r + 1) i) j) (mv r i) j := by
      funext i j
      show _ = f (ex r (r + 1) (mv r i)) j
      rw [mv_succ]
    rw [e, dt_mv r (fun i j => f (ex r (r + 1) i) j) (by omega), dt_exR f (by omega) (by omega) h, sn_succ]
    rw [Int.mul_neg, Int.neg_mul]
theorem dt_row {n r : Nat} (f : Nat → Nat → Int) (h : r < n + 1) : dt (n + 1) f = sumN (fun k => f r k * (sn (r + k) * dt n (fun i j => f (skip r i) (skip k j)))) (n + 1) := by
  have e := dt_mv r f h
  have e2 : sn r * (sn r * dt (n + 1) f) = dt (n + 1) f := by rw [← Int.mul_assoc, sn_sq, Int.one_mul]
  rw [← e2, ← e, dt_succ, ← sumN_mul]
  refine sumN_congr _ fun k _ => ?_
  have e3 : dr k (fun i j => f (mv r i) j) = fun i j => f (skip r i) (skip k j) := by
    funext i j
    show f (mv r (i + 1)) (skip k j) = _
    rw [mv_skip]
  rw [e3, sn_add]
  show sn r * (sn k * (f (mv r 0) k * _)) = _
  have e4 : mv r 0 = r := rfl
  rw [e4]
  grind
theorem dt_alien {n r s : Nat} (f : Nat → Nat → Int) (hr : r < n + 1) (hs : s < n + 1) : sumN (fun k => f s k * (sn (r + k) * dt n (fun i j => f (skip r i) (skip k j)))) (n + 1) = if s = r then dt (n + 1) f else 0 := by
  by_cases e : s = r
  · subst e
    rw [if_pos rfl, ← dt_row f hs]
  · rw [if_neg e, ← dt_sameR (n := n + 1) (setR f r (f s)) (p := s) (q := r) e hs hr (fun j _ => by unfold setR; rw [if_neg e, if_pos rfl]), dt_row _ hr]
    refine sumN_congr _ fun k _ => ?_
    have e3 : (fun i j => setR f r (f s) (skip r i) (skip k j)) = fun i j => f (skip r i) (skip k j) := by
      funext i j
      unfold setR
      rw [if_neg (by unfold skip; split <;> omega)]
    rw [e3]
    unfold setR
    rw [if_pos rfl]
theorem othF_dt {l : List (List Int)} {n i k : Nat} (hT : TabIn l) (hn : l.length = n) (hw : (l.getD 0 []).length = n) (hi : i < n) (hk : k < n) : othF l n i k = sn (k + i) * dt (n - 1) (fun a b => at2 l (skip k a) (skip i b)) := by
  have h6 := hT.2.1
  unfold othF
  rw [sg_sn, ordF_all _ (by omega), Nat.add_comm i k]
  congr 1
  exact dt_congr _ fun a b ha hb => partL_but hn hw (by omega) hk hi (by omega) (by omega)
theorem other_left {l : List (List Int)} {n i k : Nat} (hT : TabIn l) (hn : l.length = n) (hw : (l.getD 0 []).length = n) (hi : i < n) (hk : k < n) :
    sumN (fun j => at2 l i j * othF l n j k) n = if i = k then dt n (at2 l) else 0 := by
  obtain ⟨m, rfl⟩ : ∃ m, n = m + 1 := ⟨n - 1, by omega⟩
  rw [← dt_alien (at2 l) hk hi]
  exact sumN_congr _ fun j hj => by rw [othF_dt hT hn hw hj hk]; rfl
theorem other_right {l : List (List Int)} {n i k : Nat} (hT : TabIn l) (hn : l.length = n) (hw : (l.getD 0 []).length = n) (hi : i < n) (hk : k < n) :
    sumN (fun j => othF l n i j * at2 l j k) n = if i = k then dt n (at2 l) else 0 := by
  obtain ⟨m, rfl⟩ : ∃ m, n = m + 1 := ⟨n - 1, by omega⟩
  have h := dt_alien (fun a b => at2 l b a) (r := i) (s := k) hi hk
  rw [dt_turn] at h
  have e : (if i = k then dt (m + 1) (at2 l) else 0) = if k = i then dt (m + 1) (at2 l) else 0 := by
    by_cases e : i = k
    · rw [if_pos e, if_pos e.symm]
    · rw [if_neg e, if_neg (fun h => e h.symm)]
  rw [e, ← h]
  refine sumN_congr _ fun j hj => ?_
  rw [othF_dt hT hn hw hi hj, Nat.add_comm j i, Int.mul_comm]
  show at2 l j k * _ = at2 l j k * (sn (i + j) * dt m (fun a b => at2 l (skip j b) (skip i a)))
  rw [← dt_turn m (fun a b => at2 l (skip j b) (skip i a))]
  rfl
theorem othF_bd {l : List (List Int)} {n i k : Nat} (hT : TabIn l) (hn : l.length = n) (hw : (l.getD 0 []).length = n) (hi : i < n) (hk : k < n) : -10000000000 ≤ othF l n i k ∧ othF l n i k ≤ 10000000000 := by
  have h6 := hT.2.1
  rw [othF_dt hT hn hw hi hk, ← sg_sn]
  refine sg_bd ?_
  have hb := dt_bd (n - 1) (fun a b => at2 l (skip k a) (skip i b)) (by omega) (fun a b ha hb => hT.at (by have := skip_bd (k := k) ha; omega) (by have := skip_bd (k := i) hb; omega))
  have hB : bdN (n - 1) ≤ 10000000000 := by
    have : n - 1 ≤ 5 := by omega
    match n - 1, this with
    | 0, _ => decide
    | 1, _ => decide
    | 2, _ => decide
    | 3, _ => decide
    | 4, _ => decide
    | 5, _ => decide
  omega
theorem rec_tabF {n m : Nat} (f : Nat → Nat → Int) (hn : 1 ≤ n ∧ n ≤ 6) (hm : 1 ≤ m ∧ m ≤ 6) : Rec (tabF n m f) := by
  have h0 : ((tabF n m f).getD 0 []).length = m := tabF_len _ _ _ _ (by omega)
  exact ⟨by rw [tabF_length]; omega, by rw [tabF_length]; omega, by rw [h0]; exact hm, fun hr => by rw [h0]; rw [tabF_length] at hr; exact tabF_len _ _ _ _ hr⟩
structure OtherM (l M : List (List Int)) (n : Nat) (v : Int) : Prop where
  len : M.length = n
  wid : (M.getD 0 []).length = n
  rec1 : Rec M
  b1 : ∀ i j k, i < n → j < n → k < (M.getD 0 []).length → -1000000000000 ≤ at2 l i j * at2 M j k ∧ at2 l i j * at2 M j k ≤ 1000000000000
  b2 : ∀ i j k, i < n → j < n → k < (l.getD 0 []).length → -1000000000000 ≤ at2 M i j * at2 l j k ∧ at2 M i j * at2 l j k ≤ 1000000000000
  l1 : (makeL l M).length = n
  l2 : (makeL M l).length = n
  w1 : ((makeL l M).getD 0 []).length = n
  w2 : ((makeL M l).getD 0 []).length = n
  r1 : Rec (makeL l M)
  r2 : Rec (makeL M l)
  e1 : ∀ i k, i < n → k < n → at2 (makeL l M) i k = if i = k then v else 0
  e2 : ∀ i k, i < n → k < n → at2 (makeL M l) i k = if i = k then v else 0
theorem otherM_of {l : List (List Int)} {n : Nat} (h : sqB l = true) (hn : l.length = n) : OtherM l (tabF n n (othF l n)) n (ordF l n n 0) := by
  obtain ⟨hT, hw⟩ := sqB_of h
  have h1 := hT.1
  have h6 := hT.2.1
  have hwn : (l.getD 0 []).length = n := by omega
  have hl : (tabF n n (othF l n)).length = n := tabF_length _ _ _
  have hmw : ((tabF n n (othF l n)).getD 0 []).length = n := tabF_len _ _ _ _ (by omega)
  have hat : ∀ i j, i < n → j < n → at2 (tabF n n (othF l n)) i j = othF l n i j := fun i j hi hj => tabF_at _ _ _ i j hi hj
  have hp : ∀ i j k, i < n → j < n → k < n → -1000000000000 ≤ at2 l i j * othF l n j k ∧ at2 l i j * othF l n j k ≤ 1000000000000 := fun i j k hi hj hk => by
    have b := hT.at (i := i) (k := j) (by omega) (by omega)
    have c := othF_bd hT hn hwn hj hk
    have := mul_bdB b.1 b.2 c.1 c.2
    omega
  have hp2 : ∀ i j k, i < n → j < n → k < n → -1000000000000 ≤ othF l n i j * at2 l j k ∧ othF l n i j * at2 l j k ≤ 1000000000000 := fun i j k hi hj hk => by
    have b := hT.at (i := j) (k := k) (by omega) (by omega)
    have c := othF_bd hT hn hwn hi hj
    have := mul_bdB b.1 b.2 c.1 c.2
    rw [Int.mul_comm]
    omega
  have g1 : 1 ≤ n ∧ n ≤ 6 := by omega
  have q1 : makeL l (tabF n n (othF l n)) = tabF n n fun i k => sumN (dotF l (tabF n n (othF l n)) i k) n := by unfold makeL; rw [hn, hl, hmw]
  have q2 : makeL (tabF n n (othF l n)) l = tabF n n fun i k => sumN (dotF (tabF n n (othF l n)) l i k) n := by unfold makeL; rw [hn, hl, hwn]
  refine ⟨hl, hmw, rec_tabF _ g1 g1, fun i j k hi hj hk => ?_, fun i j k hi hj hk => ?_, by rw [q1, tabF_length], by rw [q2, tabF_length], by rw [q1]; exact tabF_len _ _ _ _ (by omega), by rw [q2]; exact tabF_len _ _ _ _ (by omega), by rw [q1]; exact rec_tabF _ g1 g1, by rw [q2]; exact rec_tabF _ g1 g1, fun i k hi hk => ?_, fun i k hi hk => ?_⟩
  · rw [hmw] at hk
    rw [hat j k hj hk]
    exact hp i j k hi hj hk
  · rw [hwn] at hk
    rw [hat i j hi hj]
    exact hp2 i j k hi hj hk
  · rw [q1, show at2 (tabF n n fun i k => sumN (dotF l (tabF n n (othF l n)) i k) n) i k = sumN (dotF l (tabF n n (othF l n)) i k) n from tabF_at _ _ _ i k hi hk, ordF_all _ (by omega), ← other_left hT hn hwn hi hk]
    exact sumN_congr _ fun j hj => by show at2 l i j * at2 _ j k = _; rw [hat j k hj hk]
  · rw [q2, show at2 (tabF n n fun i k => sumN (dotF (tabF n n (othF l n)) l i k) n) i k = sumN (dotF (tabF n n (othF l n)) l i k) n from tabF_at _ _ _ i k hi hk, ordF_all _ (by omega), ← other_right hT hn hwn hi hk]
    exact sumN_congr _ fun j hj => by show at2 _ i j * at2 l j k = _; rw [hat i j hi hj]

end Go.Proofs.Ythdemjfllfhhpaa
end

section
namespace Go.Proofs.Ythdemjfllfhhpaa
open Go.RowKit Go.Deep

theorem sumN_some {f : Nat → Int} {n : Nat} (h : sumN f n ≠ 0) : ∃ i, i < n ∧ f i ≠ 0 :=
  Classical.byContradiction fun hno => h (sumN_none n fun j hj => Classical.byContradiction fun h2 => hno ⟨j, hj, h2⟩)
theorem dt_sumR {k r : Nat} (f : Nat → Nat → Int) (c : Nat → Int) (u : Nat → Nat → Int) (hr : r < k) : ∀ N, dt k (setR f r (fun j => sumN (fun m => c m * u m j) N)) = sumN (fun m => c m * dt k (setR f r (u m))) N
  | 0 => by
    have e := dt_lin k r f 0 0 (u 0) (u 0) hr
    rw [dt_congr k (g := setR f r (fun j => 0 * u 0 j + 0 * u 0 j)) (fun i j _ _ => by unfold setR; split <;> simp [sumN]), e]
    simp [sumN]
  | N + 1 => by
    have e := dt_lin k r f 1 (c N) (fun j => sumN (fun m => c m * u m j) N) (u N) hr
    rw [dt_congr k (g := setR f r (fun j => 1 * sumN (fun m => c m * u m j) N + c N * u N j)) (fun i j _ _ => by
      unfold setR
      split
      · have e2 : sumN (fun m => c m * u m j) (N + 1) = sumN (fun m => c m * u m j) N + c N * u N j := rfl
        dsimp only
        rw [e2]; omega
      · rfl), e, dt_sumR f c u hr N]
    have e3 : sumN (fun m => c m * dt k (setR f r (u m))) (N + 1) = sumN (fun m => c m * dt k (setR f r (u m))) N + c N * dt k (setR f r (u N)) := rfl
    rw [e3]
    omega

theorem dt_pickR {k N : Nat} (X Y : Nat → Nat → Int) (h : dt k (fun i j => sumN (fun m => X i m * Y m j) N) ≠ 0) : ∃ g : Nat → Nat, (∀ i, i < k → g i < N) ∧ dt k (fun i j => Y (g i) j) ≠ 0 := by
  have key : ∀ q, q ≤ k → ∃ g : Nat → Nat, (∀ i, i < q → g i < N) ∧ dt k (fun i j => if i < q then Y (g i) j else sumN (fun m => X i m * Y m j) N) ≠ 0 := by
    intro q
    induction q with
    | zero => exact fun _ => ⟨fun _ => 0, fun i hi => absurd hi (Nat.not_lt_zero _), by rw [dt_congr k (g := fun i j => sumN (fun m => X i m * Y m j) N) (fun i j _ _ => if_neg (Nat.not_lt_zero _))]; exact h⟩
    | succ q ih =>
      intro hq
      obtain ⟨g, hg, hd⟩ := ih (by omega)
      obtain ⟨M, hM⟩ : ∃ M : Nat → Nat → Int, M = fun i j => if i < q then Y (g i) j else sumN (fun m => X i m * Y m j) N := ⟨_, rfl⟩
      rw [← hM] at hd
      have e : dt k M = dt k (setR M q (fun j => sumN (fun m => X q m * Y m j) N)) := dt_congr k fun i j _ _ => by
        unfold setR
        split
        · rename_i hi; rw [hM, hi]; exact if_neg (Nat.lt_irrefl _)
        · rfl
      rw [e, dt_sumR M (X q) Y (by omega)] at hd
      obtain ⟨m, hm, hd2⟩ := sumN_some hd
      refine ⟨fun i => if i = q then m else g i, fun i hi => ?_, ?_⟩
      · show (if i = q then m else g i) < N
        split
        · exact hm
        · exact hg i (by omega)
      · rw [dt_congr k (g := setR M q (Y m)) (fun i j _ _ => by
          unfold setR
          dsimp only
          by_cases hi : i = q
          · rw [if_pos (by omega), if_pos hi, if_pos hi]
          · rw [if_neg hi, if_neg hi, hM]
            by_cases h2 : i < q
            · rw [if_pos (by omega)]; exact (if_pos h2).symm
            · rw [if_neg (by omega)]; exact (if_neg h2).symm)]
        exact fun h0 => hd2 (by rw [h0, Int.mul_zero])
  obtain ⟨g, hg, hd⟩ := key k (Nat.le_refl _)
  exact ⟨g, hg, by rw [dt_congr k (g := fun i j => if i < k then Y (g i) j else sumN (fun m => X i m * Y m j) N) (fun i j hi _ => (if_pos hi).symm)]; exact hd⟩
theorem mul_right_some {k n : Nat} {X Y : Nat → Nat → Int} {R C : Nat → Nat} (h : dt k (fun i j => mulF n X Y (R i) (C j)) ≠ 0) : ∃ g : Nat → Nat, (∀ i, i < k → g i < n) ∧ dt k (fun i j => Y (g i) (C j)) ≠ 0 :=
  dt_pickR (fun i m => X (R i) m) (fun m j => Y m (C j)) h
theorem mul_left_some {k n : Nat} {X Y : Nat → Nat → Int} {R C : Nat → Nat} (h : dt k (fun i j => mulF n X Y (R i) (C j)) ≠ 0) : ∃ g : Nat → Nat, (∀ i, i < k → g i < n) ∧ dt k (fun i j => X (R i) (g j)) ≠ 0 := by
  rw [← dt_turn] at h
  obtain ⟨g, hg, hd⟩ := dt_pickR (fun i m => Y m (C i)) (fun m j => X (R j) m) (by
    rw [dt_congr k (g := fun i j => mulF n X Y (R j) (C i)) (fun i j _ _ => sumN_congr n fun m _ => Int.mul_comm _ _)]
    exact h)
  rw [← dt_turn] at hd
  exact ⟨g, hg, hd⟩

theorem dt_someRC {k r : Nat} (M : Nat → Nat → Int) (h : dt (k + 1) M ≠ 0) (hr : r < k + 1) : ∃ c, c < k + 1 ∧ dt k (fun i j => M (skip r i) (skip c j)) ≠ 0 := by
  rw [dt_row M hr] at h
  obtain ⟨c, hc, hd⟩ := sumN_some h
  exact ⟨c, hc, fun h0 => hd (by rw [h0, Int.mul_zero, Int.mul_zero])⟩
theorem dt_zeroR {k r : Nat} (M : Nat → Nat → Int) (hr : r < k) (h : ∀ j, j < k → M r j = 0) : dt k M = 0 := by
  obtain ⟨m, rfl⟩ : ∃ m, k = m + 1 := ⟨k - 1, by omega⟩
  rw [dt_row M hr]
  exact sumN_none _ fun j hj => by rw [h j hj, Int.zero_mul]
theorem dt_zeroC {k c : Nat} (M : Nat → Nat → Int) (hc : c < k) (h : ∀ i, i < k → M i c = 0) : dt k M = 0 := by
  rw [← dt_turn]
  exact dt_zeroR (fun i j => M j i) hc h

theorem low_rows (M : Nat → Nat → Int) : ∀ (v k : Nat) (g h : Nat → Nat), dt k (fun i j => M (g i) (h j)) ≠ 0 →
    ∃ (t : Nat) (g' h' : Nat → Nat), k ≤ t + v ∧ (∀ i, i < t → v ≤ g' i ∧ ∃ i0, i0 < k ∧ g' i = g i0) ∧ (∀ j, j < t → ∃ j0, j0 < k ∧ h' j = h j0) ∧ dt t (fun i j => M (g' i) (h' j)) ≠ 0
  | 0, k, g, h, hd => ⟨k, g, h, by omega, fun i hi => ⟨Nat.zero_le _, i, hi, rfl⟩, fun j hj => ⟨j, hj, rfl⟩, hd⟩
  | v + 1, k, g, h, hd => by
    obtain ⟨t, g', h', h1, h2, h3, h4⟩ := low_rows M v k g h hd
    by_cases hex : ∃ i0, i0 < t ∧ g' i0 = v
    · obtain ⟨i0, hi0, hv⟩ := hex
      obtain ⟨t1, rfl⟩ : ∃ t1, t = t1 + 1 := ⟨t - 1, by omega⟩
      obtain ⟨c, hc, hd2⟩ := dt_someRC (fun i j => M (g' i) (h' j)) h4 hi0
      refine ⟨t1, fun i => g' (skip i0 i), fun j => h' (skip c j), by omega, fun i hi => ?_, fun j hj => h3 _ (skip_bd hj), hd2⟩
      have hs := skip_bd (k := i0) hi
      obtain ⟨a1, a2⟩ := h2 _ hs
      refine ⟨?_, a2⟩
      have hne : g' (skip i0 i) ≠ g' i0 := fun e => h4 (dt_sameR (fun i j => M (g' i) (h' j)) (p := skip i0 i) (q := i0) (by unfold skip; split <;> omega) hs hi0 (fun j _ => by show M (g' _) _ = M (g' _) _; rw [e]))
      show v + 1 ≤ g' (skip i0 i)
      omega
    · refine ⟨t, g', h', by omega, fun i hi => ?_, h3, h4⟩
      obtain ⟨a1, a2⟩ := h2 i hi
      exact ⟨by have : g' i ≠ v := fun e => hex ⟨i, hi, e⟩
                omega, a2⟩

def sylR (n b : Nat) (A B : Nat → Nat → Int) (R C : Nat → Nat) (i j : Nat) : Int := if i < n then (if j < b then B i (C j) else if i = j - b then 1 else 0) else (if j < b then -(mulF n A B (R (i - n)) (C j)) else 0)
def sylP (n : Nat) (A : Nat → Nat → Int) (R : Nat → Nat) (i m : Nat) : Int := if i < n then (if i = m then 1 else 0) else (if m < n then A (R (i - n)) m else if i = m then 1 else 0)
theorem syl_top {n a b : Nat} {A B : Nat → Nat → Int} {R C : Nat → Nat} {i j : Nat} (hi : i < n) : mulF (n + a) (sylP n A R) (sylR n b A B R C) i j = sylR n b A B R C i j := by
  unfold mulF
  rw [sumN_one _ i (n + a) (by omega) (fun m _ hm => by unfold sylP; rw [if_pos hi, if_neg (fun e => hm e.symm), Int.zero_mul])]
  unfold sylP
  rw [if_pos hi, if_pos rfl, Int.one_mul]
theorem sumN_splitM (f : Nat → Int) (n : Nat) : ∀ m, sumN f (n + m) = sumN f n + sumN (fun j => f (n + j)) m
  | 0 => by simp [sumN]
  | m + 1 => by
    show sumN f (n + m) + f (n + m) = sumN f n + (sumN (fun j => f (n + j)) m + f (n + m))
    rw [sumN_splitM f n m]; omega
theorem syl_low {n a b : Nat} {A B : Nat → Nat → Int} {R C : Nat → Nat} {i j : Nat} (hi : i < a) : mulF (n + a) (sylP n A R) (sylR n b A B R C) (n + i) j = sumN (fun m => A (R i) m * sylR n b A B R C m j) n + sylR n b A B R C (n + i) j := by
  unfold mulF
  rw [sumN_splitM, sumN_one (fun q => sylP n A R (n + i) (n + q) * sylR n b A B R C (n + q) j) i a hi (fun m _ hm => by
    unfold sylP; rw [if_neg (by omega), if_neg (by omega), if_neg (by omega), Int.zero_mul])]
  congr 1
  · exact sumN_congr n fun m hm => by unfold sylP; rw [if_neg (by omega), if_pos hm, show n + i - n = i by omega]
  · unfold sylP; rw [if_neg (by omega), if_neg (by omega), if_pos rfl, Int.one_mul]
theorem syl_low0 {n a b : Nat} {A B : Nat → Nat → Int} {R C : Nat → Nat} {i j : Nat} (hi : i < a) (hj : j < b) : mulF (n + a) (sylP n A R) (sylR n b A B R C) (n + i) j = 0 := by
  rw [syl_low hi]
  have e : sumN (fun m => A (R i) m * sylR n b A B R C m j) n = mulF n A B (R i) (C j) := sumN_congr n fun m hm => by unfold sylR; rw [if_pos hm, if_pos hj]
  rw [e]
  unfold sylR
  rw [if_neg (by omega), if_pos hj, show n + i - n = i by omega]
  omega
theorem syl_low1 {n a b : Nat} {A B : Nat → Nat → Int} {R C : Nat → Nat} {i j : Nat} (hi : i < a) (hj : j < n) : mulF (n + a) (sylP n A R) (sylR n b A B R C) (n + i) (b + j) = A (R i) j := by
  rw [syl_low hi, sumN_one _ j n hj (fun m hm hmj => by unfold sylR; rw [if_pos hm, if_neg (by omega), if_neg (by omega), Int.mul_zero])]
  unfold sylR
  rw [if_pos hj, if_neg (by omega), if_pos (by omega), if_neg (by omega), if_neg (by omega)]
  omega

theorem syl_rank {A B : Nat → Nat → Int} {n a b : Nat} {R J K C : Nat → Nat} (hJ : ∀ j, j < a → J j < n) (hK : ∀ i, i < b → K i < n) (hA : dt a (fun i j => A (R i) (J j)) ≠ 0) (hB : dt b (fun i j => B (K i) (C j)) ≠ 0) :
    ∃ (t : Nat) (g h : Nat → Nat), a + b ≤ t + n ∧ (∀ i, i < t → g i < a) ∧ (∀ j, j < t → h j < b) ∧ dt t (fun i j => mulF n A B (R (g i)) (C (h j))) ≠ 0 := by
  obtain ⟨ρ, hρ⟩ : ∃ ρ : Nat → Nat, ρ = fun i => if i < b then K i else n + (i - b) := ⟨_, rfl⟩
  obtain ⟨γ, hγ⟩ : ∃ γ : Nat → Nat, γ = fun j => if j < b then j else b + J (j - b) := ⟨_, rfl⟩
  have r1 : ∀ i, i < b → ρ i = K i := fun i hi => by rw [hρ]; exact if_pos hi
  have r2 : ∀ i, ρ (b + i) = n + i := fun i => by rw [hρ]; show (if b + i < b then _ else _) = _; rw [if_neg (by omega)]; omega
  have c1 : ∀ j, j < b → γ j = j := fun j hj => by rw [hγ]; exact if_pos hj
  have c2 : ∀ j, γ (b + j) = b + J j := fun j => by rw [hγ]; show (if b + j < b then _ else b + J (b + j - b)) = _; rw [if_neg (by omega), show b + j - b = j by omega]
  have hdet : dt (b + a) (fun i j => mulF (n + a) (sylP n A R) (sylR n b A B R C) (ρ i) (γ j)) = dt b (fun i j => B (K i) (C j)) * dt a (fun i j => A (R i) (J j)) := by
    rw [← dt_turn, dt_block a b _ (fun i j hi hj hN => by
      obtain ⟨j', rfl⟩ : ∃ j', j = b + j' := ⟨j - b, by omega⟩
      rw [r2, c1 i hi]
      exact syl_low0 (by omega) hi)]
    rw [← dt_turn b (fun i j => B (K i) (C j)), ← dt_turn a (fun i j => A (R i) (J j))]
    congr 1
    · exact dt_congr b fun i j hi hj => by
        rw [r1 j hj, c1 i hi, syl_top (hK j hj)]
        unfold sylR
        rw [if_pos (hK j hj), if_pos hi]
    · exact dt_congr a fun i j hi hj => by
        rw [r2, c2]
        exact syl_low1 hj (hJ i hi)
  obtain ⟨g, hg, hd⟩ := mul_right_some (n := n + a) (X := sylP n A R) (Y := sylR n b A B R C) (R := ρ) (C := γ) (k := b + a) (by rw [hdet]; exact Int.mul_ne_zero hB hA)
  obtain ⟨t, g', h', e1, e2, e3, e4⟩ := low_rows (sylR n b A B R C) n (b + a) g γ hd
  have hg' : ∀ i, i < t → n ≤ g' i ∧ g' i < n + a := fun i hi => by
    obtain ⟨x1, i0, x2, x3⟩ := e2 i hi
    have := hg i0 x2
    omega
  have hcol : ∀ j, j < t → h' j < b := fun j hj => Classical.byContradiction fun hno => e4 (dt_zeroC _ hj fun i hi => by
    have := hg' i hi
    show sylR n b A B R C (g' i) (h' j) = 0
    unfold sylR
    rw [if_neg (by omega), if_neg hno])
  refine ⟨t, fun i => g' i - n, h', by omega, fun i hi => by have := hg' i hi; show g' i - n < a; omega, hcol, fun h0 => e4 ?_⟩
  rw [dt_congr t (g := fun i j => (-1) * mulF n A B (R (g' i - n)) (C (h' j))) (fun i j hi hj => by
    have := hg' i hi
    unfold sylR
    rw [if_neg (by omega), if_pos (hcol j hj)]
    omega), dt_scale, h0, Int.mul_zero]

theorem add_bit : ∀ s : Fin 64, ∀ x : Fin 6, s.val.testBit x.val = false → popcS (s.val + 2 ^ x.val) = popcS s.val + 1 ∧ s.val + 2 ^ x.val < 64 ∧ (∀ y : Fin 6, (s.val + 2 ^ x.val).testBit y.val = (s.val.testBit y.val || decide (y = x))) := by decide +kernel
theorem in_pow : ∀ n : Fin 7, ∀ s : Fin 64, (∀ y : Fin 6, s.val.testBit y.val = true → y.val < n.val) → s.val < 2 ^ n.val := by decide +kernel
theorem selN_in : ∀ n : Fin 7, ∀ s : Fin 64, s.val < 2 ^ n.val → ∀ y : Fin 6, s.val.testBit y.val = true → ∃ i : Fin 6, i.val < popcS s.val ∧ selN s.val n.val i.val = y.val := by decide +kernel
theorem selN_inj : ∀ n : Fin 7, ∀ s : Fin 64, s.val < 2 ^ n.val → ∀ i j : Fin 6, i.val < popcS s.val → j.val < popcS s.val → selN s.val n.val i.val = selN s.val n.val j.val → i = j := by decide +kernel

theorem set_of {n : Nat} (hn : n ≤ 6) (R : Nat → Nat) : ∀ k, (∀ i, i < k → R i < n) → (∀ i j, i < k → j < k → R i = R j → i = j) → ∃ s, s < 64 ∧ popcS s = k ∧ (∀ i, i < k → s.testBit (R i) = true) ∧ ∀ y, y < 6 → s.testBit y = true → ∃ i, i < k ∧ R i = y
  | 0, _, _ => ⟨0, by omega, by decide, fun i hi => absurd hi (Nat.not_lt_zero _), fun y _ h => by simp at h⟩
  | k + 1, h1, h2 => by
    obtain ⟨s, s1, s2, s3, s4⟩ := set_of hn R k (fun i hi => h1 i (by omega)) (fun i j hi hj e => h2 i j (by omega) (by omega) e)
    have hk := h1 k (by omega)
    have hb : s.testBit (R k) = false := by
      cases hb : s.testBit (R k) with
      | false => rfl
      | true =>
        obtain ⟨i, hi, e⟩ := s4 (R k) (by omega) hb
        have := h2 i k (by omega) (by omega) e
        omega
    obtain ⟨a1, a2, a3⟩ := add_bit ⟨s, s1⟩ ⟨R k, by omega⟩ hb
    simp only at a1 a2 a3
    refine ⟨s + 2 ^ R k, a2, by omega, fun i hi => ?_, fun y hy h => ?_⟩
    · have hi6 := h1 i hi
      have := a3 ⟨R i, by omega⟩
      simp only at this
      rw [this]
      by_cases e : i = k
      · subst e; simp
      · rw [s3 i (by omega)]; simp
    · have := a3 ⟨y, hy⟩
      simp only at this
      rw [this, Bool.or_eq_true] at h
      rcases h with h | h
      · obtain ⟨i, hi, e⟩ := s4 y hy h
        exact ⟨i, by omega, e⟩
      · have e : (⟨y, hy⟩ : Fin 6) = ⟨R k, by omega⟩ := of_decide_eq_true h
        injection e with e
        exact ⟨k, by omega, e.symm⟩

theorem rows_set {n k : Nat} (hn : n ≤ 6) (f : Nat → Nat → Int) (R : Nat → Nat) (hR : ∀ i, i < k → R i < n) (h : dt k (fun i j => f (R i) j) ≠ 0) : ∃ s, s < 2 ^ n ∧ popcS s = k ∧ dt k (fun i j => f (selN s n i) j) ≠ 0 := by
  have hinj : ∀ i j, i < k → j < k → R i = R j → i = j := fun i j hi hj e => Classical.byContradiction fun hne => h (dt_sameR (fun i j => f (R i) j) hne hi hj (fun q _ => by show f (R i) q = f (R j) q; rw [e]))
  obtain ⟨s, s1, s2, s3, s4⟩ := set_of hn R k hR hinj
  have hs := in_pow ⟨n, by omega⟩ ⟨s, s1⟩ (fun y hy => by
    obtain ⟨i, hi, e⟩ := s4 y.val y.2 hy
    have := hR i hi
    show y.val < n
    omega)
  have hk6 := popcS_le s
  have hin : ∀ i, i < k → ∃ q, q < k ∧ selN s n q = R i := fun i hi => by
    have := hR i hi
    obtain ⟨q, q1, q2⟩ := selN_in ⟨n, by omega⟩ ⟨s, s1⟩ hs ⟨R i, by omega⟩ (s3 i hi)
    simp only at q1 q2
    exact ⟨q.val, by omega, q2⟩
  have hsj : ∀ i j, i < k → j < k → selN s n i = selN s n j → i = j := fun i j hi hj e => by
    have := selN_inj ⟨n, by omega⟩ ⟨s, s1⟩ hs ⟨i, by omega⟩ ⟨j, by omega⟩ (by show i < popcS s; omega) (by show j < popcS s; omega) e
    injection this
  refine ⟨s, hs, s2, fun h0 => h ?_⟩
  have e : dt k (fun i j => f (R i) j) = dt k (mulF k (fun i q => if R i = selN s n q then 1 else 0) (fun q j => f (selN s n q) j)) := dt_congr k fun i j hi hj => by
    obtain ⟨q, hq, e⟩ := hin i hi
    unfold mulF
    dsimp only
    rw [sumN_one _ q k hq (fun p hp hpq => by rw [if_neg (fun e2 => hpq (hsj p q hp hq (by rw [e, ← e2]))), Int.zero_mul]), if_pos e.symm, Int.one_mul, e]
  rw [e, dt_mul, h0, Int.mul_zero]

theorem rank_fun {l : List (List Int)} {n m k : Nat} (hT : TabIn l) (hn : l.length = n) (hm : (l.getD 0 []).length = m) {R C : Nat → Nat} (hR : ∀ i, i < k → R i < n) (hC : ∀ j, j < k → C j < m) (h : dt k (fun i j => at2 l (R i) (C j)) ≠ 0) : k ≤ rkR l (2 ^ m) (2 ^ n) := by
  have h6 := hT.2.1
  have hw := hT.width
  rw [hn] at h6
  rw [hm] at hw
  obtain ⟨r, r1, r2, hd⟩ := rows_set h6 (fun x j => at2 l x (C j)) R hR h
  rw [← dt_turn] at hd
  obtain ⟨c, c1, c2, hd2⟩ := rows_set hw.2 (fun y i => at2 l (selN r n i) y) C hC hd
  rw [← dt_turn] at hd2
  by_cases h0 : 1 ≤ k
  · obtain ⟨_, _, a3⟩ := rank_down (l := l) (n := n) (m := m) h6 hw.2
    have p1 : 2 ^ n ≤ 2 ^ 6 := Nat.pow_le_pow_right (by omega) h6
    have p2 : 2 ^ m ≤ 2 ^ 6 := Nat.pow_le_pow_right (by omega) hw.2
    have g1 := popcS_sel ⟨n, by omega⟩ ⟨r, by omega⟩ r1
    have g2 := popcS_sel ⟨m, by omega⟩ ⟨c, by omega⟩ c1
    simp only at g1 g2
    refine (a3 k h0).1 (hasB_iff.2 ⟨r, c, ⟨r1, r2⟩, ⟨c1, c2⟩, ?_⟩)
    rw [dt_congr k (g := fun i j => at2 l (selN r n i) (selN c m j)) (fun i j hi hj => by
      rw [partL_at l r c (by rw [hn]; omega) (by rw [hm]; omega), hn, hm])]
    exact hd2
  · omega
theorem rank_fun_of {l : List (List Int)} {n m : Nat} (hT : TabIn l) (hn : l.length = n) (hm : (l.getD 0 []).length = m) : ∃ R C : Nat → Nat, (∀ i, i < rkR l (2 ^ m) (2 ^ n) → R i < n) ∧ (∀ j, j < rkR l (2 ^ m) (2 ^ n) → C j < m) ∧ dt (rkR l (2 ^ m) (2 ^ n)) (fun i j => at2 l (R i) (C j)) ≠ 0 := by
  have h6 := hT.2.1
  have hw := hT.width
  rw [hn] at h6
  rw [hm] at hw
  by_cases h0 : 1 ≤ rkR l (2 ^ m) (2 ^ n)
  · obtain ⟨_, _, a3⟩ := rank_down (l := l) (n := n) (m := m) h6 hw.2
    cases hb : hasB l (rkR l (2 ^ m) (2 ^ n)) (2 ^ n) (2 ^ m) with
    | false => exact absurd rfl ((a3 _ h0).2 hb)
    | true =>
      obtain ⟨r, c, ⟨r1, r2⟩, ⟨c1, c2⟩, hd⟩ := hasB_iff.1 hb
      have p1 : 2 ^ n ≤ 2 ^ 6 := Nat.pow_le_pow_right (by omega) h6
      have p2 : 2 ^ m ≤ 2 ^ 6 := Nat.pow_le_pow_right (by omega) hw.2
      have g1 := popcS_sel ⟨n, by omega⟩ ⟨r, by omega⟩ r1
      have g2 := popcS_sel ⟨m, by omega⟩ ⟨c, by omega⟩ c1
      simp only at g1 g2
      refine ⟨selN r n, selN c m, fun i hi => selN_lt (by omega), fun j hj => selN_lt (by omega), ?_⟩
      rw [dt_congr _ (g := at2 (partL l r c)) (fun i j hi hj => by
        rw [partL_at l r c (by rw [hn]; omega) (by rw [hm]; omega), hn, hm])]
      exact hd
  · have e : rkR l (2 ^ m) (2 ^ n) = 0 := by omega
    rw [e]
    exact ⟨fun _ => 0, fun _ => 0, fun i hi => absurd hi (Nat.not_lt_zero _), fun i hi => absurd hi (Nat.not_lt_zero _), by rw [dt_zero]; omega⟩

theorem rank_mul {l u M : List (List Int)} {p n q : Nat} (hT : TabIn l) (hU : TabIn u) (hM : TabIn M) (hl : l.length = p) (hlw : (l.getD 0 []).length = n) (hu : u.length = n) (huw : (u.getD 0 []).length = q) (hMl : M.length = p) (hMw : (M.getD 0 []).length = q)
    (hat : ∀ i j, i < p → j < q → at2 M i j = mulF n (at2 l) (at2 u) i j) :
    rkR M (2 ^ q) (2 ^ p) ≤ rkR l (2 ^ n) (2 ^ p) ∧ rkR M (2 ^ q) (2 ^ p) ≤ rkR u (2 ^ q) (2 ^ n) ∧ rkR l (2 ^ n) (2 ^ p) + rkR u (2 ^ q) (2 ^ n) ≤ rkR M (2 ^ q) (2 ^ p) + n := by
  obtain ⟨R, C, hR, hC, hd⟩ := rank_fun_of hM hMl hMw
  have hd' : dt (rkR M (2 ^ q) (2 ^ p)) (fun i j => mulF n (at2 l) (at2 u) (R i) (C j)) ≠ 0 := by
    rw [dt_congr _ (g := fun i j => at2 M (R i) (C j)) (fun i j hi hj => (hat _ _ (hR i hi) (hC j hj)).symm)]
    exact hd
  refine ⟨?_, ?_, ?_⟩
  · obtain ⟨g, hg, h⟩ := mul_left_some hd'
    exact rank_fun hT hl hlw hR hg h
  · obtain ⟨g, hg, h⟩ := mul_right_some hd'
    exact rank_fun hU hu huw hg hC h
  · obtain ⟨R1, J, a1, a2, a3⟩ := rank_fun_of hT hl hlw
    obtain ⟨K, C1, b1, b2, b3⟩ := rank_fun_of hU hu huw
    obtain ⟨t, g, h, e1, e2, e3, e4⟩ := syl_rank (n := n) a2 b1 a3 b3
    have := rank_fun hM hMl hMw (k := t) (R := fun i => R1 (g i)) (C := fun j => C1 (h j)) (fun i hi => a1 _ (e2 i hi)) (fun j hj => b2 _ (e3 j hj)) (by
      rw [dt_congr t (g := fun i j => mulF n (at2 l) (at2 u) (R1 (g i)) (C1 (h j))) (fun i j hi hj => hat _ _ (a1 _ (e2 i hi)) (b2 _ (e3 j hj)))]
      exact e4)
    omega

end Go.Proofs.Ythdemjfllfhhpaa
end

section
namespace Go.Proofs.Ythdemjfllfhhpaa
open Go.RowKit Go.Deep

def setC (f : Nat → Nat → Int) (k : Nat) (b : Nat → Int) (i j : Nat) : Int := if j = k then b i else f i j
theorem dt_setC {n k : Nat} (f : Nat → Nat → Int) (b : Nat → Int) (hk : k < n + 1) : dt (n + 1) (setC f k b) = sumN (fun j => b j * (sn (j + k) * dt n (fun a c => f (skip j a) (skip k c)))) (n + 1) := by
  rw [← dt_turn, dt_row _ hk]
  refine sumN_congr _ fun j _ => ?_
  have e1 : setC f k b j k = b j := if_pos rfl
  have e2 : (fun a c => setC f k b (skip j c) (skip k a)) = fun a c => f (skip j c) (skip k a) := by
    funext a c
    unfold setC
    rw [if_neg (by unfold skip; split <;> omega)]
  show setC f k b j k * (sn (k + j) * dt n (fun a c => setC f k b (skip j c) (skip k a))) = _
  rw [e1, e2, Nat.add_comm k j, ← dt_turn n (fun a c => f (skip j a) (skip k c))]
theorem dt_solve {n i : Nat} (f : Nat → Nat → Int) (b : Nat → Int) (hi : i < n) : sumN (fun k => f i k * dt n (setC f k b)) n = dt n f * b i := by
  obtain ⟨m, rfl⟩ : ∃ m, n = m + 1 := ⟨n - 1, by omega⟩
  have e1 : sumN (fun k => f i k * dt (m + 1) (setC f k b)) (m + 1) = sumN (fun k => sumN (fun j => b j * (f i k * (sn (j + k) * dt m (fun a c => f (skip j a) (skip k c))))) (m + 1)) (m + 1) :=
    sumN_congr _ fun k hk => by
      rw [dt_setC f b hk, ← sumN_mul]
      exact sumN_congr _ fun j _ => by grind
  rw [e1, sumN_comm]
  have e2 : sumN (fun j => sumN (fun k => b j * (f i k * (sn (j + k) * dt m (fun a c => f (skip j a) (skip k c))))) (m + 1)) (m + 1) = sumN (fun j => b j * (if i = j then dt (m + 1) f else 0)) (m + 1) :=
    sumN_congr _ fun j hj => by rw [sumN_mul, dt_alien f hj hi]
  rw [e2, sumN_one _ i (m + 1) hi (fun j _ hji => by rw [if_neg (fun h => hji h.symm), Int.mul_zero]), if_pos rfl, Int.mul_comm]

end Go.Proofs.Ythdemjfllfhhpaa
end

section
namespace Go.Proofs.Ythdemjfllfhhpaa
open Go.RowKit Go.Deep

theorem dt_scal (a : Int) : ∀ p, dt p (fun i j => if i = j then a else 0) = pw a p
  | 0 => rfl
  | p + 1 => by
    rw [dt_corner _ (fun i _ => by rw [if_neg (by omega)]), if_pos rfl]
    show a * _ = a * pw a p
    rw [← dt_scal a p]
    congr 1
    exact dt_congr p fun i j _ _ => by
      by_cases e : i = j
      · rw [if_pos e, if_pos (by omega)]
      · rw [if_neg e, if_neg (by omega)]

def bord (n : Nat) (M : Nat → Nat → Int) (r s : Nat) : Int := M (n + r) (n + s) * dt n M - sumN (fun k => M (n + r) k * dt n (setC M k (fun i => M i (n + s)))) n
def sylN (n : Nat) (M : Nat → Nat → Int) (i j : Nat) : Int := if j < n then (if i = j then 1 else 0) else if i < n then -(dt n (setC M i (fun q => M q j))) else if i = j then dt n M else 0

theorem sumN_split (f : Nat → Int) (n : Nat) : ∀ m, sumN f (n + m) = sumN f n + sumN (fun j => f (n + j)) m
  | 0 => by simp [sumN]
  | m + 1 => by
    show sumN f (n + m) + f (n + m) = sumN f n + (sumN (fun j => f (n + j)) m + f (n + m))
    rw [sumN_split f n m]; omega

theorem mul_sylN {n p : Nat} (M : Nat → Nat → Int) {i j : Nat} (hj : j < n + p) : mulF (n + p) M (sylN n M) i j = if j < n then M i j else (M i j * dt n M - sumN (fun k => M i k * dt n (setC M k (fun q => M q j))) n) := by
  unfold mulF
  by_cases hn : j < n
  · rw [if_pos hn, sumN_one _ j (n + p) hj (fun k _ hk => by unfold sylN; rw [if_pos hn, if_neg hk, Int.mul_zero])]
    unfold sylN; rw [if_pos hn, if_pos rfl, Int.mul_one]
  · rw [if_neg hn, sumN_split, sumN_one (fun q => M i (n + q) * sylN n M (n + q) j) (j - n) p (by omega) (fun k _ hk => by unfold sylN; rw [if_neg hn, if_neg (by omega), if_neg (by omega), Int.mul_zero])]
    rw [sumN_congr n (g := fun k => -(M i k * dt n (setC M k (fun q => M q j)))) (fun k hk => by unfold sylN; rw [if_neg hn, if_pos hk, Int.mul_neg]), sumN_neg]
    rw [show n + (j - n) = j by omega]
    unfold sylN
    rw [if_neg hn, if_neg hn, if_pos rfl]
    omega

theorem dt_sylN (n p : Nat) (M : Nat → Nat → Int) : dt (n + p) (sylN n M) = pw (dt n M) p := by
  rw [← dt_turn, dt_block p n _ (fun i j hi hj _ => by unfold sylN; rw [if_pos hi, if_neg (by omega)])]
  rw [dt_congr n (g := oneF) (fun i j hi hj => by
    unfold sylN oneF
    rw [if_pos hi]
    by_cases e : i = j
    · rw [if_pos e, if_pos e.symm]
    · rw [if_neg e, if_neg (fun h => e h.symm)]), dt_oneF, Int.one_mul, ← dt_scal]
  exact dt_congr p fun i j _ _ => by
    unfold sylN
    rw [if_neg (by omega), if_neg (by omega)]
    by_cases e : i = j
    · rw [if_pos e, if_pos (by omega)]
    · rw [if_neg e, if_neg (by omega)]

theorem dt_sylv (n p : Nat) (M : Nat → Nat → Int) : dt (n + p) M * pw (dt n M) p = dt n M * dt p (bord n M) := by
  rw [← dt_sylN n p M, ← dt_mul, dt_block p n _ (fun i j hi hj hp => by
    rw [mul_sylN M hp, if_neg (by omega), dt_solve M (fun q => M q j) hi, Int.mul_comm]; omega)]
  congr 1
  · exact dt_congr n fun i j _ hj => by rw [mul_sylN M (by omega), if_pos hj]
  · exact dt_congr p fun i j _ hj => by rw [mul_sylN M (by omega), if_neg (by omega)]; rfl

theorem dt_bord {n : Nat} (M : Nat → Nat → Int) (r s : Nat) (h : dt n M ≠ 0) : bord n M r s = dt (n + 1) (fun i j => M (if i < n then i else n + r) (if j < n then j else n + s)) := by
  obtain ⟨F, hF⟩ : ∃ F : Nat → Nat → Int, F = fun i j => M (if i < n then i else n + r) (if j < n then j else n + s) := ⟨_, rfl⟩
  have e := dt_sylv n 1 F
  have e0 : dt n F = dt n M := dt_congr n fun i j hi hj => by rw [hF]; show M _ _ = _; rw [if_pos hi, if_pos hj]
  have e1 : dt 1 (bord n F) = bord n M r s := by
    rw [dt_one]
    unfold bord
    rw [e0]
    have a1 : F (n + 0) (n + 0) = M (n + r) (n + s) := by rw [hF]; show M _ _ = _; rw [if_neg (by omega), if_neg (by omega)]
    rw [a1]
    congr 1
    refine sumN_congr n fun k hk => ?_
    have a2 : F (n + 0) k = M (n + r) k := by rw [hF]; show M _ _ = _; rw [if_neg (by omega), if_pos hk]
    rw [a2]
    congr 1
    refine dt_congr n fun i j hi hj => ?_
    unfold setC
    have a3 : F i (n + 0) = M i (n + s) := by rw [hF]; show M _ _ = _; rw [if_pos hi, if_neg (by omega)]
    have a4 : F i j = M i j := by rw [hF]; show M _ _ = _; rw [if_pos hi, if_pos hj]
    rw [a4]
    by_cases e : j = k
    · rw [if_pos e, if_pos e]; exact a3
    · rw [if_neg e, if_neg e]
  rw [e0, e1] at e
  rw [← hF]
  have e2 : pw (dt n M) 1 = dt n M := by simp [pw]
  rw [e2, Int.mul_comm] at e
  exact (Int.eq_of_mul_eq_mul_left h e).symm

def cyc (n i : Nat) : Nat := if i < n then i + 1 else if i = n then 0 else i
theorem cyc_succ (n i : Nat) : cyc (n + 1) i = cyc n (ex1 n i) := by unfold cyc ex1; repeat (first | split | omega)
theorem dt_cycC (N : Nat) : ∀ (n : Nat) (f : Nat → Nat → Int), n < N → dt N (fun i j => f i (cyc n j)) = sn n * dt N f
  | 0, f, _ => by
    rw [dt_congr N (g := f) (fun i j _ _ => by congr 1; unfold cyc; repeat (first | split | omega)), sn_zero, Int.one_mul]
  | n + 1, f, h => by
    have e := dt_ex1 n N (fun i j => f i (cyc n j)) h
    rw [dt_cycC N n f (by omega)] at e
    rw [dt_congr N (g := fun i j => f i (cyc n (ex1 n j))) (fun i j _ _ => by rw [cyc_succ]), e, sn_succ, Int.neg_mul]
theorem dt_cycR (N n : Nat) (f : Nat → Nat → Int) (h : n < N) : dt N (fun i j => f (cyc n i) j) = sn n * dt N f := by
  rw [← dt_turn, dt_cycC N n (fun i j => f j i) h, dt_turn]

theorem dt_dj (n : Nat) (f : Nat → Nat → Int) (h : dt n (fun i j => f (i + 1) (j + 1)) ≠ 0) :
    dt (n + 1) f * dt (n + 1) (fun i j => f (i + 1) (j + 1)) - dt (n + 1) (fun i j => f i (j + 1)) * dt (n + 1) (fun i j => f (i + 1) j) = dt n (fun i j => f (i + 1) (j + 1)) * dt (n + 2) f := by
  obtain ⟨M, hM⟩ : ∃ M : Nat → Nat → Int, M = fun i j => f (cyc n i) (cyc n j) := ⟨_, rfl⟩
  have e0 : dt n M = dt n (fun i j => f (i + 1) (j + 1)) := dt_congr n fun i j hi hj => by rw [hM]; show f _ _ = _; unfold cyc; rw [if_pos hi, if_pos hj]
  have e1 : dt (n + 2) M = dt (n + 2) f := by
    rw [hM, dt_cycR (n + 2) n (fun i j => f i (cyc n j)) (by omega), dt_cycC (n + 2) n f (by omega), ← Int.mul_assoc, sn_sq, Int.one_mul]
  have hne : dt n M ≠ 0 := by rw [e0]; exact h
  have ca : ∀ i, i < n + 1 → cyc n (if i < n then i else n + 0) = cyc n i := fun i hi => by
    split
    · rfl
    · congr 1; omega
  have cb : ∀ i, i < n + 1 → cyc n (if i < n then i else n + 1) = i + 1 := fun i hi => by unfold cyc; repeat (first | split | omega)
  have b00 : bord n M 0 0 = dt (n + 1) f := by
    rw [dt_bord M 0 0 hne, dt_congr (n + 1) (g := fun i j => f (cyc n i) (cyc n j)) (fun i j hi hj => by rw [hM]; show f _ _ = _; rw [ca i hi, ca j hj]), dt_cycR (n + 1) n (fun i j => f i (cyc n j)) (by omega), dt_cycC (n + 1) n f (by omega), ← Int.mul_assoc, sn_sq, Int.one_mul]
  have b11 : bord n M 1 1 = dt (n + 1) (fun i j => f (i + 1) (j + 1)) := by
    rw [dt_bord M 1 1 hne]
    exact dt_congr (n + 1) fun i j hi hj => by rw [hM]; show f _ _ = _; rw [cb i hi, cb j hj]
  have b01 : bord n M 0 1 = sn n * dt (n + 1) (fun i j => f i (j + 1)) := by
    rw [dt_bord M 0 1 hne, ← dt_cycR (n + 1) n (fun i j => f i (j + 1)) (by omega)]
    exact dt_congr (n + 1) fun i j hi hj => by rw [hM]; show f _ _ = _; rw [ca i hi, cb j hj]
  have b10 : bord n M 1 0 = sn n * dt (n + 1) (fun i j => f (i + 1) j) := by
    rw [dt_bord M 1 0 hne, ← dt_cycC (n + 1) n (fun i j => f (i + 1) j) (by omega)]
    exact dt_congr (n + 1) fun i j hi hj => by rw [hM]; show f _ _ = _; rw [cb i hi, ca j hj]
  have e := dt_sylv n 2 M
  rw [dt_two, b00, b11, b01, b10, e1, e0] at e
  have e2 : pw (dt n (fun i j => f (i + 1) (j + 1))) 2 = dt n (fun i j => f (i + 1) (j + 1)) * dt n (fun i j => f (i + 1) (j + 1)) := by simp [pw]
  have e3 : sn n * dt (n + 1) (fun i j => f i (j + 1)) * (sn n * dt (n + 1) (fun i j => f (i + 1) j)) = dt (n + 1) (fun i j => f i (j + 1)) * dt (n + 1) (fun i j => f (i + 1) j) := by
    have := sn_sq n
    grind
  rw [e2, e3] at e
  have e4 : dt n (fun i j => f (i + 1) (j + 1)) * (dt n (fun i j => f (i + 1) (j + 1)) * dt (n + 2) f) = dt n (fun i j => f (i + 1) (j + 1)) * (dt (n + 1) f * dt (n + 1) (fun i j => f (i + 1) (j + 1)) - dt (n + 1) (fun i j => f i (j + 1)) * dt (n + 1) (fun i j => f (i + 1) j)) := by
    rw [← e]; grind
  exact (Int.eq_of_mul_eq_mul_left h e4).symm

end Go.Proofs.Ythdemjfllfhhpaa
end

section
namespace Go.Proofs.Ythdemjfllfhhpaa
open Go.RowKit Go.Deep

theorem dt_times (c : Int) : ∀ (n : Nat) (f : Nat → Nat → Int), c ≠ 0 → dt n f ≠ 0 → dt n (fun i j => c * f i j) ≠ 0 := fun n f hc hf => by
  have h : ∀ (n : Nat) (f : Nat → Nat → Int), dt n (fun i j => c * f i j) = pw c n * dt n f := by
    intro n
    induction n with
    | zero => intro f; simp [dt, pw]
    | succ n ih =>
      intro f
      rw [dt_succ, dt_succ, ← sumN_mul]
      refine sumN_congr _ fun k _ => ?_
      rw [show dr k (fun i j => c * f i j) = fun i j => c * (dr k f i j) from rfl, ih]
      have : pw c (n + 1) = c * pw c n := rfl
      rw [this]
      grind
  rw [h]
  exact Int.mul_ne_zero (pw_ne hc n) hf
theorem rank_even {l : List (List Int)} {n : Nat} (hT : TabIn l) (hn : l.length = n) (hm : (l.getD 0 []).length = n) (h : Skew n (at2 l)) : rkR l (2 ^ n) (2 ^ n) % 2 = 0 := by
  obtain ⟨R, C, hR, hC, hD⟩ := rank_fun_of hT hn hm
  obtain ⟨r, hr⟩ : ∃ r, rkR l (2 ^ n) (2 ^ n) = r := ⟨_, rfl⟩
  have hrank := fun (k : Nat) (R' C' : Nat → Nat) (h1 : ∀ i, i < k → R' i < n) (h2 : ∀ j, j < k → C' j < n) (h3 : dt k (fun i j => at2 l (R' i) (C' j)) ≠ 0) => rank_fun hT hn hm h1 h2 h3
  rw [hr] at hR hC hD hrank ⊢
  obtain ⟨M, hM⟩ : ∃ M : Nat → Nat → Int, M = fun i j => at2 l (if i < r then R i else i - r) (if j < r then C j else j - r) := ⟨_, rfl⟩
  have hMD : dt r M ≠ 0 := by
    rw [hM, dt_congr r (g := fun i j => at2 l (R i) (C j)) (fun i j hi hj => by rw [if_pos hi, if_pos hj])]
    exact hD
  -- every column is made of the chosen ones
  have hspan : ∀ p q, p < n → q < n → dt r M * at2 l p q = sumN (fun k => at2 l p (C k) * dt r (setC M k (fun i => M i (r + q)))) r := fun p q hp hq => by
    have hb := dt_bord M p q hMD
    have h0 : dt (r + 1) (fun i j => M (if i < r then i else r + p) (if j < r then j else r + q)) = 0 := by
      by_cases e : dt (r + 1) (fun i j => M (if i < r then i else r + p) (if j < r then j else r + q)) = 0
      · exact e
      · have := hrank (r + 1) (fun i => if i < r then R i else p) (fun j => if j < r then C j else q)
          (fun i _ => by show (if i < r then R i else p) < n; split <;> first | exact hR _ (by assumption) | exact hp)
          (fun j _ => by show (if j < r then C j else q) < n; split <;> first | exact hC _ (by assumption) | exact hq) (by
            rw [← dt_congr (r + 1) (f := fun i j => M (if i < r then i else r + p) (if j < r then j else r + q)) (fun i j hi hj => by
              rw [hM]
              show at2 l (if (if i < r then i else r + p) < r then R (if i < r then i else r + p) else (if i < r then i else r + p) - r) (if (if j < r then j else r + q) < r then C (if j < r then j else r + q) else (if j < r then j else r + q) - r) = at2 l (if i < r then R i else p) (if j < r then C j else q)
              by_cases a : i < r <;> by_cases b : j < r
              · simp only [if_pos a, if_pos b]
              · simp only [if_pos a, if_neg b, if_neg (show ¬ r + q < r by omega), Nat.add_sub_cancel_left]
              · simp only [if_neg a, if_pos b, if_neg (show ¬ r + p < r by omega), Nat.add_sub_cancel_left]
              · simp only [if_neg a, if_neg b, if_neg (show ¬ r + p < r by omega), if_neg (show ¬ r + q < r by omega), Nat.add_sub_cancel_left])]
            exact e)
        omega
    rw [h0] at hb
    unfold bord at hb
    have e1 : M (r + p) (r + q) = at2 l p q := by
      rw [hM]
      show at2 l (if r + p < r then _ else _) (if r + q < r then _ else _) = _
      rw [if_neg (by omega), if_neg (by omega), Nat.add_sub_cancel_left, Nat.add_sub_cancel_left]
    have e2 : sumN (fun k => M (r + p) k * dt r (setC M k (fun i => M i (r + q)))) r = sumN (fun k => at2 l p (C k) * dt r (setC M k (fun i => M i (r + q)))) r := sumN_congr r fun k hk => by
      have : M (r + p) k = at2 l p (C k) := by
        rw [hM]
        show at2 l (if r + p < r then _ else _) (if k < r then _ else _) = _
        rw [if_neg (by omega), if_pos hk, Nat.add_sub_cancel_left]
      rw [this]
    rw [e1, e2, Int.mul_comm] at hb
    omega
  by_cases ho : r % 2 = 0
  · exact ho
  · exfalso
    have ho' : r % 2 = 1 := by omega
    have hmul : dt r (fun i j => dt r M * at2 l (C i) (R j)) = dt r (fun i k => at2 l (C i) (C k)) * dt r (fun k j => dt r (setC M k (fun i => M i (r + R j)))) := by
      rw [← dt_mul]
      exact dt_congr r fun i j hi hj => hspan (C i) (R j) (hC i hi) (hR j hj)
    have hz : dt r (fun i k => at2 l (C i) (C k)) = 0 := det_odd (fun i j hi hj => h _ _ (hC i hi) (hC j hj)) ho'
    rw [hz, Int.zero_mul] at hmul
    refine dt_times (dt r M) r _ hMD ?_ hmul
    rw [dt_congr r (f := fun i j => at2 l (C i) (R j)) (g := fun i j => -(fun i j => at2 l (R j) (C i)) i j) (fun i j hi hj => h _ _ (hC i hi) (hR j hj)), dt_neg, dt_turn r (fun i j => at2 l (R i) (C j))]
    exact Int.mul_ne_zero (sn_ne r) hD

end Go.Proofs.Ythdemjfllfhhpaa
end

section
namespace Go.Proofs.Ythdemjfllfhhpaa
open Go.RowKit Go.Deep

theorem halfS_start (l : List (List Int)) (i s : Nat) (f : Nat → Int) : ∀ m, m ≤ i + 1 → sumN (halfT l i s f) m = 0
  | 0, _ => rfl
  | m + 1, h => by
    show sumN (halfT l i s f) m + halfT l i s f m = 0
    rw [halfS_start l i s f m (by omega), halfT_no f (by omega)]
    rfl
theorem popcS_oneH' : ∀ s : Fin 64, 0 < s.val → 1 ≤ popcS s.val := by decide +kernel
theorem btw_le (s i k : Nat) : btw s i k ≤ 6 := popcS_le _

end Go.Proofs.Ythdemjfllfhhpaa
end

section
namespace Go.Proofs.Ythdemjfllfhhpaa
open Go.RowKit Go.Deep

theorem cntS_start (l : List (List Int)) (i s : Nat) (f : Nat → Nat) : ∀ m, m ≤ i + 1 → sumM (cntT l i s f) m = 0
  | 0, _ => rfl
  | m + 1, h => by
    show sumM (cntT l i s f) m + cntT l i s f m = 0
    rw [cntS_start l i s f m (by omega), cntT_no f (by omega)]
theorem p6_le : ∀ d, d ≤ 4 → p6 d ≤ 1296 := by
  intro d hd
  have h : d = 0 ∨ d = 1 ∨ d = 2 ∨ d = 3 ∨ d = 4 := by omega
  rcases h with rfl | rfl | rfl | rfl | rfl <;> decide
theorem cntS_bd {l : List (List Int)} {i s n : Nat} {f : Nat → Nat} {B : Nat} (h : ∀ u, f u ≤ B) : sumM (cntT l i s f) n ≤ n * B :=
  sumM_le (fun k => by
    unfold cntT
    split
    · exact h _
    · omega) n

end Go.Proofs.Ythdemjfllfhhpaa
end

section
namespace Go.Proofs.Ythdemjfllfhhpaa
open Go.RowKit Go.Deep

def AboutP (l : List (List Int)) (n : Nat) : Prop := ∀ i, i < n → ∀ k, k < i + 1 → at2 l i k + at2 l k i = 0
instance (l : List (List Int)) (n : Nat) : Decidable (AboutP l n) := inferInstanceAs (Decidable (∀ i, i < n → ∀ k, k < i + 1 → _))
noncomputable def pairB (l : List (List Int)) : Bool := sqB l && decide (AboutP l l.length)
theorem pairB_of {l : List (List Int)} {n : Nat} (h : pairB l = true) (hn : l.length = n) : TabIn l ∧ (l.getD 0 []).length = n ∧ AboutP l n := by
  unfold pairB at h
  simp only [Bool.and_eq_true, decide_eq_true_eq] at h
  obtain ⟨h1, h2⟩ := sqB_of h.1
  rw [hn] at h h2
  exact ⟨h1, h2.symm, h.2⟩
theorem pairB_sq {l : List (List Int)} (h : pairB l = true) : sqB l = true := by
  unfold pairB at h
  simp only [Bool.and_eq_true] at h
  exact h.1

set_option maxRecDepth 100000 in
set_option maxHeartbeats 2000000 in
theorem specPairIn_any (a : Option Addr) (cap n : Nat) (l : List (List Int)) (w : World) (hn : l.length = n) (hsz : szL l ≤ 1048576) (hm : MatR w a l) :
    Calls Try.prog 36 #[.slice a n cap] w fun e w' => e = .returned (.bool (pairB l)) ∧ Drawn w w' := by
  have E := l2Square_any a cap n l w hn hsz hm
  cases hs : sqB l with
  | false =>
    have hok : pairB l = false := by unfold pairB; rw [hs]; rfl
    rw [hs] at E
    rw [hok]
    replace E := Lib.hid E
    clear hs hm hn hsz hok
    go_enter Try.func36, Try.ntmps36
    go_wp2_with fail
    refine (E.out).mono ?_
    rintro e w1 ⟨rfl, hd⟩
    go_wp2
    go_ret
    exact ⟨rfl, hd⟩
  | true =>
    have hok : pairB l = decide (AboutP l n) := by unfold pairB; rw [hs, hn]; rfl
    rw [hs] at E
    rw [hok]
    replace E := Lib.hid E
    obtain ⟨hT, hw⟩ := sqB_of hs
    have h6 := hT.2.1
    rw [hn] at h6 hw
    obtain ⟨b, o, A, C, rfl, hrow, hcell⟩ := hm.grid hn hT hw.symm
    have HROW := Lib.hid hrow
    have HC := Lib.hid hcell
    obtain ⟨r, hr⟩ : ∃ r, decide (AboutP l n) = r := ⟨_, rfl⟩
    have HYES := Lib.hid (fun (h : AboutP l n) => show r = true by rw [← hr]; exact decide_eq_true h)
    have HNO := Lib.hid (fun (h : ¬ AboutP l n) => show r = false by rw [← hr]; exact decide_eq_false h)
    rw [hr]
    clear hs hm hn hsz hok hT hw hrow hcell hr
    go_enter Try.func36, Try.ntmps36
    go_wp2_with fail
    refine (E.out).mono ?_
    rintro e w1 ⟨rfl, hd⟩
    have HD1 := Lib.hid hd
    clear hd
    go_wp2
    go_loopg [3, 4] n (fun g i _ wr => ∃ i0 : Nat, i0 ≤ n ∧ g = n - i0 ∧ i = .int .i64 i0 ∧ AboutP l i0 ∧ Drawn w wr)
    case atStart => exact ⟨0, Nat.zero_le _, rfl, rfl, fun i hi => absurd hi (Nat.not_lt_zero _), HD1.out⟩
    case round =>
      obtain ⟨i0, hi0, rfl, rfl, hA, hD⟩ := hrel
      have HA := Lib.hid hA
      clear hA
      by_cases hlt : i0 < n
      · have HDR := Lib.hid hD
        clear hD
        go_wp2
        go_loopg [4] (i0 + 1) (fun g k wr => ∃ k0 : Nat, k0 ≤ i0 + 1 ∧ g = i0 + 1 - k0 ∧ k = .int .i64 k0 ∧ (∀ k, k < k0 → at2 l i0 k + at2 l k i0 = 0) ∧ Drawn w wr)
        case atStart => exact ⟨0, Nat.zero_le _, rfl, rfl, fun k hk => absurd hk (Nat.not_lt_zero _), HDR.out⟩
        case round =>
          obtain ⟨k0, hk0, rfl, rfl, hK, hD⟩ := hrel
          clear HDR
          have HK := Lib.hid hK
          clear hK
          by_cases hltk : k0 < i0 + 1
          · obtain ⟨b1, o1, c1, c2, c3, c4⟩ := HC.out i0 k0 hlt (by omega)
            obtain ⟨b2, o2, d1, d2, d3, d4⟩ := HC.out k0 i0 (by omega) hlt
            have hle : decide ((k0 : Int) ≤ (i0 : Int)) = true := by simp; omega
            rw [← hD.cell] at c1 c2 d1 d2
            obtain ⟨x, hx⟩ : ∃ x, at2 l i0 k0 = x := ⟨_, rfl⟩
            obtain ⟨y, hy⟩ : ∃ y, at2 l k0 i0 = y := ⟨_, rfl⟩
            rw [hx] at c2 c3 c4
            rw [hy] at d2 d3 d4
            have hw1 : IntKind.i64.wrap (x + y) = x + y := IntWalk.i64_in _ ⟨by omega, by omega⟩
            have HDR := Lib.hid hD
            by_cases h0 : x + y = 0
            · have hz : (x + y != 0) = false := by simp [h0]
              have HK2 := Lib.hid (show ∀ k, k < k0 + 1 → at2 l i0 k + at2 l k i0 = 0 from fun k hk => by
                by_cases e : k = k0
                · subst e; rw [hx, hy]; exact h0
                · exact HK.out k (by omega))
              clear hD hx hy h0
              go_wp2
              go_quiet (fail)
              go_wp2
              go_roundg (i0 + 1 - (k0 + 1))
              case measure => omega
              case rel => exact ⟨k0 + 1, by omega, rfl, by go_num, HK2.out, HDR.out.trans (Drawn.mk _ _)⟩
            · have hz : (x + y != 0) = true := by simp [h0]
              have HN := Lib.hid (HNO.out (fun h => h0 (by have := h i0 hlt k0 hltk; rw [hx, hy] at this; exact this)))
              clear hD hx hy h0
              go_wp2
              go_quiet (fail)
              go_wp2
              go_ret
              exact ⟨by rw [HN.out] <;> rfl, HDR.out.trans (Drawn.mk _ _)⟩
          · have hki : k0 = i0 + 1 := by omega
            have hle : decide ((k0 : Int) ≤ (i0 : Int)) = false := by simp; omega
            have HA2 := Lib.hid (show AboutP l (i0 + 1) from fun i hi k hk => by
              by_cases e : i = i0
              · subst e; exact HK.out k (by omega)
              · exact HA.out i (by omega) k hk)
            have HDR := Lib.hid hD
            subst hki
            clear hD
            go_wp2
            go_roundg (n - (i0 + 1))
            case measure => omega
            case rel => exact ⟨i0 + 1, by omega, rfl, by go_num, HA2.out, HDR.out⟩
      · have hin : i0 = n := by omega
        subst hin
        have HY := Lib.hid (HYES.out HA.out)
        go_wp2
        go_ret
        exact ⟨by rw [HY.out] <;> rfl, hD⟩

theorem full_in : ∀ n : Fin 7, 2 ^ n.val - 1 < 2 ^ n.val ∧ popcS (2 ^ n.val - 1) ≤ 2 * 3 := by decide +kernel

end Go.Proofs.Ythdemjfllfhhpaa
end

section
namespace Go.Proofs.Ythdemjfllfhhpaa
open Go.RowKit Go.Deep

theorem aboutP_skew {l : List (List Int)} {n : Nat} (h : AboutP l n) : Skew n (at2 l) := fun i j hi hj => by
  by_cases e : j ≤ i
  · have := h i hi j (by omega); omega
  · have := h j hj i (by omega); omega

end Go.Proofs.Ythdemjfllfhhpaa
end

section
namespace Go.Proofs.Ythdemjfllfhhpaa

noncomputable def sameOk (l u : List (List Int)) : Bool := tabIn l && (tabIn u && decide (l = u))

end Go.Proofs.Ythdemjfllfhhpaa
end

section
namespace Go.Proofs.Ythdemjfllfhhpaa
open Go.RowKit Go.Deep Go.Shelf

set_option maxHeartbeats 1000000 in
theorem slicesEqual_any (a b : Option Addr) (ca cb m : Nat) (x y : List Int) (w : World) (hx : x.length = m) (hy : y.length = m) (h63 : m ≤ 1048576) (ha : RowR w a x) (hb : RowR w b y) :
    Calls Try.prog 104 #[.slice a m ca, .slice b m cb] w fun e w' => e = .returned (.bool (decide (x = y))) ∧ Drawn w w' := by
  have hext : (∀ j, j < m → x.getD j 0 = y.getD j 0) → x = y := fun h => by
    refine List.ext_getElem (by omega) fun c g1 g2 => ?_
    have := h c (by omega)
    simpa [List.getD, g1, g2] using this
  have HX := Lib.hid hx
  have HY := Lib.hid hy
  have HEXT := Lib.hid hext
  clear hx hy hext
  go_enter Try.func104, Try.ntmps104
  go_wp2
  go_loopg [5, 13] m (fun g _ i wr => ∃ k : Nat, k ≤ m ∧ g = m - k ∧ i = .int .i64 k ∧ Drawn w wr ∧ ∀ j, j < k → x.getD j 0 = y.getD j 0)
  case atStart => exact ⟨0, Nat.zero_le _, rfl, rfl, Drawn.refl w, fun j hj => absurd hj (Nat.not_lt_zero _)⟩
  case round =>
    obtain ⟨k, hk, rfl, rfl, hD, hS⟩ := hrel
    have HS := Lib.hid hS
    clear hS
    by_cases hlt : k < m
    · obtain ⟨b1, o1, rfl, hc1⟩ := ha (by rw [HX.out]; omega)
      obtain ⟨b2, o2, rfl, hc2⟩ := hb (by rw [HY.out]; omega)
      have c1 := hc1 k (by rw [HX.out]; exact hlt)
      have c2 := hc2 k (by rw [HY.out]; exact hlt)
      obtain ⟨p, hp⟩ : ∃ p, x.getD k 0 = p := ⟨_, rfl⟩
      obtain ⟨q, hq⟩ : ∃ q, y.getD k 0 = q := ⟨_, rfl⟩
      rw [hp] at c1
      rw [hq] at c2
      rw [← hD.cell] at c1 c2
      have HP := Lib.hid hp
      have HQ := Lib.hid hq
      clear hp hq hc1 hc2 ha hb
      by_cases hpq : p = q
      · subst hpq
        go_wp2
        go_quiet (fail)
        go_wp2
        go_roundg (m - (k + 1))
        case measure => omega
        case rel => exact ⟨k + 1, by omega, rfl, by go_num, hD.trans (Drawn.mk _ _), fun j hj => by
          by_cases e : j = k
          · subst e; rw [HP.out, HQ.out]
          · exact HS.out j (by omega)⟩
      · have hne : (p != q) = true := by simp [hpq]
        go_wp2
        go_quiet (fail)
        go_wp2
        go_ret
        refine ⟨ret_bool (decide_eq_false fun e => ?_).symm, hD.trans (Drawn.mk _ _)⟩
        subst e
        exact hpq (by rw [← HP.out, ← HQ.out])
    · have : k = m := by omega
      subst this
      have HXY := Lib.hid (HEXT.out HS.out)
      go_wp2
      go_ret
      exact ⟨ret_bool (decide_eq_true HXY.out).symm, hD⟩

theorem rows_eq {l u : List (List Int)} {n : Nat} (hn : l.length = n) (hu : u.length = n) (h : ∀ r, r < n → l.getD r [] = u.getD r []) : l = u := by
  refine List.ext_getElem (by omega) fun c g1 g2 => ?_
  have := h c (by omega)
  simpa [List.getD, g1, g2] using this

attribute [local go_sem] Oper.semAt_some

set_option maxRecDepth 100000 in
set_option maxHeartbeats 2000000 in
theorem same_any (a a2 : Option Addr) (cap cap2 n n2 : Nat) (l u : List (List Int)) (w : World) (hn : l.length = n) (hu : u.length = n2) (hm : MatR w a l) (hmu : MatR w a2 u) (hT : TabIn l) (hTu : TabIn u) :
    Calls Try.prog 51 #[.slice a n cap, .slice a2 n2 cap2] w fun e w' => e = .returned (.bool (decide (l = u))) ∧ w.Since w.heap.size w' := by
  have h6 := hT.2.1
  have h1 := hT.1
  rw [hn] at h1 h6
  have hw := hT.width
  have E := Lib.hid (fun (W : World) (hs : Below w.heap.size w W) => alike_any a a2 cap cap2 n n2 l u W hn hu hT hTu (hm.since (below_since hs)) (hmu.since (below_since hs)))
  refine (callsIn_wide (n := 9)).1 ?_
  refine callsIn_of_wp_marks Try.func51 rfl trivial ?_ rfl
  simp only [Try.ntmps51, List.size_toArray, List.length_cons, List.length_nil, Nat.reduceAdd, Nat.reduceSub, Array.replicate_succ, Array.replicate_zero, List.push_toArray, List.append_toArray, List.nil_append, List.cons_append]
  have hB2 : Below w.heap.size w ((w.alloc (.cells #[.slice a2 n2 cap2] 48)).alloc (.cells #[.bool false] 4)) := ((Below.refl _ w).alloc (Nat.le_refl _) _).alloc (by simp) _
  have HB2 := Lib.hid hB2
  clear hB2
  cases hal : alikeB l u with
  | false =>
    rw [hal] at E
    have hno : l ≠ u := by
      rintro rfl
      unfold alikeB at hal
      simp at hal
    have HNO := Lib.hid hno
    clear hm hmu hT hTu hn hu hno hal
    gi_wp2_with (refine ⟨trivial, ?_⟩; gi_at_call 101; refine (callsIn_wide.2 (E.out _ HB2.out)).mono ?_; rintro e w' ⟨rfl, rfl⟩)
    refine ⟨.bool false, ?_, ret_bool (decide_eq_false HNO.out).symm, below_since HB2.out⟩
    simp [results, Try.f51, go_sem]
  | true =>
    rw [hal] at E
    unfold alikeB at hal
    rw [Bool.and_eq_true, beq_iff_eq, beq_iff_eq] at hal
    obtain rfl : n2 = n := by omega
    obtain ⟨m, hmm⟩ : ∃ m, (l.getD 0 []).length = m := ⟨_, rfl⟩
    have hrow : ∀ r, r < n2 → (l.getD r []).length = m := fun r hr => by rw [hT.row (by omega), hmm]
    have hrowu : ∀ r, r < n2 → (u.getD r []).length = m := fun r hr => by rw [hTu.row (by omega), ← hal.2, hmm]
    rw [hmm] at hw
    obtain ⟨b, o, A, C, ha, hc⟩ := hm (by omega)
    obtain ⟨d, q, A2, C2, ha2, hc2⟩ := hmu (by omega)
    have hbl : b < w.heap.size := World.block_lt_of_cell? _ _ (hc 0 (by omega)).1
    have hdl : d < w.heap.size := World.block_lt_of_cell? _ _ (hc2 0 (by omega)).1
    have hc1 : ∀ r, r < n2 → w.cell? ⟨b, o + r, none⟩ = some (.slice (A r) m (C r)) ∧ RowR w (A r) (l.getD r []) := fun r hr => by
      have := hc r (by omega); rw [hrow r hr] at this; exact this
    have hc3 : ∀ r, r < n2 → w.cell? ⟨d, q + r, none⟩ = some (.slice (A2 r) m (C2 r)) ∧ RowR w (A2 r) (u.getD r []) := fun r hr => by
      have := hc2 r (by omega); rw [hrowu r hr] at this; exact this
    subst ha
    subst ha2
    have HC := Lib.hid hc1
    have HC2 := Lib.hid hc3
    have HROW := Lib.hid hrow
    have HROWU := Lib.hid hrowu
    have HEQ := Lib.hid (rows_eq hn hu)
    have hpow : 2 ^ n2 - 1 ≤ 63 := by have : 2 ^ n2 ≤ 2 ^ 6 := Nat.pow_le_pow_right (by omega) h6; omega
    clear hm hmu hT hTu hn hu hal hmm hc hc2 hc1 hc3 hrow hrowu
    gi_wp2_with (first
      | (refine ⟨trivial, ?_⟩; gi_at_call 101; refine (callsIn_wide.2 (E.out _ HB2.out)).mono ?_; rintro e w' ⟨rfl, rfl⟩)
      | (refine ⟨trivial, ?_⟩; gi_at_call 103; refine (callsIn_wide.2 (allRows_any _ _ _ _ h6)).mono ?_; rintro e w' ⟨rfl, rfl⟩)
      | (refine ⟨trivial, ?_⟩; gi_at_call 102; refine (callsIn_wide.2 (rows_any _ _ _ _ _)).mono ?_; rintro e w' ⟨rfl, rfl⟩))
    obtain ⟨W0, hW0⟩ : ∃ W0, W0 = (((w.alloc (.cells #[.slice (some ⟨d, q, none⟩) n2 cap2] 48)).alloc (.cells #[.bool false] 4)).alloc (.cells #[.slice (some ⟨b, o, none⟩) n2 cap] 48)).alloc (.cells #[.int .i64 (2 ^ n2 - 1 : Nat)] 3) := ⟨_, rfl⟩
    rw [← hW0]
    have hsz0 : W0.heap.size = w.heap.size + 1 + 1 + 1 + 1 := by rw [hW0]; simp
    have hB0 : Below w.heap.size w W0 := by rw [hW0]; exact (HB2.out.alloc (by simp; omega) _).alloc (by simp; omega) _
    have c0 := cell_new_l w (.slice (some ⟨d, q, none⟩) n2 cap2) 48
    have c1 := cell_new_l (w.alloc (.cells #[.slice (some ⟨d, q, none⟩) n2 cap2] 48)) (.bool false) 4
    have c2 := cell_new_l ((w.alloc (.cells #[.slice (some ⟨d, q, none⟩) n2 cap2] 48)).alloc (.cells #[.bool false] 4)) (.slice (some ⟨b, o, none⟩) n2 cap) 48
    have c3 := cell_new_l (((w.alloc (.cells #[.slice (some ⟨d, q, none⟩) n2 cap2] 48)).alloc (.cells #[.bool false] 4)).alloc (.cells #[.slice (some ⟨b, o, none⟩) n2 cap] 48)) (.int .i64 (2 ^ n2 - 1 : Nat)) 3
    simp only [World.size_alloc] at c1 c2 c3
    have d0 : W0.cell? ⟨w.heap.size, 0, none⟩ = some (.slice (some ⟨d, q, none⟩) n2 cap2) := by rw [hW0]; exact cell_alloc_l _ (cell_alloc_l _ (cell_alloc_l _ c0.1))
    have d1 : W0.cell? ⟨w.heap.size + 1, 0, none⟩ = some (.bool false) := by rw [hW0]; exact cell_alloc_l _ (cell_alloc_l _ c1.1)
    have d1f : W0.frozen? ⟨w.heap.size + 1, 0, none⟩ = false := by rw [hW0]; exact frozen_alloc_l _ (cell_alloc_l _ c1.1) (frozen_alloc_l _ c1.1 c1.2)
    have d2 : W0.cell? ⟨w.heap.size + 1 + 1, 0, none⟩ = some (.slice (some ⟨b, o, none⟩) n2 cap) := by rw [hW0]; exact cell_alloc_l _ c2.1
    have d3 : W0.cell? ⟨w.heap.size + 1 + 1 + 1, 0, none⟩ = some (.int .i64 (2 ^ n2 - 1 : Nat)) := by rw [hW0]; exact c3.1
    clear c0 c1 c2 c3
    have hc0' : ∀ k, k < n2 → W0.cell? ⟨b, o + k, none⟩ = some (.slice (A k) m (C k)) := fun k hk => (hB0.cell (p := ⟨b, o + k, none⟩) hbl).trans (HC.out k hk).1
    have hstops := rows_stops 8 (by omega) (w.heap.size + 1 + 1) (w.heap.size + 1 + 1 + 1) b o n2 cap (2 ^ n2 - 1) W0.heap.size (by omega) hpow A (fun _ => m) C W0 (Nat.le_refl _) (by omega) (by omega) (by omega) d2 d3 hc0'
    clear hc0' d2 d3
    refine wpIn_rangeFunc_ownF (F := Fence.wide) (n := 9) rfl (by omega) (gf := 117) (lb := #[.pointer (some ⟨w.heap.size + 1 + 1, 0, none⟩), .pointer (some ⟨w.heap.size + 1 + 1 + 1, 0, none⟩)]) rfl trivial (enters_of Try.func117 (by kernel_rfl) rfl)
      hstops belowK_t (belowK_b (Nat.le_refl _)) (Below.refl _ _) (fun _ => rfl)
      (fun pre W => (W.cell? ⟨w.heap.size, 0, none⟩ = some (.slice (some ⟨d, q, none⟩) n2 cap2) ∧ W.cell? ⟨w.heap.size + 1, 0, none⟩ = some (.bool false) ∧ W.frozen? ⟨w.heap.size + 1, 0, none⟩ = false ∧ ∀ x ∈ pre, l.getD x.1 [] = u.getD x.1 []) ∧ Below w.heap.size w W)
      (fun c _ W => (c = .ret ∧ l ≠ u ∧ W.cell? ⟨w.heap.size + 1, 0, none⟩ = some (.bool false)) ∧ Below w.heap.size w W)
      (OwnFrom.and (Own.from (fun s A B row hs hg hr => ⟨cell_kept hs.1 hg hr, cell_kept hs.2.1 hg hr, (frozen_kept hs.2.1 hg hr).trans hs.2.2.1, hs.2.2.2⟩) _) (ownFrom_below (Nat.le_refl _) (by omega)))
      (fun c => OwnFrom.and (Own.from (fun s A B row hs hg hr => ⟨hs.1, hs.2.1, cell_kept hs.2.2 hg hr⟩) _) (ownFrom_below (Nat.le_refl _) (by omega)))
      ⟨⟨d0, d1, d1f, by simp⟩, hB0⟩
      (fun x => { tmps := #[.slice (some ⟨b, o, none⟩) n2 cap, .slice (some ⟨d, q, none⟩) n2 cap2, undef, .pointer (some ⟨w.heap.size, 0, none⟩), .pointer (some ⟨w.heap.size + 1, 0, none⟩), .int .i64 x.1, .slice (A x.1) m (C x.1), .slice (some ⟨b, o, none⟩) n2 cap, .slice (some ⟨d, q, none⟩) n2 cap2,
          .bool true, .bool false, .slice (some ⟨b, o, none⟩) n2 cap, .slice (some ⟨b, o, none⟩) n2 cap, .int .i64 (2 ^ n2 - 1 : Nat),
          .func (.func 117) #[] #[.pointer (some ⟨w.heap.size + 1 + 1, 0, none⟩), .pointer (some ⟨w.heap.size + 1 + 1 + 1, 0, none⟩)],
          .int .i64 x.1, .slice (A x.1) m (C x.1), undef, undef, undef, undef, undef, undef, undef], defers := [] }) ?assign ?body ?done ?stop
    case assign =>
      intro lp x W K hK
      gi_wp2
      exact hK
    case body =>
      rintro lp pre x W ⟨⟨g0, g1, g2, g3⟩, gB⟩ hlen
      obtain ⟨_, r1⟩ := HC.out x.1 x.2
      obtain ⟨e2, r2⟩ := HC2.out x.1 x.2
      rw [← gB.cell (p := ⟨d, q + x.1, none⟩) hdl] at e2
      have hx2 := x.2
      obtain ⟨X, hX⟩ : ∃ X, l.getD x.1 [] = X := ⟨_, rfl⟩
      obtain ⟨Y, hY⟩ : ∃ Y, u.getD x.1 [] = Y := ⟨_, rfl⟩
      have hXm := HROW.out x.1 x.2
      have hYm := HROWU.out x.1 x.2
      rw [hX] at r1 hXm
      rw [hY] at r2 hYm
      have E5 := slicesEqual_any (A x.1) (A2 x.1) (C x.1) (C2 x.1) m X Y W hXm hYm (by omega) (r1.since (below_since gB)) (r2.since (below_since gB))
      have HX := Lib.hid hX
      have HY := Lib.hid hY
      obtain ⟨bb, hbb⟩ : ∃ bb, decide (X = Y) = bb := ⟨_, rfl⟩
      rw [hbb] at E5
      have HBB := Lib.hid hbb
      replace E5 := Lib.hid E5
      clear hX hY hXm hYm r1 r2 hbb
      cases bb with
      | true =>
        gi_wp2_with (refine ⟨trivial, ?_⟩; gi_at_call 104; refine (CallsIn.inRound lp (callsIn_wide.2 E5.out)).mono ?_; rintro e w' ⟨rfl, qq, rfl⟩)
        have hxy : X = Y := of_decide_eq_true HBB.out
        refine ⟨⟨Nat.le_refl _, fun _ _ h _ => h⟩, ⟨rfl, rfl, rfl, Nat.le_refl _, fun _ _ => rfl⟩, ⟨g0, g1, g2, fun y hy => ?_⟩, ⟨gB.os, gB.tape, gB.output, gB.size, gB.block⟩⟩
        rcases List.mem_append.1 hy with hy | hy
        · exact g3 y hy
        · simp at hy
          subst hy
          rw [HX.out, HY.out]; exact hxy
      | false =>
        gi_wp2_with (refine ⟨trivial, ?_⟩; gi_at_call 104; refine (CallsIn.inRound lp (callsIn_wide.2 E5.out)).mono ?_; rintro e w' ⟨rfl, qq, rfl⟩)
        have hxy : X ≠ Y := of_decide_eq_false HBB.out
        have gB' : Below w.heap.size w (W.drewN qq) := ⟨gB.os, gB.tape, gB.output, gB.size, gB.block⟩
        have g1' : (W.drewN qq).cell? ⟨w.heap.size + 1, 0, none⟩ = some (.bool false) := g1
        have hk0 : KeepsOthers W (W.drewN qq) := ⟨Nat.le_refl _, fun _ _ h _ => h⟩
        exact ⟨hk0.trans (KeepsOthers.setCell _ _ _), ⟨rfl, fun e => hxy (by rw [← HX.out, ← HY.out, e]), World.cell?_setCell_same' _ _ _ (by rw [g1']; rfl)⟩, gB'.setCell (p := ⟨w.heap.size + 1, 0, none⟩) (by simp) _⟩
    case done =>
      rintro D ys W hD rfl ⟨⟨g0, g1, g2, g3⟩, gB⟩ hK
      have hlu : l = u := HEQ.out fun r hr => g3 ⟨r, hr⟩ (sel_mem (2 ^ n2 - 1) n2 hr (Nat.le_refl _) (by rw [Nat.testBit_two_pow_sub_one]; simpa using hr))
      have HLU := Lib.hid hlu
      clear hlu
      gi_wp2
      have hK' := (KeepsOthers.setCell W ⟨w.heap.size + 1, 0, none⟩ (.bool true)).same D _ hK rfl
      refine ⟨by simp, .inl ⟨_, _, rfl, run_takeDeferred hK', ?_⟩⟩
      have hc5 := cell_kept (World.cell?_setCell_same' W ⟨w.heap.size + 1, 0, none⟩ (.bool true) (by rw [g1]; rfl)) (grownBy_putObj' _ D (.deferred none)) (fun r e => by cases e; exact ⟨_, hK', rfl⟩)
      refine ⟨.bool true, ?_, ret_bool (decide_eq_true HLU.out).symm, below_since ((gB.setCell (p := ⟨w.heap.size + 1, 0, none⟩) (by simp) _).trans (belowK_b (w := w) (Nat.le_refl _) _ D _ _ (by omega) hK' rfl rfl))⟩
      simp [results, Try.f51, go_sem, hc5]
    case stop =>
      rintro D c pre W hD hpre ⟨⟨rfl, hnot, hcr⟩, gB⟩ hK
      have HNOT := Lib.hid hnot
      clear hnot
      gi_wp2
      refine ⟨by simp, .inl ⟨_, _, rfl, run_takeDeferred hK, ?_⟩⟩
      have hc5 := cell_kept hcr (grownBy_putObj' _ D (.deferred none)) (fun r e => by cases e; exact ⟨_, hK, rfl⟩)
      refine ⟨.bool false, ?_, ret_bool (decide_eq_false HNOT.out).symm, below_since (gB.trans (belowK_b (w := w) (Nat.le_refl _) W D _ _ (by omega) hK rfl rfl))⟩
      simp [results, Try.f51, go_sem, hc5]

set_option maxHeartbeats 1000000 in
theorem implTableSame_any (a a2 : Option Addr) (cap cap2 n n2 : Nat) (l u : List (List Int)) (w : World) (hn : l.length = n) (hu : u.length = n2) (hsz : szL l ≤ 1048576) (hszu : szL u ≤ 1048576) (hm : MatR w a l) (hmu : MatR w a2 u) :
    Calls Try.prog 13 #[.slice a n cap, .slice a2 n2 cap2] w fun e w' => e = .returned (.bool (sameOk l u)) ∧ w.Since w.heap.size w' := by
  have E := Lib.hid (implTableIn_any a cap n l w hn hsz hm)
  have E2 := Lib.hid (fun (W : World) (hs : w.Since w.heap.size W) => implTableIn_any a2 cap2 n2 u W hu hszu (hmu.since hs))
  cases hT : tabIn l with
  | false =>
    have hok : sameOk l u = false := by unfold sameOk; rw [hT]; rfl
    rw [hT] at E
    rw [hok]
    clear hT hsz hm hn hok E2 hszu hmu hu
    go_enter Try.func13, Try.ntmps13
    go_wp2_with fail
    refine (E.out).mono ?_
    rintro e w1 ⟨rfl, hs⟩
    go_wp2
    go_ret
    exact ⟨rfl, hs⟩
  | true =>
    have hTT := tabIn_of hT
    rw [hT] at E
    cases hTu : tabIn u with
    | false =>
      have hok : sameOk l u = false := by unfold sameOk; rw [hT, hTu]; rfl
      rw [hTu] at E2
      rw [hok]
      clear hT hsz hm hn hok hTT hTu hszu hmu hu
      go_enter Try.func13, Try.ntmps13
      go_wp2_with fail
      refine (E.out).mono ?_
      rintro e w1 ⟨rfl, hs⟩
      go_wp2_with fail
      refine (E2.out w1 hs).mono ?_
      rintro e w2 ⟨rfl, hs2⟩
      go_wp2
      go_ret
      exact ⟨rfl, hs.trans (since_mono hs2 hs.size)⟩
    | true =>
      have hTTu := tabIn_of hTu
      rw [hTu] at E2
      have hok : sameOk l u = decide (l = u) := by unfold sameOk; rw [hT, hTu]; rfl
      rw [hok]
      have E3 := Lib.hid (fun (W : World) (hs : w.Since w.heap.size W) => same_any a a2 cap cap2 n n2 l u W hn hu (hm.since hs) (hmu.since hs) hTT hTTu)
      obtain ⟨bb, hb⟩ : ∃ bb, decide (l = u) = bb := ⟨_, rfl⟩
      rw [hb] at E3 ⊢
      clear hT hsz hm hn hok hTT hTu hszu hmu hu hTTu hb
      go_enter Try.func13, Try.ntmps13
      go_wp2_with fail
      refine (E.out).mono ?_
      rintro e w1 ⟨rfl, hs⟩
      go_wp2_with fail
      refine (E2.out w1 hs).mono ?_
      rintro e w2 ⟨rfl, hs2⟩
      have hs12 := hs.trans (since_mono hs2 hs.size)
      go_wp2_with fail
      refine (E3.out w2 hs12).mono ?_
      rintro e w3 ⟨rfl, hs3⟩
      go_wp2
      go_ret
      exact ⟨rfl, hs12.trans (since_mono hs3 hs12.size)⟩

end Go.Proofs.Ythdemjfllfhhpaa
end

section
namespace Go.Proofs.Ythdemjfllfhhpaa
open Go.RowKit Go.Deep

theorem same_ext {l u : List (List Int)} {n m : Nat} (hn : l.length = n) (hu : u.length = n) (hl : ∀ r, r < n → (l.getD r []).length = m) (hul : ∀ r, r < n → (u.getD r []).length = m) (h : ∀ r c, r < n → c < m → at2 l r c = at2 u r c) : l = u := by
  refine List.ext_getElem (by omega) fun r h1 h2 => ?_
  have e1 : l.getD r [] = l[r] := by simp [List.getD, h1]
  have e2 : u.getD r [] = u[r] := by simp [List.getD, h2]
  have l1 := hl r (by omega)
  have l2 := hul r (by omega)
  rw [e1] at l1
  rw [e2] at l2
  refine List.ext_getElem (by omega) fun c g1 g2 => ?_
  have := h r c (by omega) (by omega)
  unfold at2 at this
  rw [e1, e2] at this
  simpa [List.getD, g1, g2] using this

def SameTo (l u : List (List Int)) (m r c : Nat) : Prop := (∀ i j, i < r → j < m → at2 l i j = at2 u i j) ∧ ∀ j, j < c → at2 l r j = at2 u r j
theorem SameTo.next {l u : List (List Int)} {m r : Nat} (h : SameTo l u m r m) : SameTo l u m (r + 1) 0 :=
  ⟨fun i j hi hj => by
    by_cases e : i = r
    · subst e; exact h.2 j hj
    · exact h.1 i j (by omega) hj, fun j hj => absurd hj (Nat.not_lt_zero _)⟩
theorem SameTo.step {l u : List (List Int)} {m r c : Nat} (h : SameTo l u m r c) (e : at2 l r c = at2 u r c) : SameTo l u m r (c + 1) :=
  ⟨h.1, fun j hj => by
    by_cases e' : j = c
    · subst e'; exact e
    · exact h.2 j (by omega)⟩

set_option maxRecDepth 100000 in
set_option maxHeartbeats 2000000 in
theorem l1Same_any (a a2 : Option Addr) (cap cap2 n n2 : Nat) (l u : List (List Int)) (w : World) (hn : l.length = n) (hu : u.length = n2) (hm : MatR w a l) (hmu : MatR w a2 u) (hT : TabIn l) (hTu : TabIn u) :
    Calls Try.prog 53 #[.slice a n cap, .slice a2 n2 cap2] w fun e w' => e = .returned (.bool (decide (l = u))) ∧ Drawn w w' := by
  have h6 := hT.2.1
  have h1 := hT.1
  have g6 := hTu.2.1
  have hw := hT.width
  have gw := hTu.width
  rw [hn] at h1 h6
  rw [hu] at g6
  by_cases hne : n = n2
  · subst hne
    obtain ⟨m, hmm⟩ : ∃ m, (l.getD 0 []).length = m := ⟨_, rfl⟩
    obtain ⟨m', hmm'⟩ : ∃ m, (u.getD 0 []).length = m := ⟨_, rfl⟩
    have hrow : ∀ r, r < n → (l.getD r []).length = m := fun r hr => by rw [hT.row (by omega), hmm]
    have hrowu : ∀ r, r < n → (u.getD r []).length = m' := fun r hr => by rw [hTu.row (by omega), hmm']
    obtain ⟨bt, ot, At, Ct, rfl, hlen, hcell⟩ := hm.grid hn hT hmm
    obtain ⟨bu, ou, Au, Cu, rfl, hlenu, hcellu⟩ := hmu.grid hu hTu hmm'
    rw [hmm] at hw
    rw [hmm'] at gw
    have HC := Lib.hid hcell
    have HCU := Lib.hid hcellu
    have HL := Lib.hid hlen
    have HLU := Lib.hid hlenu
    by_cases hmm2 : m = m'
    · subst hmm2
      have hext := same_ext hn hu hrow hrowu
      have HEXT := Lib.hid hext
      clear hm hmu hT hTu hcell hcellu hlen hlenu hmm hmm' hext hrow hrowu hn hu
      go_enter Try.func53, Try.ntmps53
      go_wp2
      go_loopg [5, 6] n (fun g i _ wr => ∃ r : Nat, r ≤ n ∧ g = n - r ∧ i = .int .i64 r ∧ Drawn w wr ∧ SameTo l u m r 0)
      case atStart => exact ⟨0, Nat.zero_le _, rfl, rfl, Drawn.refl w, fun i j hi => absurd hi (Nat.not_lt_zero _), fun j hj => absurd hj (Nat.not_lt_zero _)⟩
      case round =>
        obtain ⟨r, hr, rfl, rfl, hD, hSm⟩ := hrel
        obtain ⟨wo, rfl⟩ : ∃ wo : World, wo = wr := ⟨_, rfl⟩
        by_cases hlt : r < n
        · have e1 := HL.out r hlt
          have e2 := HLU.out r hlt
          rw [← hD.cell] at e1 e2
          have HSm := Lib.hid hSm
          clear hSm
          go_wp2
          go_quiet (fail)
          go_wp2
          go_loopg [6] m (fun g j wi => ∃ c : Nat, c ≤ m ∧ g = m - c ∧ j = .int .i64 c ∧ Drawn wo wi ∧ SameTo l u m r c)
          case atStart => exact ⟨0, Nat.zero_le _, rfl, rfl, Drawn.mk _ _, HSm.out⟩
          case round =>
            obtain ⟨c, hc, rfl, rfl, hDi, hSi⟩ := hrel
            clear HSm
            rw [← hDi.cell] at e1 e2
            by_cases hcm : c < m
            · clear e1 e2
              obtain ⟨b', o', e1, e2, _, _⟩ := HC.out r c hlt hcm
              obtain ⟨d', q', g1, g2, _, _⟩ := HCU.out r c hlt hcm
              rw [← hD.cell, ← hDi.cell] at e1 e2 g1 g2
              obtain ⟨y, hy⟩ : ∃ y, at2 l r c = y := ⟨_, rfl⟩
              obtain ⟨z, hz⟩ : ∃ z, at2 u r c = z := ⟨_, rfl⟩
              rw [hy] at e2
              rw [hz] at g2
              have HY := Lib.hid hy
              have HZ := Lib.hid hz
              have HSi := Lib.hid hSi
              clear hy hz hSi
              by_cases hyz : y = z
              · subst hyz
                go_wp2
                go_quiet (fail)
                go_wp2
                go_roundg (m - (c + 1))
                case measure => omega
                case rel => exact ⟨c + 1, by omega, rfl, by go_num, hDi.trans (Drawn.mk _ _), HSi.out.step (by rw [HY.out, HZ.out])⟩
              · have hb : (y != z) = true := by simp [hyz]
                go_wp2
                go_quiet (fail)
                go_wp2
                go_ret
                refine ⟨ret_bool (decide_eq_false fun e => ?_).symm, (hD.trans hDi).trans (Drawn.mk _ _)⟩
                subst e
                exact hyz (by rw [← HY.out, ← HZ.out])
            · have : c = m := by omega
              subst this
              have HSn := Lib.hid hSi.next
              clear hSi
              go_wp2
              go_roundg (n - (r + 1))
              case measure => omega
              case rel => exact ⟨r + 1, by omega, rfl, by go_num, hD.trans hDi, HSn.out⟩
        · have : r = n := by omega
          subst this
          have hlu : l = u := HEXT.out fun i j hi hj => hSm.1 i j hi hj
          have HLUu := Lib.hid hlu
          clear hlu hSm
          go_wp2
          go_ret
          exact ⟨ret_bool (decide_eq_true HLUu.out).symm, hD⟩
    · have hb : ((m : Int) != (m' : Int)) = true := by simp; omega
      have hno : l ≠ u := by
        rintro rfl
        exact hmm2 (hmm.symm.trans hmm')
      have HNO := Lib.hid hno
      have e1 := HL.out 0 (by omega)
      have e2 := HLU.out 0 (by omega)
      rw [Nat.add_zero] at e1 e2
      clear hm hmu hT hTu hcell hcellu hlen hlenu hmm hmm' hrow hrowu hn hu hno
      go_enter Try.func53, Try.ntmps53
      go_wp2
      go_loopg [5, 6] 0 (fun g i _ wr => i = .int .i64 0 ∧ wr = w)
      case atStart => exact ⟨rfl, rfl⟩
      case round =>
        obtain ⟨rfl, rfl⟩ := hrel
        go_wp2
        go_quiet (fail)
        go_wp2
        go_ret
        exact ⟨ret_bool (decide_eq_false HNO.out).symm, Drawn.mk _ _⟩
  · have hb : ((n : Int) != (n2 : Int)) = true := by simp; omega
    have hno : l ≠ u := by
      rintro rfl
      exact hne (hn.symm.trans hu)
    have HNO := Lib.hid hno
    clear hm hmu hT hTu hn hu hno
    go_enter Try.func53, Try.ntmps53
    go_wp2
    go_ret
    exact ⟨ret_bool (decide_eq_false HNO.out).symm, Drawn.refl _⟩

set_option maxHeartbeats 1000000 in
theorem specTableSame_any (a a2 : Option Addr) (cap cap2 n n2 : Nat) (l u : List (List Int)) (w : World) (hn : l.length = n) (hu : u.length = n2) (hsz : szL l ≤ 1048576) (hszu : szL u ≤ 1048576) (hm : MatR w a l) (hmu : MatR w a2 u) :
    Calls Try.prog 14 #[.slice a n cap, .slice a2 n2 cap2] w fun e w' => e = .returned (.bool (sameOk l u)) ∧ w.Since w.heap.size w' := by
  have E := Lib.hid (specTableIn_any a cap n l w hn hsz hm)
  have E2 := Lib.hid (fun (W : World) (hs : Drawn w W) => specTableIn_any a2 cap2 n2 u W hu hszu (hmu.drawn hs))
  cases hT : tabIn l with
  | false =>
    have hok : sameOk l u = false := by unfold sameOk; rw [hT]; rfl
    rw [hT] at E
    rw [hok]
    clear hT hsz hm hn hok E2 hszu hmu hu
    go_enter Try.func14, Try.ntmps14
    go_wp2_with fail
    refine (E.out).mono ?_
    rintro e w1 ⟨rfl, hd⟩
    go_wp2
    go_ret
    exact ⟨rfl, hd.since _⟩
  | true =>
    have hTT := tabIn_of hT
    rw [hT] at E
    cases hTu : tabIn u with
    | false =>
      have hok : sameOk l u = false := by unfold sameOk; rw [hT, hTu]; rfl
      rw [hTu] at E2
      rw [hok]
      clear hT hsz hm hn hok hTT hTu hszu hmu hu
      go_enter Try.func14, Try.ntmps14
      go_wp2_with fail
      refine (E.out).mono ?_
      rintro e w1 ⟨rfl, hd⟩
      go_wp2_with fail
      refine (E2.out w1 hd).mono ?_
      rintro e w2 ⟨rfl, hd2⟩
      go_wp2
      go_ret
      exact ⟨rfl, (hd.trans hd2).since _⟩
    | true =>
      have hTTu := tabIn_of hTu
      rw [hTu] at E2
      have hok : sameOk l u = decide (l = u) := by unfold sameOk; rw [hT, hTu]; rfl
      rw [hok]
      have E3 := Lib.hid (fun (W : World) (hs : Drawn w W) => l1Same_any a a2 cap cap2 n n2 l u W hn hu (hm.drawn hs) (hmu.drawn hs) hTT hTTu)
      obtain ⟨b, hb⟩ : ∃ b, decide (l = u) = b := ⟨_, rfl⟩
      rw [hb] at E3 ⊢
      clear hT hsz hm hn hok hTT hTu hszu hmu hu hTTu hb
      go_enter Try.func14, Try.ntmps14
      go_wp2_with fail
      refine (E.out).mono ?_
      rintro e w1 ⟨rfl, hd⟩
      go_wp2_with fail
      refine (E2.out w1 hd).mono ?_
      rintro e w2 ⟨rfl, hd2⟩
      have hd12 := hd.trans hd2
      go_wp2_with fail
      refine (E3.out w2 hd12).mono ?_
      rintro e w3 ⟨rfl, hd3⟩
      go_wp2
      go_ret
      exact ⟨rfl, (hd12.trans hd3).since _⟩

end Go.Proofs.Ythdemjfllfhhpaa
end

section
namespace Go.Proofs.Ythdemjfllfhhpaa
open Go.RowKit Go.Deep

structure SW (w1 w' : World) (b n m : Nat) (A : Nat → Option Addr) (G C : Nat → Nat) (Z : Nat → Nat → Int) (hi : Nat) : Prop where
  since : w1.Since w1.heap.size w'
  size : hi ≤ w'.heap.size
  own : OwnD w1.heap.size hi w' b A G C n (fun _ => m) Z
  free : ∀ r, r < n → w'.frozen? ⟨b, r, none⟩ = false
  inb : w1.heap.size ≤ b ∧ b < hi

theorem SW.later {w1 w' w2 : World} {b n m : Nat} {A : Nat → Option Addr} {G C : Nat → Nat} {Z : Nat → Nat → Int} {hi : Nat} (h : SW w1 w' b n m A G C Z hi) (hs : w'.Since w'.heap.size w2) : SW w1 w2 b n m A G C Z hi :=
  ⟨h.since.trans (since_mono hs h.since.size), Nat.le_trans h.size hs.size, h.own.later hs, fun r hr => by rw [hs.frozen (a := ⟨b, r, none⟩) (World.block_lt_of_cell? _ _ (h.own.top r hr))]; exact h.free r hr, h.inb⟩

theorem SW.put {w1 w2 w3 : World} {b n m : Nat} {A : Nat → Option Addr} {G C : Nat → Nat} {Z : Nat → Nat → Int} {hi : Nat} (h : SW w1 w2 b n m A G C Z hi) (hs : w2.Since w2.heap.size w3) {g cp : Nat} {x : List Int} (hg : w2.heap.size ≤ g) (hx : RowB w3 g x) (hxl : x.length = m)
    (hm : 0 < m) {i : Nat} (hi' : i < n) : SW w1 (w3.setCell ⟨b, i, none⟩ (.slice (some ⟨g, 0, none⟩) m cp)) b n m (fun r => if r = i then some ⟨g, 0, none⟩ else A r) (fun r => if r = i then g else G r) (fun r => if r = i then cp else C r) (fun r c => if r = i then x.getD c 0 else Z r c) w3.heap.size := by
  have h3 := h.later hs
  have hgl := hx.lt
  have hsz := h.size
  have hb := h.inb
  have hss := h.since.size
  have hsz3 := hs.size
  have hgb : g ≠ b := by omega
  refine ⟨h3.since.setCell hb.1 _, by simp, ⟨fun r hr => ?_, fun r hr h0 => ?_, fun r hr h0 => ?_, fun r hr c hc => ?_, fun r hr c hc => ?_, fun r r' hr hr' h0 h0' e => ?_⟩, fun r hr => by rw [World.frozen?_setCell]; exact h3.free r hr, hb.1, by omega⟩
  · by_cases e : r = i
    · subst e
      rw [if_pos rfl, if_pos rfl]
      exact World.cell?_setCell_same' _ _ _ (by rw [h3.own.top r hr]; rfl)
    · rw [if_neg e, if_neg e, World.cell?_setCell_other _ _ _ _ (fun e' => e (by injection e' with _ e'; exact e'.symm))]
      exact h3.own.top r hr
  · by_cases e : r = i
    · rw [if_pos e, if_pos e]
    · rw [if_neg e, if_neg e]; exact h3.own.addr r hr h0
  · by_cases e : r = i
    · rw [if_pos e]; exact ⟨by omega, hgl, hgb⟩
    · rw [if_neg e]; have := h3.own.inside r hr h0; exact ⟨this.1, by omega, this.2.2⟩
  · by_cases e : r = i
    · rw [if_pos e, if_pos e, World.cell?_setCell_other _ _ _ _ (fun e' => hgb (by injection e' with e'; exact e'.symm))]
      exact hx.cell (by rw [hxl]; exact hc)
    · rw [if_neg e, if_neg e, World.cell?_setCell_other _ _ _ _ (fun e' => (h3.own.inside r hr (by omega)).2.2 (by injection e' with e'; exact e'.symm))]
      exact h3.own.cell r hr c hc
  · rw [World.frozen?_setCell]
    by_cases e : r = i
    · rw [if_pos e]; exact hx.frozen c
    · rw [if_neg e]; exact h3.own.free r hr c hc
  · by_cases e1 : r = i <;> by_cases e2 : r' = i
    · omega
    · rw [if_pos e1, if_neg e2] at e
      have := (h.own.inside r' hr' h0').2.1
      omega
    · rw [if_neg e1, if_pos e2] at e
      have := (h.own.inside r hr h0).2.1
      omega
    · rw [if_neg e1, if_neg e2] at e
      exact h3.own.apart r r' hr hr' h0 h0' e

theorem OwnT.sw {w w1 : World} {a : Option Addr} {l : List (List Int)} {n m : Nat} (h : OwnT w.heap.size w1.heap.size w1 a l) (hn : l.length = n) (h1 : 0 < n) (hm : ∀ r, r < n → (l.getD r []).length = m) (hs : w.Since w.heap.size w1) (hf : FreeTop w1 a n) :
    ∃ b A G C, a = some ⟨b, 0, none⟩ ∧ SW w w1 b n m A G C (fun r c => at2 l r c) w1.heap.size := by
  obtain ⟨b, A, G, C, e, hb, hW⟩ := h.wr hn h1 hm hs (fun _ _ => 0)
  exact ⟨b, A, G, C, e, hs, Nat.le_refl _, hW.own.congr fun r _ c _ => by unfold updF; rw [if_neg (by omega)], fun r hr => hf b r e hr, hb⟩

theorem SW.ownT {w1 w' : World} {b n m : Nat} {A : Nat → Option Addr} {G C : Nat → Nat} {Z : Nat → Nat → Int} {hi : Nat} {l : List (List Int)} (h : SW w1 w' b n m A G C Z hi) (hn : l.length = n) (hm : ∀ r, r < n → (l.getD r []).length = m) (hZ : ∀ r c, r < n → c < m → at2 l r c = Z r c) : OwnT w1.heap.size w'.heap.size w' (some ⟨b, 0, none⟩) l :=
  (h.own.ownT h.inb hn hm fun r hr c hc => hZ r c hr hc).mono (Nat.le_refl _) h.size

theorem own_row (W : World) : (W.alloc (.cells #[] 3)).ownsRow W.heap.size 3 1 (.slice (some ⟨W.heap.size, 0, none⟩) 0 0) 0 [] := World.ownsRow_made W #[] 0 (Nat.le_refl _) (Nat.zero_le _) rfl
theorem row_cells {w W : World} {b' o' m : Nat} {x : List Int} (hx : x.length = m) (hs : w.Since w.heap.size W) (hce : ∀ j, j < m → w.cell? ⟨b', o' + j, none⟩ = some (.int .i64 (x.getD j 0))) (o : Obj) : ∀ (j : Nat) (u : Value), (x.map (Value.int .i64))[j]? = some u → (W.alloc o).cell? ((⟨b', o', none⟩ : Addr).add j) = some u := fun j u hj => by
  rw [Go.WideShapes.add_plain]
  obtain ⟨hjl, he⟩ := List.getElem?_eq_some_iff.1 hj
  have hjx : j < m := by rw [← hx]; simpa using hjl
  have h2 := hce j hjx
  refine cell_alloc_l _ ?_
  rw [hs.cell (a := ⟨b', o' + j, none⟩) (World.block_lt_of_cell? _ _ h2), h2, ← he]
  simp [List.getD, show j < x.length by omega]

end Go.Proofs.Ythdemjfllfhhpaa
end

section
namespace Go.Proofs.Ythdemjfllfhhpaa
open Go.RowKit Go.Deep

theorem swap_back {l : List (List Int)} {i k : Int} (h : swapOk l i k = true) : swapOk (swapL l i.toNat k.toNat) i k = true ∧ swapL (swapL l i.toNat k.toNat) i.toNat k.toNat = l := by
  have hT := swapOk_tab h
  unfold swapOk at h ⊢
  rw [Bool.and_eq_true, Bool.and_eq_true] at h
  refine ⟨by rw [tabIn_true hT, swapL_length, h.2.1, h.2.2]; rfl, ?_⟩
  obtain ⟨i, rfl, hi⟩ := rowB_of h.2.1
  obtain ⟨k, rfl, hk⟩ := rowB_of h.2.2
  rw [Int.toNat_natCast, Int.toNat_natCast]
  have e : swapL (swapL l i k) i k = (List.range l.length).map fun r => l.getD r [] := by
    show (List.range (swapL l i k).length).map (fun r => (swapL l i k).getD (sw i k r) []) = _
    rw [swapL_length]
    refine List.map_congr_left fun r hr => ?_
    rw [swapL_get l i k (sw_lt hi hk (List.mem_range.1 hr)), sw_sw]
  rw [e, range_getD]

theorem tabF_congr {n m : Nat} {f g : Nat → Nat → Int} (h : ∀ i k, i < n → k < m → f i k = g i k) : tabF n m f = tabF n m g := by
  unfold tabF
  exact List.map_congr_left fun r hr => List.map_congr_left fun k hk => h r k (List.mem_range.1 hr) (List.mem_range.1 hk)

theorem add_back {l : List (List Int)} {fr tq f : Int} (h : addOk l fr tq f = true) : addOk (addL l fr.toNat tq.toNat f) fr tq (-f) = true ∧ addL (addL l fr.toNat tq.toNat f) fr.toNat tq.toNat (-f) = l := by
  unfold addOk at h ⊢
  simp only [Bool.and_eq_true, Bool.not_eq_true'] at h
  obtain ⟨h1, h2, h3, h4, h5, h6⟩ := h
  have hT := tabIn_of h1
  obtain ⟨fr, rfl, hfr⟩ := rowB_of h2
  obtain ⟨tq, rfl, hto⟩ := rowB_of h3
  rw [Int.toNat_natCast, Int.toNat_natCast] at *
  have hne : fr ≠ tq := by rintro rfl; simp at h4
  have hw := hT.width
  have h0 := hT.1
  have e0 : ((addL l fr tq f).getD 0 []).length = (l.getD 0 []).length := tabF_len _ _ _ _ (by omega)
  have e : addL (addL l fr tq f) fr tq (-f) = l := by
    show tabF (addL l fr tq f).length ((addL l fr tq f).getD 0 []).length (addF (addL l fr tq f) fr tq (-f)) = l
    rw [addL_length, e0]
    refine Eq.trans (tabF_congr fun i k hi hk => ?_) (tab_self rfl (fun r hr => hT.row hr))
    have a1 : at2 (addL l fr tq f) i k = addF l fr tq f i k := tabF_at _ _ _ _ _ hi hk
    have a2 : at2 (addL l fr tq f) fr k = addF l fr tq f fr k := tabF_at _ _ _ _ _ hfr hk
    show (if i = tq then at2 (addL l fr tq f) i k + (-f) * at2 (addL l fr tq f) fr k else at2 (addL l fr tq f) i k) = at2 l i k
    rw [a1, a2]
    unfold addF
    by_cases hi : i = tq
    · rw [if_pos hi, if_pos hi, if_neg hne, Int.neg_mul]; omega
    · rw [if_neg hi, if_neg hi]
  refine ⟨?_, e⟩
  have h5' := of_decide_eq_true h5
  rw [h6, addL_length, h2, h3, h4, e, h1]
  have : inB (-f) (-30) 30 = true := by unfold inB at *; simp at *; omega
  rw [this]; rfl
theorem addOk_num {l : List (List Int)} {fr tq f : Int} (h : addOk l fr tq f = true) : -30 ≤ f ∧ f ≤ 30 := by
  unfold addOk at h
  simp only [Bool.and_eq_true] at h
  exact of_decide_eq_true h.2.2.2.2.1

end Go.Proofs.Ythdemjfllfhhpaa
end

section
namespace Go.Proofs.Ythdemjfllfhhpaa
open Go.RowKit Go.Deep

theorem tabF_tab {n m : Nat} {f : Nat → Nat → Int} (hn : 1 ≤ n ∧ n ≤ 6) (hm : 1 ≤ m ∧ m ≤ 6) (h : ∀ i k, i < n → k < m → -30 ≤ f i k ∧ f i k ≤ 30) : TabIn (tabF n m f) := by
  refine ⟨by rw [tabF_length]; exact hn.1, by rw [tabF_length]; exact hn.2, fun r hr => ?_⟩
  rw [tabF_length] at hr
  refine ⟨by rw [tabF_len _ _ _ _ hr, tabF_len _ _ _ _ (by omega)], by rw [tabF_len _ _ _ _ hr]; exact hm.1, by rw [tabF_len _ _ _ _ hr]; exact hm.2, fun k hk => ?_⟩
  rw [tabF_len _ _ _ _ hr] at hk
  rw [tabF_at _ _ _ _ _ hr hk]
  exact h r k hr hk
theorem tab_bd {n m : Nat} {f : Nat → Nat → Int} (hn : 1 ≤ n) (h : TabIn (tabF n m f)) : ∀ i k, i < n → k < m → -30 ≤ f i k ∧ f i k ≤ 30 := by
  intro i k hi hk
  have h1 := h.at (i := i) (k := k) (by rw [tabF_length]; exact hi) (by rw [tabF_len _ _ _ _ (by omega)]; exact hk)
  have h2 : at2 (tabF n m f) i k = f i k := tabF_at _ _ _ _ _ hi hk
  rw [h2] at h1
  exact h1
theorem TabIn.sides {l : List (List Int)} (h : TabIn l) : (1 ≤ l.length ∧ l.length ≤ 6) ∧ (1 ≤ (l.getD 0 []).length ∧ (l.getD 0 []).length ≤ 6) := ⟨⟨h.1, h.2.1⟩, h.width⟩
theorem timesL_at {l : List (List Int)} {z : Int} {i k : Nat} (hi : i < l.length) (hk : k < (l.getD 0 []).length) : at2 (timesL l z) i k = at2 l i k * z := tabF_at _ _ _ _ _ hi hk
theorem timesL_width {l : List (List Int)} (z : Int) (h : 1 ≤ l.length) : ((timesL l z).getD 0 []).length = (l.getD 0 []).length := tabF_len _ _ _ _ (by omega)

theorem less_bd {x z : Int} (hz : 1 ≤ z) (h1 : -30 ≤ x * z) (h2 : x * z ≤ 30) : -30 ≤ x * (z - 1) ∧ x * (z - 1) ≤ 30 := by
  rw [Int.mul_sub, Int.mul_one]
  by_cases hx : 0 ≤ x
  · have := Int.mul_le_mul_of_nonneg_left hz hx
    rw [Int.mul_one] at this
    omega
  · have := Int.mul_le_mul_of_nonneg_left hz (show 0 ≤ -x by omega)
    rw [Int.mul_one, Int.neg_mul] at this
    omega

theorem timesOk_of {l : List (List Int)} {z : Int} (h : timesOk l z = true) : TabIn l ∧ (-30 ≤ z ∧ z ≤ 30) ∧ TabIn (timesL l z) := by
  unfold timesOk at h
  simp only [Bool.and_eq_true] at h
  exact ⟨tabIn_of h.1, of_decide_eq_true h.2.1, tabIn_of h.2.2⟩

theorem times_less {l : List (List Int)} {z : Int} (h : timesOk l z = true) (hz : 1 ≤ z) : timesOk l (z - 1) = true ∧ sumOk (timesL l (z - 1)) l = true ∧ sumL (timesL l (z - 1)) l = timesL l z := by
  obtain ⟨hT, hzb, hM⟩ := timesOk_of h
  have hs := hT.sides
  have hb := tab_bd hs.1.1 hM
  have hL : TabIn (timesL l (z - 1)) := tabF_tab hs.1 hs.2 fun i k hi hk => less_bd hz (hb i k hi hk).1 (hb i k hi hk).2
  have hin : inB (z - 1) (-30) 30 = true := by unfold inB; simp; omega
  have e : sumL (timesL l (z - 1)) l = timesL l z := by
    show tabF (timesL l (z - 1)).length ((timesL l (z - 1)).getD 0 []).length (fun i k => at2 (timesL l (z - 1)) i k + at2 l i k) = tabF l.length (l.getD 0 []).length fun i k => at2 l i k * z
    rw [timesL_length, timesL_width _ hs.1.1]
    refine tabF_congr fun i k hi hk => ?_
    rw [timesL_at hi hk, Int.mul_sub, Int.mul_one]
    omega
  refine ⟨?_, ?_, e⟩
  · unfold timesOk
    rw [tabIn_true hT, hin, tabIn_true hL]; rfl
  · unfold sumOk alikeB
    rw [e, tabIn_true hT, tabIn_true hL, tabIn_true hM, timesL_length, timesL_width _ hs.1.1]
    simp

end Go.Proofs.Ythdemjfllfhhpaa
end

section
namespace Go.Proofs.Ythdemjfllfhhpaa
open Go.RowKit Go.Deep

theorem turnL_at {l : List (List Int)} {i k : Nat} (hi : i < l.length) (hk : k < (l.getD 0 []).length) : at2 (turnL l) k i = at2 l i k := tabF_at _ _ _ _ _ hk hi
theorem turnL_width {l : List (List Int)} (h : TabIn l) : ((turnL l).getD 0 []).length = l.length := tabF_len _ _ _ _ (by have := h.width; omega)
theorem turnL_tab {l : List (List Int)} (h : TabIn l) : TabIn (turnL l) := tabIn_of (tabIn_turn h)

theorem sumOk_of {l u : List (List Int)} (h : sumOk l u = true) : TabIn l ∧ TabIn u ∧ l.length = u.length ∧ (l.getD 0 []).length = (u.getD 0 []).length ∧ TabIn (sumL l u) := by
  unfold sumOk alikeB at h
  simp only [Bool.and_eq_true, beq_iff_eq] at h
  exact ⟨tabIn_of h.1, tabIn_of h.2.1, h.2.2.1.1, h.2.2.1.2, tabIn_of h.2.2.2⟩
theorem sumOk_mk {l u : List (List Int)} (h1 : TabIn l) (h2 : TabIn u) (h3 : l.length = u.length) (h4 : (l.getD 0 []).length = (u.getD 0 []).length) (h5 : TabIn (sumL l u)) : sumOk l u = true := by
  unfold sumOk alikeB
  rw [tabIn_true h1, tabIn_true h2, tabIn_true h5, h3, h4]
  simp

theorem sum_comm {l u : List (List Int)} (h : sumOk l u = true) : sumOk u l = true ∧ sumL u l = sumL l u := by
  obtain ⟨h1, h2, h3, h4, h5⟩ := sumOk_of h
  have e : sumL u l = sumL l u := by
    unfold sumL
    rw [← h3, ← h4]
    exact tabF_congr fun i k _ _ => Int.add_comm _ _
  exact ⟨sumOk_mk h2 h1 h3.symm h4.symm (by rw [e]; exact h5), e⟩

theorem sumL_at {l u : List (List Int)} {i k : Nat} (hi : i < l.length) (hk : k < (l.getD 0 []).length) : at2 (sumL l u) i k = at2 l i k + at2 u i k := tabF_at _ _ _ _ _ hi hk
theorem sumL_width {l : List (List Int)} (u : List (List Int)) (h : 1 ≤ l.length) : ((sumL l u).getD 0 []).length = (l.getD 0 []).length := tabF_len _ _ _ _ (by omega)

theorem sum_turn {l u : List (List Int)} (h : sumOk l u = true) : sumOk (turnL l) (turnL u) = true ∧ sumL (turnL l) (turnL u) = turnL (sumL l u) := by
  obtain ⟨h1, h2, h3, h4, h5⟩ := sumOk_of h
  have e : sumL (turnL l) (turnL u) = turnL (sumL l u) := by
    show tabF (turnL l).length ((turnL l).getD 0 []).length (fun i k => at2 (turnL l) i k + at2 (turnL u) i k) = tabF ((sumL l u).getD 0 []).length (sumL l u).length fun k i => at2 (sumL l u) i k
    rw [turnL_length, turnL_width h1, sumL_width u h1.1, sumL_length]
    refine tabF_congr fun k i hk hi => ?_
    rw [turnL_at hi hk, turnL_at (l := u) (by omega) (by omega), sumL_at hi hk]
  exact ⟨sumOk_mk (turnL_tab h1) (turnL_tab h2) (by rw [turnL_length, turnL_length, h4]) (by rw [turnL_width h1, turnL_width h2, h3]) (by rw [e]; exact turnL_tab h5), e⟩

end Go.Proofs.Ythdemjfllfhhpaa
end

section
namespace Go.Proofs.Ythdemjfllfhhpaa
open Go.RowKit Go.Deep

theorem neg_tab {l : List (List Int)} (hT : TabIn l) : TabIn (timesL l (-1)) := by
  refine tabIn_tabF hT.1 hT.2.1 hT.width.1 hT.width.2 (fun i k hi hk => ?_)
  have := hT.at hi hk
  omega
theorem about_same {l : List (List Int)} {n : Nat} (hT : TabIn l) (hn : l.length = n) (hw : (l.getD 0 []).length = n) : (decide (l = timesL (turnL l) (-1))) = decide (AboutP l n) := by
  have hat : ∀ i k, i < n → k < n → at2 (timesL (turnL l) (-1)) i k = -at2 l k i := fun i k hi hk => by
    rw [timesL_at (by rw [turnL_length]; omega) (by rw [turnL_width hT]; omega), turnL_at (by omega) (by omega)]
    omega
  by_cases h : AboutP l n
  · rw [decide_eq_true h]
    refine decide_eq_true ?_
    have hTt := tabIn_of (tabIn_turn hT)
    have hlt : (turnL l).length = n := (turnL_length l).trans hw
    have hN := neg_tab hTt
    have hlN : (timesL (turnL l) (-1)).length = n := (timesL_length _ _).trans hlt
    have hwN : ((timesL (turnL l) (-1)).getD 0 []).length = n := by rw [timesL_width _ (by have := hT.1; omega), turnL_width hT]; exact hn
    refine same_ext (n := n) (m := n) hn hlN (fun r hr => by rw [hT.row (by omega), hw]) (fun r hr => by rw [hN.row (by omega), hwN]) fun i k hi hk => ?_
    rw [hat i k hi hk]
    by_cases e : k ≤ i
    · have := h i hi k (by omega); omega
    · have := h k hk i (by omega); omega
  · rw [decide_eq_false h]
    refine decide_eq_false fun e => h fun i hi k hk => ?_
    have this : at2 l i k = at2 (timesL (turnL l) (-1)) i k := congrArg (fun m => at2 m i k) e
    rw [hat i k hi (by omega)] at this
    omega

set_option maxRecDepth 100000 in
set_option maxHeartbeats 1000000 in
theorem turnedAbout_any (a : Option Addr) (cap n : Nat) (l : List (List Int)) (w : World) (hn : l.length = n) (hsz : szL l ≤ 1048576) (hm : MatR w a l) :
    Calls Try.prog 88 #[.slice a n cap] w fun e w' => e = .returned (.bool (pairB l)) ∧ w.Since w.heap.size w' := by
  have E := isSquare_any a cap n l w hn hsz hm
  cases hs : sqB l with
  | false =>
    have hok : pairB l = false := by unfold pairB; rw [hs]; rfl
    rw [hs] at E
    rw [hok]
    replace E := Lib.hid E
    clear hs hm hn hsz hok
    go_enter Try.func88, Try.ntmps88
    go_wp2_with (first
      | (go_at_call 78; refine (E.out).mono ?_; rintro e w1 ⟨rfl, hd⟩; have HD := Lib.hid hd; clear hd))
    go_ret
    exact ⟨rfl, HD.out⟩
  | true =>
    obtain ⟨hT, hw⟩ := sqB_of hs
    rw [hn] at hw
    have hok : pairB l = decide (l = timesL (turnL l) (-1)) := by rw [about_same hT hn hw.symm]; unfold pairB; rw [hs, hn]; rfl
    rw [hs] at E
    rw [hok]
    have hTt := tabIn_of (tabIn_turn hT)
    have hlt : (turnL l).length = n := (turnL_length l).trans hw.symm
    have ET := fun (W : World) (hd : w.Since w.heap.size W) => turned_any a cap n l W hn hT (hm.since hd)
    simp only [← hw] at ET
    have EM := fun (b : Option Addr) (W : World) (hd : MatR W b (turnL l)) => times_any b n n (turnL l) (-1) W hlt hTt hd (by omega) (by omega)
    have ES := fun (b : Option Addr) (W : World) (hd : w.Since w.heap.size W) (hb : MatR W b (timesL (turnL l) (-1))) => same_any a b cap n n n l (timesL (turnL l) (-1)) W hn ((timesL_length _ _).trans hlt) (hm.since hd) hb hT (neg_tab hTt)
    obtain ⟨r, hr⟩ : ∃ r, decide (l = timesL (turnL l) (-1)) = r := ⟨_, rfl⟩
    simp only [hr] at ES
    rw [hr]
    replace E := Lib.hid E
    replace ET := Lib.hid ET
    replace EM := Lib.hid EM
    replace ES := Lib.hid ES
    clear hs hm hn hsz hok hT hw hTt hlt hr
    go_enter Try.func88, Try.ntmps88
    go_wp2_with (first
      | (go_at_call 78; refine (E.out).mono ?_; rintro e w1 ⟨rfl, hd⟩; have HD := Lib.hid hd; clear hd)
      | (go_at_call 92; refine (ET.out w1 HD.out).mono ?_; rintro e w2 ⟨rfl, hs2, ho2⟩; have HS2 := Lib.hid (HD.out.trans (since_mono hs2 HD.out.size)); have HO2 := Lib.hid ho2.matR; clear hs2 ho2)
      | (go_at_call 113; refine (EM.out _ w2 HO2.out).mono ?_; rintro e w3 ⟨rfl, hs3, ho3⟩; have HS3 := Lib.hid (HS2.out.trans (since_mono hs3 HS2.out.size)); have HO3 := Lib.hid ho3.matR; clear hs3 ho3)
      | (go_at_call 51; refine (ES.out _ w3 HS3.out HO3.out).mono ?_; rintro e w4 ⟨rfl, hs4⟩; have HS4 := Lib.hid (HS3.out.trans (since_mono hs4 HS3.out.size)); clear hs4))
    go_ret
    exact ⟨rfl, HS4.out⟩

theorem implPairIn_any (a : Option Addr) (cap n : Nat) (l : List (List Int)) (w : World) (hn : l.length = n) (hsz : szL l ≤ 1048576) (hm : MatR w a l) :
    Calls Try.prog 35 #[.slice a n cap] w fun e w' => e = .returned (.bool (pairB l)) ∧ w.Since w.heap.size w' := by
  have E := Lib.hid (turnedAbout_any a cap n l w hn hsz hm)
  clear hm hn hsz
  go_enter Try.func35, Try.ntmps35
  go_wp2_with fail
  refine (E.out).mono ?_
  rintro e w1 ⟨rfl, hd⟩
  have HD := Lib.hid hd
  clear hd
  go_wp2
  go_ret
  exact ⟨rfl, HD.out⟩

end Go.Proofs.Ythdemjfllfhhpaa
end

section
namespace Go.Proofs.Ythdemjfllfhhpaa
open Go.RowKit Go.Deep

theorem pair_turn {l : List (List Int)} {n : Nat} (h : pairB l = true) (hn : l.length = n) : pairB (turnL l) = true := by
  obtain ⟨hT, hw, hab⟩ := pairB_of h hn
  obtain ⟨_, _, ht1, ht2, _, _⟩ := value_turn (pairB_sq h) hn
  unfold pairB
  rw [ht1, ht2, Bool.true_and]
  refine decide_eq_true fun i hi k hk => ?_
  rw [turnL_at (by omega) (by omega), turnL_at (by omega) (by omega)]
  have := hab i hi k hk
  omega

set_option maxRecDepth 100000 in
set_option maxHeartbeats 4000000 in
theorem fnPair (a : Option Addr) (cap n : Nat) (w : World) (hc : n ≤ cap) (h63 : cap ≤ 9223372036854775807) (hb : BytR w a n) :
    Calls Try.prog 9 #[.slice a n cap] w fun e w' => e = .returned (.bool true) ∧ w.Since w.heap.size w' := by
  by_cases hlen : 1048576 < n
  · have hl' : decide ((1048576 : Int) < (n : Int)) = true := by simp; omega
    clear hb
    go_enter Try.func9, Try.ntmps9
    go_wp2
    go_ret
    exact ⟨rfl, World.Since.refl _ _⟩
  · have hl' : decide ((1048576 : Int) < (n : Int)) = false := by simp; omega
    have ED := Lib.hid (drawPairIn_any a n cap w hc h63 hb)
    clear hb
    go_enter Try.func9, Try.ntmps9
    go_wp2_with fail
    refine (ED.out).mono ?_
    rintro e w1 ⟨a1, c1, l, rfl, hs1, h1, h5, hlens, hit⟩
    have hsz : szL l ≤ 1048576 := szL_of h5 (fun j hj => (hlens j hj).2) (by decide)
    obtain ⟨nn, hn⟩ : ∃ nn, l.length = nn := ⟨_, rfl⟩
    rw [hn]
    have HN := Lib.hid hn
    have HSZ := Lib.hid hsz
    have HM := Lib.hid (fun (W : World) (h : w1.Since w1.heap.size W) => hit.matR.since h)
    have HS1 := Lib.hid hs1
    obtain ⟨ok, hok⟩ : ∃ ok, pairB l = ok := ⟨_, rfl⟩
    have E1 := implPairIn_any a1 c1 nn l w1 hn hsz hit.matR
    have E2 := fun (W : World) (h : w1.Since w1.heap.size W) => specPairIn_any a1 c1 nn l W hn hsz (hit.matR.since h)
    rw [hok] at E1
    simp only [hok] at E2
    replace E1 := Lib.hid E1
    replace E2 := Lib.hid E2
    have HOK := Lib.hid hok
    clear hn hsz hit hs1 h1 h5 hlens hok
    go_wp2_with fail
    refine (E1.out).mono ?_
    rintro e w2 ⟨rfl, hs2⟩
    have HS2 := Lib.hid hs2
    clear hs2
    go_wp2_with fail
    refine (E2.out w2 HS2.out).mono ?_
    rintro e w3 ⟨rfl, hd3⟩
    have HS3 := Lib.hid (HS2.out.trans (since_mono (hd3.since _) HS2.out.size))
    clear hd3
    cases ok with
    | false =>
      go_wp2
      go_ret
      exact ⟨rfl, HS1.out.trans (since_mono HS3.out HS1.out.size)⟩
    | true =>
      obtain ⟨hT, hw, hab⟩ := pairB_of HOK.out HN.out
      obtain ⟨_, _, ht1, ht2, ht3, _⟩ := value_turn (pairB_sq HOK.out) HN.out
      have hev := rank_even hT HN.out hw (aboutP_skew hab)
      have hpt := pair_turn HOK.out HN.out
      have E4 := fun (W : World) (h : w1.Since w1.heap.size W) => implValueRank_any a1 c1 nn l W HN.out HSZ.out (HM.out W h)
      unfold SpecW at E4
      simp only [tabIn_true hT, if_true, hw] at E4
      obtain ⟨r, hr⟩ : ∃ r, rkR l (2 ^ nn) (2 ^ nn) = r := ⟨_, rfl⟩
      simp only [hr] at E4
      rw [hr] at hev
      have E5 := fun (W : World) (h : w1.Since w1.heap.size W) => across_any a1 c1 nn l W HN.out hT (HM.out W h)
      simp only [hw] at E5
      have E6 := fun (a' : Option Addr) (c' : Nat) (W : World) (h : MatR W a' (turnL l)) => implPairIn_any a' c' nn (turnL l) W ht2 ht3 h
      simp only [hpt] at E6
      replace E4 := Lib.hid E4
      replace E5 := Lib.hid E5
      replace E6 := Lib.hid E6
      have hmod : ((r : Nat) : Int) % 2 = 0 := by omega
      have htm : (Int.tmod ((r : Nat) : Int) 2 == 0) = true := by
        have : Int.tmod ((r : Nat) : Int) 2 = 0 := Int.tmod_eq_zero_of_dvd (Int.dvd_of_emod_eq_zero hmod)
        rw [this]; rfl
      clear hT hw hab ht1 ht2 ht3 hev hpt hr
      go_wp2_with fail
      refine (E4.out w3 HS3.out).mono ?_
      rintro e w4 ⟨rfl, hs4⟩
      have HS4 := Lib.hid (HS3.out.trans (since_mono hs4 HS3.out.size))
      clear hs4
      go_wp2_with fail
      refine (E5.out w4 HS4.out).mono ?_
      rintro e w5 ⟨a5, c5, rfl, hs5, ho5⟩
      have HS5 := Lib.hid (HS4.out.trans (since_mono hs5 HS4.out.size))
      have HX5 := Lib.hid ho5.matR
      clear hs5 ho5
      go_wp2_with fail
      refine (E6.out a5 c5 w5 HX5.out).mono ?_
      rintro e w6 ⟨rfl, hs6⟩
      have HS6 := Lib.hid (HS5.out.trans (since_mono hs6 HS5.out.size))
      clear hs6
      go_wp2
      go_ret
      exact ⟨rfl, HS1.out.trans (since_mono HS6.out HS1.out.size)⟩

end Go.Proofs.Ythdemjfllfhhpaa
end

section
namespace Go.Proofs.Ythdemjfllfhhpaa
open Go.ChangeShapes Go.WideShapes Go.ChangeAt Go.RowKit Go.Deep

theorem below_since' {B : Nat} {w w' : World} (h : Below B w w') : w.Since B w' := ⟨h.os, h.tape, h.output, h.size, h.block⟩
theorem since_below' {B : Nat} {w w' : World} (h : w.Since B w') : Below B w w' := ⟨h.os, h.tape, h.output, h.size, h.block⟩

section
variable {H : Type} {enc : TypeId × Value → H} {P : Program}
theorem post_of_below {f : Func} {s : ChangeSpec} {apart fresh handsOn again : Bool} {W W' : World} {args : Array Value} {v : Value} {ds gs : List (DataW H)} {before pa pv : List MemPlace}
    (hW : DataW.Whole enc P f.params.toList s.vars apart W args.toList ds gs before)
    (hres : ∀ (b : Nat) (sp : Nat → Bool) (hd : Bool), DataW.TrodAll enc P W' b sp hd f.resultTypes.toList (v.resultList f.resultTypes.size) (s.fn H (ds ++ gs)).results [])
    (hargs : ∀ sp : Nat → Bool, (∀ p ∈ before, sp p.block = true) → DataW.TrodAll enc P W' 0 sp true f.params.toList args.toList (s.fn H (ds ++ gs)).args pa)
    (hvars : ∀ sp : Nat → Bool, (∀ p ∈ before, sp p.block = true) → DataW.TrodVars enc P W' sp s.vars (s.fn H (ds ++ gs)).vars pv)
    (hps : before = pa ++ pv) (hb : Below W.heap.size W W') (hag : again = false) :
    s.post enc P f apart fresh handsOn again W args v W' := by
  have hlt : ∀ p ∈ before, p.block < W.heap.size := fun p hp => hW.lt p hp
  have hold : ∀ p ∈ before, (fun b => decide (b < W.heap.size)) p.block = true := fun p hp => by simpa using hlt p hp
  refine ⟨ds, gs, before, [], pa, pv, hW, hres _ _ _, hargs _ hold, hvars _ hold, World.keptBut_mono (fun p hp => ⟨hp, ?_⟩) (hb.frame (· ∈ before)), fun h => ?_⟩
  · rw [hps, List.mem_append] at hp
    exact Or.inr hp
  · rw [hag] at h; cases h

theorem open_mat {W : World} {t e q : TypeId} {a : Option Addr} {n cap : Nat} {d : DataW H} {p : List MemPlace} (ht : P.underlying t = some (.slice e)) (he : P.underlying e = some (.slice q)) (hq : P.underlying q = some (.int .i64))
    (ce : P.cellsOf e = 1) (cq : P.cellsOf q = 1) (h : DataW.Trod enc P W 0 (fun _ => true) true t (.slice a n cap) d p) :
    ∃ l : List (List Int), l.length = n ∧ MatR W a l ∧ n ≤ 9223372036854775807 ∧ ∀ r, r < l.length → (l.getD r []).length ≤ 9223372036854775807 := by
  obtain ⟨fuel, hf⟩ := h
  rcases open_int_rows ht he hq ce cq hf with ⟨hcs, _⟩ | ⟨a', len', cap', A, L, C, Z, hcs, _, hl, hm, _, hrows⟩
  · simp [Value.cells] at hcs
    obtain ⟨rfl, rfl, rfl⟩ := hcs
    exact ⟨[], rfl, (fun h => by simp at h), by omega, fun r hr => by simp at hr⟩
  · simp [Value.cells] at hcs
    obtain ⟨rfl, rfl, rfl⟩ := hcs
    have hmx : maxLen = 9223372036854775807 := rfl
    have hlen : ∀ r, r < n → ((Z r).take (L r)).length = L r := fun r hr => by
      obtain ⟨_, h1, _, h2, _⟩ := hrows r (by omega)
      rw [List.length_take]; omega
    have hget : ∀ r, r < n → ((List.range n).map fun r => (Z r).take (L r)).getD r [] = (Z r).take (L r) := fun r hr => by simp [List.getD, hr]
    refine ⟨(List.range n).map fun r => (Z r).take (L r), by simp, fun h => ?_, by omega, fun r hr => ?_⟩
    · obtain ⟨b, o, spot⟩ := a'
      simp at h
      have hspot : spot = none := by simpa [Addr.add] using World.cell?_spot (hrows 0 (by omega)).1
      subst hspot
      refine ⟨b, o, A, C, rfl, fun r hr => ?_⟩
      simp at hr
      rw [hget r hr, hlen r hr]
      obtain ⟨g1, g2, g3, g4, g5, g6, g7⟩ := hrows r (by omega)
      refine ⟨by rw [← add_plain]; exact g1, fun h0 => ?_⟩
      rw [hlen r hr] at h0
      cases hA : A r with
      | none => have := g6 hA; omega
      | some a'' =>
        obtain ⟨_, hcell⟩ := g7 a'' hA
        obtain ⟨b', o', sp⟩ := a''
        have hs : sp = none := by simpa [Addr.add] using World.cell?_spot (hcell 0 (by omega))
        subst hs
        refine ⟨b', o', rfl, fun i hi => ?_⟩
        rw [hlen r hr] at hi
        rw [← add_plain, hcell i (by omega)]
        congr 2
        simp [List.getD, hi]
    · simp at hr
      rw [hget r hr, hlen r hr]
      obtain ⟨_, h1, h2, _⟩ := hrows r (by omega)
      omega
end

theorem Try.own : ownKnob Try.prog.godebug = none := by kernel_rfl
theorem Try.laidOut : laidOutB Try.prog = true := by kernel_rfl
theorem Try.cellsR : Try.prog.cellsOf 37 = 1 := by kernel_rfl
theorem Try.cellsI : Try.prog.cellsOf 3 = 1 := by kernel_rfl

end Go.Proofs.Ythdemjfllfhhpaa
end

section
namespace Go.Proofs.Ythdemjfllfhhpaa
open Go.ChangeShapes Go.WideShapes Go.ChangeAt Go.RowKit Go.Deep

theorem wf_u8_of {n : Int} (h : (Lit.int .u8 n).wf = true) : 0 ≤ n ∧ n ≤ 255 := by
  have h2 : (0 : Int) ≤ n ∧ n ≤ 255 := by simpa [Lit.wf, IntKind.min, IntKind.max, IntKind.signed, IntKind.bits] using h
  exact h2

theorem open_bytes {H : Type} {enc : TypeId × Value → H} {P : Program} {W : World} {t e : TypeId} {a : Option Addr} {n cap : Nat} {d : DataW H} {p : List MemPlace} (ht : P.underlying t = some (.slice e)) (he : P.underlying e = some (.int .u8)) (ce : P.cellsOf e = 1)
    (h : DataW.Trod enc P W 0 (fun _ => true) true t (.slice a n cap) d p) : BytR W a n ∧ n ≤ cap ∧ cap ≤ 9223372036854775807 := by
  obtain ⟨fuel, hf⟩ := h
  rcases open_ints ht he ce hf with ⟨hcs, _⟩ | ⟨a', len, cap', zs, hcs, _, hl, hm, hlen, _, hcell, hwf⟩
  · simp [Value.cells] at hcs
    obtain ⟨rfl, rfl, rfl⟩ := hcs
    exact ⟨fun h => absurd h (by omega), by omega, by omega⟩
  · simp [Value.cells] at hcs
    obtain ⟨rfl, rfl, rfl⟩ := hcs
    have hmx : maxLen = 9223372036854775807 := rfl
    have hzl : zs.length = cap := by simpa using hlen
    refine ⟨fun h0 => ?_, by omega, by omega⟩
    obtain ⟨b, o, spot⟩ := a'
    have hspot : spot = none := by simpa [Addr.add] using World.cell?_spot (hcell 0 (by omega))
    subst hspot
    refine ⟨b, o, rfl, fun i hi => ?_⟩
    have hi' : i < zs.length := by omega
    have hw := wf_u8_of (hwf (zs.getD i 0) (by simp [List.getD, hi']))
    obtain ⟨z, hz⟩ := Int.eq_ofNat_of_zero_le hw.1
    refine ⟨z, by omega, ?_⟩
    rw [← add_plain, hcell i hi', hz]

theorem Try.cellsB : Try.prog.cellsOf 5 = 1 := by kernel_rfl

end Go.Proofs.Ythdemjfllfhhpaa
end
