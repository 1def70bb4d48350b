/- The contract of spec.PlainSums. -/
import Derived.Test.YtiabnlebonmedaaPlainV
namespace Go.Proofs.Ytiabnlebonmedaa
open Go.RowKit Go.Deep

/-- The sum of the numbers of row i in the first k columns of a set. -/
def rwS (l : List (List Int)) (s i k : Nat) : Int := sumN (fun j => ((s / 2 ^ j % 2 : Nat) : Int) * at2 l i j) k
/-- The product over the first i rows. -/
def prS (l : List (List Int)) (n s : Nat) : Nat → Int
  | 0 => 1
  | i + 1 => prS l n s i * rwS l s i n
/-- What a set of columns adds. -/
def ryT (l : List (List Int)) (n s : Nat) : Int := if s = 0 then 0 else sg (n - popcS s) (prS l n s n)
theorem rwS_bd {l : List (List Int)} {n : Nat} (h : EntB l n) (s : Nat) {i : Nat} (hi : i < n) {k : Nat} (hk : k ≤ n) : -180 ≤ rwS l s i k ∧ rwS l s i k ≤ 180 := by
  have h6 := h.1
  have h1 := sumN_bdB (f := fun j => ((s / 2 ^ j % 2 : Nat) : Int) * at2 l i j) (B := 30) k (fun j hj => by
    have := h.2 i j hi (by omega)
    have e : s / 2 ^ j % 2 = 0 ∨ s / 2 ^ j % 2 = 1 := by omega
    rcases e with e | e <;> rw [e] <;> simp <;> omega)
  unfold rwS
  omega
theorem mul_bd180 {a b B : Int} (h1 : -180 ≤ b) (h2 : b ≤ 180) (h3 : -B ≤ a) (h4 : a ≤ B) : -(180 * B) ≤ a * b ∧ a * b ≤ 180 * B := by
  have e1 : (180 - b) * (B - a) ≥ 0 := Int.mul_nonneg (by omega) (by omega)
  have e2 : (180 + b) * (B + a) ≥ 0 := Int.mul_nonneg (by omega) (by omega)
  have e3 : (180 - b) * (B + a) ≥ 0 := Int.mul_nonneg (by omega) (by omega)
  have e4 : (180 + b) * (B - a) ≥ 0 := Int.mul_nonneg (by omega) (by omega)
  rw [Int.mul_comm a b]
  simp only [Int.sub_mul, Int.add_mul, Int.mul_sub, Int.mul_add] at e1 e2 e3 e4
  omega
theorem prS_bd {l : List (List Int)} {n : Nat} (h : EntB l n) (s : Nat) : ∀ i, i ≤ n → -(p180 i) ≤ prS l n s i ∧ prS l n s i ≤ p180 i
  | 0, _ => by simp [prS, p180]
  | i + 1, hi => by
    have ih := prS_bd h s i (by omega)
    have hr := rwS_bd h s (show i < n by omega) (Nat.le_refl n)
    exact mul_bd180 hr.1 hr.2 ih.1 ih.2
theorem ryT_bd {l : List (List Int)} {n : Nat} (h : EntB l n) (s : Nat) : -34012224000000 ≤ ryT l n s ∧ ryT l n s ≤ 34012224000000 := by
  have h1 := prS_bd h s n (Nat.le_refl _)
  have h2 := p180_le n h.1
  unfold ryT
  split
  · omega
  · exact sg_bd (B := 34012224000000) (by omega)
theorem ryS_bd {l : List (List Int)} {n : Nat} (h : EntB l n) {m : Nat} (hm : m ≤ 64) : -2176782336000000 ≤ sumN (ryT l n) m ∧ sumN (ryT l n) m ≤ 2176782336000000 := by
  have h1 := sumN_bdB (f := ryT l n) (B := 34012224000000) m (fun j _ => ryT_bd h j)
  have h2 : (m : Int) * 34012224000000 ≤ 64 * 34012224000000 := Int.mul_le_mul_of_nonneg_right (by omega) (by omega)
  omega
theorem pow_wrap1 : ∀ n : Fin 7, wrap64 (2 ^ n.val) = ((2 ^ n.val : Nat) : Int) := by decide +kernel
theorem popc_in : ∀ n : Fin 7, ∀ s : Fin 64, s.val < 2 ^ n.val → popcS s.val ≤ n.val := by decide +kernel
theorem bitA6_fin : ∀ s : Fin 64, ∀ c : Fin 6, bits BinOp.and IntKind.i64 ((s.val : Int) / 2 ^ c.val) 1 = ((s.val / 2 ^ c.val % 2 : Nat) : Int) := by decide +kernel

set_option maxRecDepth 100000 in
set_option maxHeartbeats 2000000 in
theorem specPlainSums_any (a : Option Addr) (cap n : Nat) (l : List (List Int)) (w : World) (hn : l.length = n) (hsz : szL l ≤ 1048576) (hm : MatR w a l) :
    Calls Try.prog 19 #[.slice a n cap] w (SpecW w (sqB l) (sumN (ryT l n) (2 ^ n))) := by
  have E := l2Square_any a cap n l w hn hsz hm
  cases hs : sqB l with
  | false =>
    rw [hs] at E
    replace E := Lib.hid E
    clear hs hm hn hsz
    go_enter Try.func19, Try.ntmps19
    go_wp2_with fail
    refine (E.out).mono ?_
    rintro e w1 ⟨rfl, hd⟩
    have HD := Lib.hid (hd.since w.heap.size)
    clear hd
    go_wp2
    go_ret2
    exact ⟨rfl, HD.out⟩
  | true =>
    rw [hs] at E
    replace E := Lib.hid E
    obtain ⟨hT, hw⟩ := sqB_of hs
    rw [hn] at hw
    have hE := entB_of hT hn hw.symm
    have h6 := hE.1
    have h64 : 2 ^ n ≤ 64 := Nat.pow_le_pow_right (n := 2) (by omega) h6
    have hpn : 1 ≤ 2 ^ n := Nat.one_le_two_pow
    obtain ⟨b, o, A, C, rfl, hrow, hcell⟩ := hm.grid hn hT hw.symm
    have HC := Lib.hid hcell
    have HRW := Lib.hid (fun s i (hi : i < n) k (hk : k ≤ n) => rwS_bd hE s hi hk)
    have HPR := Lib.hid (fun s i (hi : i ≤ n) => prS_bd hE s i hi)
    have HRT := Lib.hid (fun s => ryT_bd hE s)
    have HRS := Lib.hid (fun m (hm : m ≤ 64) => ryS_bd hE hm)
    have h0 : sumN (ryT l n) 1 = 0 := rfl
    have hwn : wrap64 (2 ^ n) = ((2 ^ n : Nat) : Int) := pow_wrap1 ⟨n, by omega⟩
    obtain ⟨M, hM⟩ : ∃ M, 2 ^ n = M := ⟨_, rfl⟩
    have HMN := Lib.hid hM
    rw [hM] at h64 hpn hwn ⊢
    have H0 := Lib.hid h0
    clear hs hm hn hsz hT hw hrow hcell hE h0 hM
    go_enter Try.func19, Try.ntmps19
    go_wp2_with fail
    refine (E.out).mono ?_
    rintro e w1 ⟨rfl, hd⟩
    have HD := Lib.hid hd
    clear hd
    go_wp2
    go_loopg [4, 5, 6, 7, 8, 9] (M - 1) (fun g sv s _ _ _ _ wr => ∃ s0 : Nat, 1 ≤ s0 ∧ s0 ≤ M ∧ g = M - s0 ∧ s = .int .i64 s0 ∧ sv = .int .i64 (sumN (ryT l n) s0) ∧ Drawn w wr)
    case atStart => exact ⟨1, Nat.le_refl _, hpn, rfl, rfl, by rw [H0.out], HD.out⟩
    case round =>
      obtain ⟨s, hs1, hsM, rfl, rfl, rfl, hD⟩ := hrel
      by_cases hlt : s < M
      · have hlM : decide ((s : Int) < (M : Int)) = true := by simp; omega
        have hsb0 := HRS.out s (by omega)
        have hsb1 := HRS.out (s + 1) (by omega)
        have hry : ryT l n s = sg (n - popcS s) (prS l n s n) := if_neg (by omega)
        have hst : sumN (ryT l n) (s + 1) = sumN (ryT l n) s + ryT l n s := rfl
        obtain ⟨S0, hS0⟩ : ∃ x, sumN (ryT l n) s = x := ⟨_, rfl⟩
        rw [hS0] at hsb0 hst ⊢
        have HRY := Lib.hid hry
        have HST := Lib.hid hst
        have HDR := Lib.hid hD
        clear hry hst hS0 hD
        go_wp2
        go_loopg [6, 7, 8, 9] n (fun g x i _ _ wr => ∃ i0 : Nat, i0 ≤ n ∧ g = n - i0 ∧ i = .int .i64 i0 ∧ x = .int .i64 (prS l n s i0) ∧ Drawn w wr)
        case atStart => exact ⟨0, Nat.zero_le _, rfl, rfl, rfl, HDR.out⟩
        case round =>
          obtain ⟨i0, hi0, rfl, rfl, rfl, hD⟩ := hrel
          clear HDR
          have HDR := Lib.hid hD
          clear hD
          by_cases hlti : i0 < n
          · have hp1 := HPR.out s i0 (by omega)
            have hp2 := HPR.out s (i0 + 1) (by omega)
            have hp3 := p180_le i0 (by omega)
            have hp4 := p180_le (i0 + 1) (by omega)
            have hpr : prS l n s (i0 + 1) = prS l n s i0 * rwS l s i0 n := rfl
            obtain ⟨X, hX⟩ : ∃ x, prS l n s i0 = x := ⟨_, rfl⟩
            rw [hX] at hp1 hpr ⊢
            have HPX := Lib.hid hpr
            have HR0 := Lib.hid (show rwS l s i0 0 = 0 from rfl)
            clear hpr hX
            go_wp2
            go_loopg [8, 9] n (fun g r k wr => ∃ k0 : Nat, k0 ≤ n ∧ g = n - k0 ∧ k = .int .i64 k0 ∧ r = .int .i64 (rwS l s i0 k0) ∧ Drawn w wr)
            case atStart => exact ⟨0, Nat.zero_le _, rfl, rfl, by rw [HR0.out], HDR.out⟩
            case round =>
              obtain ⟨k0, hk0, rfl, rfl, rfl, hD⟩ := hrel
              clear HDR HR0
              by_cases hltk : k0 < n
              · obtain ⟨b', o', e1, e2, e3, e4⟩ := HC.out i0 k0 hlti hltk
                rw [← hD.cell] at e1 e2
                have hba := bitA6_fin ⟨s, by omega⟩ ⟨k0, by omega⟩
                simp only at hba
                have hmk : min k0 64 = k0 := by omega
                have hr1 := HRW.out s i0 hlti k0 hk0
                have hr2 := HRW.out s i0 hlti (k0 + 1) (by omega)
                have hrs : rwS l s i0 (k0 + 1) = rwS l s i0 k0 + ((s / 2 ^ k0 % 2 : Nat) : Int) * at2 l i0 k0 := rfl
                obtain ⟨y, hy⟩ : ∃ x, at2 l i0 k0 = x := ⟨_, rfl⟩
                rw [hy] at e2 e3 e4 hrs
                have hbt : s / 2 ^ k0 % 2 ≤ 1 := by omega
                obtain ⟨bt, hb⟩ : ∃ x, s / 2 ^ k0 % 2 = x := ⟨_, rfl⟩
                rw [hb] at hba hrs hbt
                obtain ⟨R0, hR⟩ : ∃ x, rwS l s i0 k0 = x := ⟨_, rfl⟩
                rw [hR] at hr1 hrs ⊢
                rw [hrs] at hr2
                have hby : -30 ≤ (bt : Int) * y ∧ (bt : Int) * y ≤ 30 := by
                  have : bt = 0 ∨ bt = 1 := by omega
                  rcases this with e | e <;> rw [e] <;> simp <;> omega
                have hw1 : IntKind.i64.wrap ((bt : Int) * y) = (bt : Int) * y := IntWalk.i64_in _ ⟨by omega, by omega⟩
                have hw2 : IntKind.i64.wrap (R0 + (bt : Int) * y) = R0 + (bt : Int) * y := IntWalk.i64_in _ ⟨by omega, by omega⟩
                have HRS2 := Lib.hid hrs
                have HDR := Lib.hid hD
                clear hrs hR hb hy hr2 hD
                go_wp2
                go_quiet (fail)
                go_wp2
                go_roundg (n - (k0 + 1))
                case measure => omega
                case rel => exact ⟨k0 + 1, by omega, rfl, by go_num, by rw [HRS2.out], HDR.out.trans (Drawn.mk _ _)⟩
              · have hkn : k0 = n := by omega
                subst hkn
                have hr1 := HRW.out s i0 hlti k0 (Nat.le_refl _)
                obtain ⟨R0, hR⟩ : ∃ x, rwS l s i0 k0 = x := ⟨_, rfl⟩
                have HPX2 := HPX.out
                rw [hR] at hr1 HPX2 ⊢
                rw [HPX2] at hp2
                have hw1 : IntKind.i64.wrap (X * R0) = X * R0 := IntWalk.i64_in _ ⟨by omega, by omega⟩
                have HPX3 := Lib.hid HPX2
                have HDR := Lib.hid hD
                clear hR HPX2 hD hp2
                go_wp2
                go_roundg (k0 - (i0 + 1))
                case measure => omega
                case rel => exact ⟨i0 + 1, by omega, rfl, by go_num, by rw [HPX3.out], HDR.out⟩
          · have hin : i0 = n := by omega
            subst hin
            have hp1 := HPR.out s i0 (Nat.le_refl _)
            have hp3 := p180_le i0 (by omega)
            have hry := HRY.out
            have hst := HST.out
            obtain ⟨X, hX⟩ : ∃ x, prS l i0 s i0 = x := ⟨_, rfl⟩
            rw [hX] at hp1 hry ⊢
            rw [hry] at hst
            rw [hst] at hsb1
            have ES := fun (V : World) => l2Size_any s (by omega) V
            have hpc := popcS_le s
            have hps : popcS s ≤ i0 := popc_in ⟨i0, by omega⟩ ⟨s, by omega⟩ (by show s < 2 ^ i0; rw [HMN.out]; exact hlt)
            obtain ⟨c, hc⟩ : ∃ x, popcS s = x := ⟨_, rfl⟩
            simp only [hc] at ES
            rw [hc] at hst hsb1 hps
            replace ES := Lib.hid ES
            have HST2 := Lib.hid hst
            have hwd : IntKind.i64.wrap ((i0 : Int) - (c : Int)) = ((i0 - c : Nat) : Int) := (IntWalk.i64_in _ ⟨by omega, by omega⟩).trans (by omega)
            obtain ⟨d, hd⟩ : ∃ x, i0 - c = x := ⟨_, rfl⟩
            rw [hd] at hwd hsb1
            have HDD := Lib.hid hd
            clear hX hry hst hc hd hpc
            go_wp2_with fail
            refine (ES.out _).mono ?_
            rintro e w2 ⟨rfl, rfl⟩
            by_cases hodd : d % 2 = 1
            · have ho : ((d : Int) % 2 == 1) = true := by simp; omega
              have e0 : sg d X = -X := by unfold sg; rw [if_pos hodd]
              rw [e0] at hsb1
              have w1' : IntKind.i64.wrap (-X) = -X := IntWalk.i64_in _ ⟨by omega, by omega⟩
              have w3' : IntKind.i64.wrap (S0 + -X) = S0 + -X := IntWalk.i64_in _ ⟨by omega, by omega⟩
              go_wp2
              go_roundg (M - (s + 1))
              case measure => omega
              case rel => exact ⟨s + 1, by omega, by omega, rfl, by go_num, by rw [HST2.out, HDD.out, e0], HDR.out⟩
            · have ho : ((d : Int) % 2 == 1) = false := by simp; omega
              have e0 : sg d X = X := by unfold sg; rw [if_neg hodd]
              rw [e0] at hsb1
              have w3' : IntKind.i64.wrap (S0 + X) = S0 + X := IntWalk.i64_in _ ⟨by omega, by omega⟩
              go_wp2
              go_roundg (M - (s + 1))
              case measure => omega
              case rel => exact ⟨s + 1, by omega, by omega, rfl, by go_num, by rw [HST2.out, HDD.out, e0], HDR.out⟩
      · have hsm : s = M := by omega
        have hlM : decide ((s : Int) < (M : Int)) = false := by simp; omega
        subst hsm
        have HF := Lib.hid (hD.since w.heap.size)
        go_wp2
        go_ret2
        exact ⟨rfl, HF.out⟩

end Go.Proofs.Ytiabnlebonmedaa
