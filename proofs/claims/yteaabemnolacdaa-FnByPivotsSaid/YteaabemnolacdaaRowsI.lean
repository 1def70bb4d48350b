/- The contract of the method valueByRows. -/
import Derived.Test.YteaabemnolacdaaSig
namespace Go.Proofs.Yteaabemnolacdaa
open Go.RowKit Go.Deep

set_option maxRecDepth 100000 in
set_option maxHeartbeats 4000000 in
theorem byRows_any : ∀ (d : Nat), d ≤ 6 → ∀ (l : List (List Int)) (a : Option Addr) (cap : Nat) (W : World), SqD d l → MatR W a l → Calls Try.prog 137 #[.slice a d cap] W fun e w' => e = .returned (.int .i64 (rowF d l)) ∧ W.Since W.heap.size w' := by
  intro d
  induction d with
  | zero =>
    intro _ l a cap W _ _
    rw [rowF_zero]
    go_enter Try.func137, Try.ntmps137
    go_wp2
    go_ret
    exact ⟨rfl, World.Since.refl _ _⟩
  | succ d ih =>
    intro hd6 l a cap W hsq hmat
    obtain ⟨hT, hm⟩ := hsq.2 (by omega)
    have hl := hsq.1
    have hmin := fun k (hk : k < d + 1) => minor_sq hsq hk
    have hbd := fun k (hk : k < d + 1) => rowF_bd d _ (minor_sq hsq hk)
    have hsb := fun q (hq : q ≤ d + 1) => rowS_bd hsq hq
    have hp1 := p180_pos d
    have hp2 := p180_le (d + 1) (by omega)
    have hp3 : p180 (d + 1) = 180 * p180 d := rfl
    rw [rowF_succ]
    obtain ⟨F, hF⟩ : ∃ F : Nat → Int, F = fun k => sg k (at2 l 0 k * rowF d (minorL l (d + 1) k)) := ⟨_, rfl⟩
    simp only [← hF] at hsb ⊢
    obtain ⟨n, hn⟩ : ∃ n, n = d + 1 := ⟨_, rfl⟩
    simp only [← hn] at hsb hmin hbd hm hl hF ⊢
    have hn1 : 1 ≤ n ∧ n ≤ 6 := by omega
    obtain ⟨b, o, A, C, rfl, hrow, hcell⟩ := hmat.grid hl hT hm
    have HC := Lib.hid hcell
    have HIH := Lib.hid (fun (L : List (List Int)) (a2 : Option Addr) (c2 : Nat) (V : World) (h1 : SqD d L) (h2 : MatR V a2 L) => ih (by omega) L a2 c2 V h1 h2)
    have HPART := Lib.hid (fun (k : Nat) (hk : k < n) (V : World) (h : W.Since W.heap.size V) => without_any (some ⟨b, o, none⟩) cap n 0 k l V hl hT hm (by omega) hk (hmat.since h))
    have HMIN := Lib.hid hmin
    have HBD := Lib.hid hbd
    have HSB := Lib.hid hsb
    have HF := Lib.hid hF
    have HN := Lib.hid hn
    have hn0 : 0 < n := by omega
    have hne : ((n : Int) == 0) = false := by simp; omega
    obtain ⟨b', o', c0, _⟩ := hcell 0 0 hn0 hn0
    rw [Nat.add_zero] at c0
    have C0 := Lib.hid c0
    clear hmat hrow hcell ih hmin hbd hsb hF hn hsq hm hl hd6 hT
    go_enter Try.func137, Try.ntmps137
    go_wp2
    clear c0
    go_loopg [3, 4, 5, 13] n (fun g s _ _ k wr => ∃ q : Nat, q ≤ n ∧ g = n - q ∧ k = .int .i64 q ∧ s = .int .i64 (sumN F q) ∧ W.Since W.heap.size wr)
    case atStart => exact ⟨0, Nat.zero_le _, rfl, rfl, rfl, World.Since.refl _ _⟩
    case round =>
      obtain ⟨q, hq, rfl, rfl, rfl, hS⟩ := hrel
      obtain ⟨s0, hs0⟩ : ∃ s, s = sumN F q := ⟨_, rfl⟩
      rw [← hs0]
      by_cases hlt : q < n
      · obtain ⟨b2, o2, c1, c2, c3, c4⟩ := HC.out 0 q hn0 hlt
        rw [Nat.add_zero] at c1
        have e' := c1.symm.trans C0.out
        injection e' with e'
        injection e' with e' _ _
        injection e' with e'
        injection e' with e1 e2 _
        subst e1 e2
        have q0 := (hS.cell (a := ⟨_, _, none⟩) (World.block_lt_of_cell? _ _ c2)).trans c2
        obtain ⟨y, hy⟩ : ∃ y, y = at2 l 0 q := ⟨_, rfl⟩
        rw [← hy] at q0 c3 c4
        obtain ⟨L, hL⟩ : ∃ L, L = minorL l n q := ⟨_, rfl⟩
        have hLp : partL l (2 ^ n - 1 - 2 ^ 0) (2 ^ n - 1 - 2 ^ q) = L := by rw [hL]; rfl
        have hLs := HMIN.out q hlt
        rw [← hL] at hLs
        have hLl := hLs.1
        have hfb := HBD.out q hlt
        rw [← hL] at hfb
        obtain ⟨f2, hf2⟩ : ∃ f, f = rowF d L := ⟨_, rfl⟩
        rw [← hf2] at hfb
        have hxb := mul_bdB c3 c4 hfb.1 hfb.2
        have hsg : sn q * y * f2 = sg q (y * f2) := by rw [sg_sn, Int.mul_assoc]
        have hwy : IntKind.i64.wrap (sn q * y) = sn q * y := IntWalk.i64_in _ (by unfold sn; split <;> (constructor <;> omega))
        have hwx : IntKind.i64.wrap (sn q * y * f2) = sn q * y * f2 := IntWalk.i64_in _ (by rw [hsg]; unfold sg; split <;> (constructor <;> omega))
        have EP := fun (V : World) (h : W.Since W.heap.size V) => HPART.out q hlt V h
        simp only [hLp, hLl] at EP
        replace EP := Lib.hid EP
        have ER := fun (a2 : Option Addr) (c2 : Nat) (V : World) (h : MatR V a2 L) => HIH.out L a2 c2 V hLs h
        simp only [← hf2] at ER
        replace ER := Lib.hid ER
        have ES := Lib.hid (fun (V : World) => signOf_any q (by omega) V)
        have e : sumN F (q + 1) = s0 + sn q * y * f2 := by
          show sumN F q + F q = _
          rw [← hs0, HF.out, hsg]
          show s0 + sg q (at2 l 0 q * rowF d (minorL l n q)) = _
          rw [← hy, ← hL, ← hf2]
        have hsb := HSB.out (q + 1) (by omega)
        rw [e] at hsb
        have hws : IntKind.i64.wrap (s0 + sn q * y * f2) = s0 + sn q * y * f2 := IntWalk.i64_in _ ⟨by omega, by omega⟩
        have HE := Lib.hid e
        have HS := Lib.hid hS
        clear e hs0 hy hL hLp hLs hLl hf2 hfb hS c1 c2 c3 c4 hxb hsg hsb
        go_wp2_with (first
          | (go_at_call 97; refine (ES.out _).mono ?_; rintro e w' ⟨rfl, rfl⟩)
          | (go_at_call 98; refine (EP.out _ HS.out).mono ?_; rintro e w2 ⟨a2, k2, rfl, hs2, hi2⟩; have HS2 := Lib.hid (HS.out.trans (since_mono hs2 HS.out.size)); have HI2 := Lib.hid hi2.matR; clear hs2 hi2)
          | (go_at_call 137; refine (ER.out a2 k2 w2 HI2.out).mono ?_; rintro e w3 ⟨rfl, hs3⟩; have HS3 := Lib.hid (HS2.out.trans (since_mono hs3 HS2.out.size)); clear hs3))
        go_roundg (n - (q + 1))
        case measure => omega
        case rel => exact ⟨q + 1, by omega, rfl, by go_num, by rw [HE.out], HS3.out⟩
      · have hqn : n = q := by omega
        subst hqn
        go_wp2
        go_ret
        exact ⟨by rw [hs0]; rfl, hS⟩

end Go.Proofs.Yteaabemnolacdaa
