/- The contracts of spec.l2Rows and spec.ValueRows. -/
import Derived.Test.YteaabemnolacdaaRowsF
import Derived.Test.YteaabemnolacdaaL1Part
import Derived.Test.YteaabemnolacdaaSpecOrders
import Derived.Deep.RegionHeld3
namespace Go.Proofs.Yteaabemnolacdaa
open Go.RowKit Go.Deep

theorem andNot_fin : ∀ n : Fin 7, ∀ k : Fin 6, k.val < n.val → bits BinOp.andNot IntKind.i64 ((2 ^ n.val - 1 : Nat) : Int) (2 ^ k.val) = ((2 ^ n.val - 1 - 2 ^ k.val : Nat) : Int) := by decide +kernel
theorem less_fin : ∀ n : Fin 7, 1 ≤ n.val → IntKind.i64.wrap (((2 ^ n.val - 1 : Nat) : Int) - 1) = ((2 ^ n.val - 2 : Nat) : Int) := by decide +kernel
theorem pow63 : ∀ n : Fin 7, 2 ^ n.val - 1 ≤ 63 := by decide +kernel

set_option maxRecDepth 100000 in
set_option maxHeartbeats 4000000 in
theorem l2Rows_any : ∀ (d : Nat), d ≤ 6 → ∀ (l : List (List Int)) (a : Option Addr) (cap : Nat) (W : World), SqD d l → MatR W a l → Calls Try.prog 80 #[.slice a d cap] W fun e w' => e = .returned (.int .i64 (rowF d l)) ∧ W.Since W.heap.size w' := by
  intro d
  induction d with
  | zero =>
    intro _ l a cap W _ _
    rw [rowF_zero]
    go_enter Try.func80, Try.ntmps80
    go_wp2
    go_ret
    exact ⟨rfl, World.Since.refl _ _⟩
  | succ d ih =>
    intro hd6 l a cap W hsq hmat
    obtain ⟨hT, hm⟩ := hsq.2 (by omega)
    have hl := hsq.1
    have hmin := fun k (hk : k < d + 1) => minor_sq hsq hk
    have hbd := fun k (hk : k < d + 1) => rowF_bd d _ (minor_sq hsq hk)
    have hsb := fun q (hq : q ≤ d + 1) => rowS_bd hsq hq
    have hp1 := p180_pos d
    have hp2 := p180_le (d + 1) (by omega)
    have hp3 : p180 (d + 1) = 180 * p180 d := rfl
    rw [rowF_succ]
    obtain ⟨F, hF⟩ : ∃ F : Nat → Int, F = fun k => sg k (at2 l 0 k * rowF d (minorL l (d + 1) k)) := ⟨_, rfl⟩
    simp only [← hF] at hsb ⊢
    obtain ⟨n, hn⟩ : ∃ n, n = d + 1 := ⟨_, rfl⟩
    simp only [← hn] at hsb hmin hbd hm hl hF ⊢
    have hn1 : 1 ≤ n ∧ n ≤ 6 := by omega
    have e1 := pow_wrap n hn1.2
    have e2 := less_fin ⟨n, by omega⟩ hn1.1
    have e3 := pow63 ⟨n, by omega⟩
    have hand := fun (q : Nat) (hq : q < n) => andNot_fin ⟨n, by omega⟩ ⟨q, by omega⟩ hq
    simp only at e2 e3 hand
    obtain ⟨Aa, hA⟩ : ∃ A, A = 2 ^ n - 1 := ⟨_, rfl⟩
    obtain ⟨B, hB⟩ : ∃ B, B = 2 ^ n - 2 := ⟨_, rfl⟩
    have hBl : B ≤ 63 := by omega
    have hminL : ∀ k, minorL l n k = partL l B (Aa - 2 ^ k) := fun k => by rw [hA, hB]; rfl
    rw [← hA] at e1 e2 e3
    rw [← hB] at e2
    simp only [← hA] at hand
    obtain ⟨b, o, A, C, rfl, hrow, hcell⟩ := hmat.grid hl hT hm
    have HC := Lib.hid hcell
    have HMAT := Lib.hid (fun (V : World) (h : W.Since W.heap.size V) => hmat.since h)
    have HIH := Lib.hid (fun (L : List (List Int)) (a2 : Option Addr) (c2 : Nat) (V : World) (h1 : SqD d L) (h2 : MatR V a2 L) => ih (by omega) L a2 c2 V h1 h2)
    have HPART := Lib.hid (fun (c : Nat) (hc : c ≤ 63) (V : World) (h : W.Since W.heap.size V) => l1Part_any (some ⟨b, o, none⟩) cap n B c l V hl hT hBl hc (hmat.since h))
    have HMIN := Lib.hid hmin
    have HML := Lib.hid hminL
    have HBD := Lib.hid hbd
    have HSB := Lib.hid hsb
    have HF := Lib.hid hF
    have HAND := Lib.hid hand
    have HN := Lib.hid hn
    have hn0 : 0 < n := by omega
    have hne : ((n : Int) == 0) = false := by simp; omega
    clear hmat hrow hcell ih hmin hminL hbd hsb hF hand hn hA hB hsq hm hl hd6
    go_enter Try.func80, Try.ntmps80
    go_wp2
    rw [e1]
    go_loopg [3, 5, 6] n (fun g s k _ wr => ∃ q : Nat, q ≤ n ∧ g = n - q ∧ k = .int .i64 q ∧ s = .int .i64 (sumN F q) ∧ W.Since W.heap.size wr)
    case atStart => exact ⟨0, Nat.zero_le _, rfl, rfl, rfl, World.Since.refl _ _⟩
    case round =>
      obtain ⟨q, hq, rfl, rfl, rfl, hS⟩ := hrel
      obtain ⟨s0, hs0⟩ : ∃ s, s = sumN F q := ⟨_, rfl⟩
      rw [← hs0]
      by_cases hlt : q < n
      · have hlt' : q < d + 1 := by have := HN.out; omega
        obtain ⟨b', o', c1, c2, c3, c4⟩ := HC.out 0 q hn0 hlt
        rw [Nat.add_zero] at c1
        have q1 := (hS.cell (a := ⟨b, o, none⟩) (World.block_lt_of_cell? _ _ c1)).trans c1
        have q0 := (hS.cell (a := ⟨b', o' + q, none⟩) (World.block_lt_of_cell? _ _ c2)).trans c2
        have l1 : b < wr.heap.size := World.block_lt_of_cell? _ _ q1
        have l0 : b' < wr.heap.size := World.block_lt_of_cell? _ _ q0
        obtain ⟨y, hy⟩ : ∃ y, y = at2 l 0 q := ⟨_, rfl⟩
        rw [← hy] at q0 c3 c4
        obtain ⟨Cq, hCq⟩ : ∃ c, c = Aa - 2 ^ q := ⟨_, rfl⟩
        have hand := HAND.out q hlt
        rw [← hCq] at hand
        have hCl : Cq ≤ 63 := by rw [hCq]; exact Nat.le_trans (Nat.sub_le _ _) e3
        obtain ⟨L, hL⟩ : ∃ L, L = minorL l n q := ⟨_, rfl⟩
        have hLp : partL l B Cq = L := by rw [hL, HML.out q, hCq]
        have hLs := HMIN.out q (by have := HN.out; omega)
        rw [← hL] at hLs
        have hLl := hLs.1
        have hfb := HBD.out q (by have := HN.out; omega)
        rw [← hL] at hfb
        obtain ⟨f2, hf2⟩ : ∃ f, f = rowF d L := ⟨_, rfl⟩
        rw [← hf2] at hfb
        have hxb := mul_bdB c3 c4 hfb.1 hfb.2
        have hwx : IntKind.i64.wrap (y * f2) = y * f2 := IntWalk.i64_in _ ⟨by omega, by omega⟩
        have hwq := pow_in ⟨q, by omega⟩
        simp only at hwq
        have hmq : min q 64 = q := by omega
        have EP := fun (V : World) (h : W.Since W.heap.size V) => HPART.out Cq hCl V h
        simp only [hLp, hLl] at EP
        replace EP := Lib.hid EP
        have ER := fun (a2 : Option Addr) (c2 : Nat) (V : World) (h : MatR V a2 L) => HIH.out L a2 c2 V hLs h
        simp only [← hf2] at ER
        replace ER := Lib.hid ER
        have e : sumN F (q + 1) = s0 + sg q (y * f2) := by
          show sumN F q + F q = s0 + sg q (y * f2)
          rw [← hs0, HF.out]
          show s0 + sg q (at2 l 0 q * rowF d (minorL l n q)) = _
          rw [← hy, ← hL, ← hf2]
        have hsb := HSB.out (q + 1) (by have := HN.out; omega)
        rw [e] at hsb
        have HE := Lib.hid e
        have HS := Lib.hid hS
        clear e hs0 hy hCq hL hLp hLs hLl hf2 hfb hS c1 c2 c3 c4
        go_wp2
        go_region_held3 (fun w' => w'.cell? ⟨b, o, none⟩ = some (.slice (some ⟨b', o', none⟩) n (C 0)) ∧ w'.cell? ⟨b', o' + q, none⟩ = some (.int .i64 y))
          (first | exact ⟨q1, q0⟩)
          (first
            | (go_at_call 92; refine (EP.out _ (HS.out.drew)).mono ?_; rintro e w2 ⟨a2, k2, rfl, hs2, hi2⟩; have hs2 := since_of_drew hs2; have q1 := (hs2.cell (a := ⟨b, o, none⟩) l1).trans q1; have q0 := (hs2.cell (a := ⟨b', o' + q, none⟩) l0).trans q0; have l1 : b < w2.heap.size := World.block_lt_of_cell? _ _ q1; have l0 : b' < w2.heap.size := World.block_lt_of_cell? _ _ q0; have HS2 := Lib.hid (HS.out.trans (since_mono hs2 HS.out.size)); have HI2 := Lib.hid hi2.matR; clear hs2 hi2)
            | (go_at_call 80; refine (ER.out a2 k2 w2 HI2.out).mono ?_; rintro e w3 ⟨rfl, hs3⟩; have q1 := (hs3.cell (a := ⟨b, o, none⟩) l1).trans q1; have q0 := (hs3.cell (a := ⟨b', o' + q, none⟩) l0).trans q0; have HS3 := Lib.hid (HS2.out.trans (since_mono hs3 HS2.out.size)); clear hs3))
        clear q1 q0 l1 l0
        by_cases hodd : q % 2 = 1
        · have ho : ((q : Int) % 2 == 1) = true := by simp; omega
          have e0 : sg q (y * f2) = -(y * f2) := by unfold sg; rw [if_pos hodd]
          rw [e0] at hsb
          have w1 : IntKind.i64.wrap (0 - y * f2) = -(y * f2) := (IntWalk.i64_in _ ⟨by omega, by omega⟩).trans (by omega)
          have w2' : IntKind.i64.wrap (-(y * f2)) = -(y * f2) := IntWalk.i64_in _ ⟨by omega, by omega⟩
          have w3' : IntKind.i64.wrap (s0 + -(y * f2)) = s0 + -(y * f2) := IntWalk.i64_in _ ⟨by omega, by omega⟩
          go_wp2
          go_roundg (n - (q + 1))
          case measure => omega
          case rel => exact ⟨q + 1, by omega, rfl, by go_num, by rw [HE.out, e0], HS3.out⟩
        · have ho : ((q : Int) % 2 == 1) = false := by simp; omega
          have e0 : sg q (y * f2) = y * f2 := by unfold sg; rw [if_neg hodd]
          rw [e0] at hsb
          have w3' : IntKind.i64.wrap (s0 + y * f2) = s0 + y * f2 := IntWalk.i64_in _ ⟨by omega, by omega⟩
          go_wp2
          go_roundg (n - (q + 1))
          case measure => omega
          case rel => exact ⟨q + 1, by omega, rfl, by go_num, by rw [HE.out, e0], HS3.out⟩
      · have hqn : n = q := by omega
        subst hqn
        go_wp2
        go_ret
        exact ⟨by rw [hs0]; rfl, hS⟩

/-- A number and whether there is one; other blocks may have come. -/
def SpecW (w : World) (ok : Bool) (x : Int) (e : Ending) (w' : World) : Prop := e = .returned (.tuple #[.int .i64 (if ok then x else 0), .bool ok]) ∧ w.Since w.heap.size w'

set_option maxHeartbeats 1000000 in
theorem specValueRows_any (a : Option Addr) (cap n : Nat) (l : List (List Int)) (w : World) (hn : l.length = n) (hsz : szL l ≤ 1048576) (hm : MatR w a l) :
    Calls Try.prog 28 #[.slice a n cap] w (SpecW w (sqB l) (rowF n l)) := by
  have E := l2Square_any a cap n l w hn hsz hm
  cases hs : sqB l with
  | false =>
    rw [hs] at E
    replace E := Lib.hid E
    clear hs hm hn hsz
    go_enter Try.func28, Try.ntmps28
    go_wp2_with fail
    refine (E.out).mono ?_
    rintro e w1 ⟨rfl, hd⟩
    have HD := Lib.hid (hd.since w.heap.size)
    clear hd
    go_wp2
    go_ret2
    exact ⟨rfl, HD.out⟩
  | true =>
    rw [hs] at E
    replace E := Lib.hid E
    obtain ⟨hT, hw⟩ := sqB_of hs
    have h6 := hT.2.1
    rw [hn] at h6
    have E2 := Lib.hid (fun (W : World) (hd : w.Since w.heap.size W) => l2Rows_any n h6 l a cap W ⟨hn, fun _ => ⟨hT, by rw [← hw, hn]⟩⟩ (hm.since hd))
    clear hs hm hn hsz hT hw
    go_enter Try.func28, Try.ntmps28
    go_wp2_with fail
    refine (E.out).mono ?_
    rintro e w1 ⟨rfl, hd⟩
    have HD := Lib.hid (hd.since w.heap.size)
    clear hd
    go_wp2_with fail
    refine (E2.out w1 HD.out).mono ?_
    rintro e w2 ⟨rfl, hs2⟩
    have HS2 := Lib.hid (HD.out.trans (since_mono hs2 HD.out.size))
    clear hs2
    go_wp2
    go_ret2
    exact ⟨rfl, HS2.out⟩

end Go.Proofs.Yteaabemnolacdaa
