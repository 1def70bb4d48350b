/- The contracts of spec.l5Plain and spec.PlainOrders. -/
import Derived.Test.YtiabnlebonmedaaPlainF
import Derived.Test.YtiabnlebonmedaaOrders
import Derived.Test.YtiabnlebonmedaaRowsV
namespace Go.Proofs.Ytiabnlebonmedaa
open Go.RowKit Go.Deep

set_option maxRecDepth 100000 in
set_option maxHeartbeats 4000000 in
theorem l5Plain_any (a : Option Addr) (cap n : Nat) (l : List (List Int)) (hn : l.length = n) (hT : TabIn l) (hm : (l.getD 0 []).length = n) :
    ∀ d i used : Nat, i + d = n → used ≤ 63 → ∀ W : World, MatR W a l → Calls Try.prog 40 #[.slice a n cap, .int .i64 i, .int .i64 used] W fun e w' => e = .returned (.int .i64 (plF l n d used)) ∧ Drawn W w' := by
  intro d
  induction d with
  | zero =>
    intro i used hi _ W _
    have hin : i = n := by omega
    subst hin
    rw [plF_zero]
    clear hn hT hm
    go_enter Try.func40, Try.ntmps40
    go_wp2
    go_ret
    exact ⟨rfl, Drawn.refl _⟩
  | succ d ih =>
    intro i used hi hu W hmat
    rw [plF_succ]
    have hi2 : n - (d + 1) = i := by omega
    rw [hi2]
    have hE := entB_of hT hn hm
    have h6 := hE.1
    have hne : ((i : Int) == (n : Int)) = false := by simp; omega
    have hbF := fun u => plF_bd hE d (by omega) u
    have hp1 := p180_pos d
    have hp2 := p180_le (d + 1) (by omega)
    have hsum := fun k (hk : k ≤ n) => sumP_bd hE (i := i) (used := used) (k := k) (by omega) hk (by omega) hbF
    obtain ⟨b, o, A, C, rfl, hrow, hcell⟩ := hmat.grid hn hT hm
    obtain ⟨F, hF⟩ : ∃ F, F = plF l n d := ⟨_, rfl⟩
    simp only [← hF] at hbF hsum ih ⊢
    clear hF
    have HIH := Lib.hid (fun (u : Nat) (hu : u ≤ 63) (V : World) (hV : MatR V (some ⟨b, o, none⟩) l) => ih (i + 1) u (by omega) hu V hV)
    have HMAT := Lib.hid hmat
    have HC := Lib.hid hcell
    have HSUM := Lib.hid hsum
    have HBF := Lib.hid hbF
    have hii : i < n := by omega
    clear hmat hrow hcell ih hsum hbF hi2 hE
    go_enter Try.func40, Try.ntmps40
    go_wp2
    go_loopg [7, 8] n (fun g s k wr => ∃ q : Nat, q ≤ n ∧ g = n - q ∧ k = .int .i64 q ∧ s = .int .i64 (sumN (plT l i used F) q) ∧ Drawn W wr)
    case atStart => exact ⟨0, Nat.zero_le _, rfl, rfl, rfl, Drawn.refl _⟩
    case round =>
      obtain ⟨q, hq, rfl, rfl, rfl, hD⟩ := hrel
      by_cases hlt : q < n
      · have hbit := bit0_any used q hu (by omega)
        obtain ⟨s0, hs0⟩ : ∃ s, s = sumN (plT l i used F) q := ⟨_, rfl⟩
        rw [← hs0]
        have HS0 := Lib.hid hs0
        clear hs0
        cases hb : used.testBit q with
        | true =>
          have e : sumN (plT l i used F) (q + 1) = s0 := by
            show sumN (plT l i used F) q + plT l i used F q = s0
            rw [plT_yes F hb, HS0.out, Int.add_zero]
          rw [hb] at hbit
          have HE := Lib.hid e
          clear e hb
          go_wp2
          go_roundg (n - (q + 1))
          case measure => omega
          case rel => exact ⟨q + 1, by omega, rfl, by go_num, by rw [HE.out], hD⟩
        | false =>
          rw [hb] at hbit
          obtain ⟨u2, hu2, hu2v⟩ : ∃ u : Nat, bits BinOp.or IntKind.i64 (used : Int) (2 ^ q) = u ∧ u = used ||| 2 ^ q := ⟨_, orS_fin ⟨used, by omega⟩ ⟨q, by omega⟩, rfl⟩
          have hu2l : u2 ≤ 63 := by rw [hu2v]; exact orS_lt ⟨used, by omega⟩ ⟨q, by omega⟩
          obtain ⟨b', o', e1, e2, e3, e4⟩ := HC.out i q hii hlt
          rw [← hD.cell] at e1 e2
          obtain ⟨y, hy⟩ : ∃ y, y = at2 l i q := ⟨_, rfl⟩
          rw [← hy] at e2 e3 e4
          obtain ⟨f2, hf2⟩ : ∃ z, z = F u2 := ⟨_, rfl⟩
          have hfb := HBF.out u2
          rw [← hf2] at hfb
          have hxb := mul_bdB e3 e4 hfb.1 hfb.2
          have hp3 : p180 (d + 1) = 180 * p180 d := rfl
          have hwx : IntKind.i64.wrap (y * f2) = y * f2 := IntWalk.i64_in _ ⟨by omega, by omega⟩
          have hwi : IntKind.i64.wrap ((i : Int) + 1) = (i : Int) + 1 := IntWalk.i64_in _ ⟨by omega, by omega⟩
          have hwq := pow_in ⟨q, by omega⟩
          simp only at hwq
          have hmq : min q 64 = q := by omega
          have E1 := fun (p : Nat) => HIH.out u2 hu2l (wr.drewN p) (HMAT.out.drawn (hD.trans (Drawn.mk _ _)))
          rw [← hf2, show ((i + 1 : Nat) : Int) = (i : Int) + 1 by omega] at E1
          replace E1 := Lib.hid E1
          have e : sumN (plT l i used F) (q + 1) = s0 + y * f2 := by
            show sumN (plT l i used F) q + plT l i used F q = s0 + y * f2
            rw [plT_no F hb, ← HS0.out, ← hu2v, ← hy, ← hf2]
          have hsb := HSUM.out (q + 1) (by omega)
          rw [e] at hsb
          have hws : IntKind.i64.wrap (s0 + y * f2) = s0 + y * f2 := IntWalk.i64_in _ ⟨by omega, by omega⟩
          have HE := Lib.hid e
          have HDD := Lib.hid hD
          clear e hb hu2v hy hf2 hfb hD
          go_wp2
          go_quiet ((go_at_call 40; exact Calls.quiet_of (E1.out _)))
          go_wp2
          go_roundg (n - (q + 1))
          case measure => omega
          case rel => exact ⟨q + 1, by omega, rfl, by go_num, by rw [HE.out], HDD.out.trans (Drawn.mk _ _)⟩
      · have hqn : n = q := by omega
        subst hqn
        go_wp2
        go_ret
        exact ⟨rfl, hD⟩

set_option maxHeartbeats 1000000 in
theorem specPlainOrders_any (a : Option Addr) (cap n : Nat) (l : List (List Int)) (w : World) (hn : l.length = n) (hsz : szL l ≤ 1048576) (hm : MatR w a l) :
    Calls Try.prog 15 #[.slice a n cap] w (SpecW w (sqB l) (plF l n n 0)) := by
  have E := l2Square_any a cap n l w hn hsz hm
  cases hs : sqB l with
  | false =>
    rw [hs] at E
    replace E := Lib.hid E
    clear hs hm hn hsz
    go_enter Try.func15, Try.ntmps15
    go_wp2_with fail
    refine (E.out).mono ?_
    rintro e w1 ⟨rfl, hd⟩
    have HD := Lib.hid (hd.since w.heap.size)
    clear hd
    go_wp2
    go_ret2
    exact ⟨rfl, HD.out⟩
  | true =>
    rw [hs] at E
    replace E := Lib.hid E
    obtain ⟨hT, hw⟩ := sqB_of hs
    have E2 := Lib.hid (fun (W : World) (hd : Drawn w W) => l5Plain_any a cap n l hn hT (by omega) n 0 0 (by omega) (by omega) W (hm.drawn hd))
    clear hs hm hn hsz hT hw
    go_enter Try.func15, Try.ntmps15
    go_wp2_with fail
    refine (E.out).mono ?_
    rintro e w1 ⟨rfl, hd⟩
    have HD := Lib.hid hd
    clear hd
    go_wp2_with fail
    refine (E2.out w1 HD.out).mono ?_
    rintro e w2 ⟨rfl, hd2⟩
    have HS2 := Lib.hid ((HD.out.trans hd2).since w.heap.size)
    clear hd2
    go_wp2
    go_ret2
    exact ⟨rfl, HS2.out⟩

end Go.Proofs.Ytiabnlebonmedaa
