/- The contract of plainBySums. -/
import Derived.Test.YtiabnlebonmedaaSumsI
import Derived.Test.YtiabnlebonmedaaMembers
namespace Go.Proofs.Ytiabnlebonmedaa
open Go.RowKit Go.Deep

set_option maxRecDepth 100000 in
set_option maxHeartbeats 2000000 in
theorem plainBySums_any (a : Option Addr) (cap n : Nat) (l : List (List Int)) (w : World) (hn : l.length = n) (hT : TabIn l) (hw : (l.getD 0 []).length = n) (hm : MatR w a l) :
    Calls Try.prog 41 #[.slice a n cap] w fun e w' => e = .returned (.int .i64 (sumN (ryT l n) (2 ^ n))) ∧ w.Since w.heap.size w' := by
  have hE := entB_of hT hn hw
  have h6 := hE.1
  have hpw : 2 ^ n ≤ 2 ^ 6 := Nat.pow_le_pow_right (by omega) h6
  have hp0 : 1 ≤ 2 ^ n := Nat.pow_pos (by omega)
  have HPS := Lib.hid (fun (s : Nat) (hs : s ≤ 63) (V : World) (hV : w.Since w.heap.size V) => productOfSums_any a cap n s l V hn hT hw (hm.since hV) hs)
  have HB := Lib.hid (fun (q : Nat) (hq : q ≤ 64) => ryS_bd hE hq)
  have HR := Lib.hid (fun (s : Nat) (hs : s ≠ 0) => show ryT l n s = sn (n - popcS s) * prS l n s n from by unfold ryT; rw [if_neg hs, sg_sn])
  have HP := Lib.hid (fun (s : Nat) => prS_bd hE s n (Nat.le_refl _))
  have hp6 := p180_le n h6
  have h0 : sumN (ryT l n) 1 = 0 := rfl
  have HPC := Lib.hid (fun (s : Nat) (hs : s < 2 ^ n) => popc_in ⟨n, by omega⟩ ⟨s, by omega⟩ hs)
  obtain ⟨F, hF⟩ : ∃ F, F = ryT l n := ⟨_, rfl⟩
  simp only [← hF] at HB HR h0 ⊢
  have H0 := Lib.hid h0
  obtain ⟨M, hM⟩ : ∃ M, 2 ^ n = M := ⟨_, rfl⟩
  have EF := Lib.hid (fun (V : World) => fullSet_any n h6 V)
  have hMM := Lib.hid hM
  simp only [hM] at hpw hp0 HPC EF ⊢
  clear hm hn hT hw hE hF h0 hM
  go_enter Try.func41, Try.ntmps41
  go_wp2
  go_loopg [3, 4] (M - 1) (fun g sv c wr => ∃ q : Nat, 1 ≤ q ∧ q ≤ M ∧ g = M - q ∧ c = .int .i64 q ∧ sv = .int .i64 (sumN F q) ∧ w.Since w.heap.size wr)
  case atStart => exact ⟨1, Nat.le_refl _, hp0, rfl, rfl, by rw [H0.out], World.Since.refl _ _⟩
  case round =>
    obtain ⟨q, hq1, hq, rfl, rfl, rfl, hS⟩ := hrel
    have HS := Lib.hid hS
    by_cases hlt : q < M
    · have hc : ((q : Int) ≤ ((M - 1 : Nat) : Int)) := by omega
      have e : sumN F (q + 1) = sumN F q + F q := rfl
      have hb := HB.out (q + 1) (by omega)
      rw [e] at hb
      have hr := HR.out q (by omega)
      have hpb := HP.out q
      have hpc := HPC.out q hlt
      have EM := Lib.hid (fun (V : World) => members_any q (by omega) V)
      have EP := HPS.out q (by omega)
      obtain ⟨pc, hpcc⟩ : ∃ p, popcS q = p := ⟨_, rfl⟩
      have EG := Lib.hid (fun (V : World) => signOf_any (n - pc) (by omega) V)
      simp only [hpcc] at EM
      rw [hpcc] at hr hpc
      have hsb := sn_bd (n - pc)
      obtain ⟨s0, hs0⟩ : ∃ s, sumN F q = s := ⟨_, rfl⟩
      obtain ⟨z, hz⟩ : ∃ z, F q = z := ⟨_, rfl⟩
      obtain ⟨p, hp⟩ : ∃ p, prS l n q n = p := ⟨_, rfl⟩
      obtain ⟨g, hg⟩ : ∃ g, sn (n - pc) = g := ⟨_, rfl⟩
      rw [hs0, hz] at e hb
      rw [hz, hp, hg] at hr
      simp only [hp] at EP hpb
      simp only [hg] at EG hsb
      replace EP := Lib.hid EP
      rw [hs0]
      have hsub : IntKind.i64.wrap ((n : Int) - (pc : Int)) = ((n - pc : Nat) : Int) := (IntWalk.i64_in _ ⟨by omega, by omega⟩).trans (by omega)
      have hzb : -34012224000000 ≤ z ∧ z ≤ 34012224000000 := by
        have : g = -1 ∨ g = 0 ∨ g = 1 := by omega
        rcases this with rfl | rfl | rfl <;> omega
      have hwm : IntKind.i64.wrap (g * p) = z := by rw [← hr]; exact IntWalk.i64_in _ ⟨by omega, by omega⟩
      have hws : IntKind.i64.wrap (s0 + z) = s0 + z := IntWalk.i64_in _ ⟨by omega, by omega⟩
      have HE := Lib.hid e
      clear e hb hr hpb hsb hzb hs0 hz hp hg hpcc hS
      go_wp2_with (first
        | (go_at_call 68; refine (EF.out _).mono ?_; rintro e w' ⟨rfl, rfl⟩)
        | (go_at_call 70; refine (EM.out _).mono ?_; rintro e w' ⟨rfl, rfl⟩)
        | (go_at_call 69; refine (EG.out _).mono ?_; rintro e w' ⟨rfl, rfl⟩)
        | (go_at_call 71; refine (EP.out _ HS.out).mono ?_; rintro e w2 ⟨rfl, hs2⟩; have HS2 := Lib.hid (HS.out.trans (since_mono hs2 HS.out.size)); clear hs2))
      go_roundg (M - (q + 1))
      case measure => omega
      case rel => exact ⟨q + 1, by omega, by omega, rfl, by go_num, by rw [HE.out], HS2.out⟩
    · obtain rfl : q = M := by omega
      have hc : ¬ ((q : Int) ≤ ((q - 1 : Nat) : Int)) := by omega
      clear hS
      go_wp2_with (go_at_call 68; refine (EF.out _).mono ?_; rintro e w' ⟨rfl, rfl⟩)
      go_ret
      exact ⟨rfl, HS.out⟩

end Go.Proofs.Ytiabnlebonmedaa
