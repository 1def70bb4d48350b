/- The contract of spec.l3Sets. -/
import Derived.Test.YtbedkjpbdkgjpaaPlaceP
import Derived.Test.YtbedkjpbdkgjpaaOtherV
import Derived.Test.YtbedkjpbdkgjpaaRankV
import Derived.StillTailTactics
namespace Go.Proofs.Ytbedkjpbdkgjpaa
open Go.RowKit Go.Deep

/-- The sets of k below m, as numbers. -/
def setsI (k m : Nat) : List Int := List.map (fun s : Nat => (s : Int)) (setsTo k m)
theorem setsI_yes {k m : Nat} (h : popcS m = k) : setsI k (m + 1) = setsI k m ++ [(m : Int)] := by unfold setsI; rw [setsTo_yes h, List.map_append]; rfl
theorem setsI_no {k m : Nat} (h : popcS m ≠ k) : setsI k (m + 1) = setsI k m := by unfold setsI; rw [setsTo_no h]
theorem setsI_length (k m : Nat) : (setsI k m).length = (setsTo k m).length := by unfold setsI; rw [List.length_map]
theorem setsI_le (k m : Nat) : (setsI k m).length ≤ m := by rw [setsI_length]; exact setsTo_len k m

set_option maxRecDepth 100000 in
set_option maxHeartbeats 2000000 in
theorem l3Sets_any (n k : Nat) (hn : n ≤ 6) (w : World) : Calls Try.prog 47 #[.int .i64 n, .int .i64 k] w fun e w' => ∃ v, e = .returned v ∧ RB w w' v (setsI k (2 ^ n)) := by
  obtain ⟨i3, hi3⟩ := info3_parts
  have HJ := Lib.hid hi3
  have HRB := Lib.hid (rb_start w #[] rfl)
  have e1 := ipow_fin ⟨n, by omega⟩
  simp only at e1
  have p1 : 2 ^ n ≤ 2 ^ 6 := Nat.pow_le_pow_right (by omega) hn
  obtain ⟨M, hM⟩ : ∃ M, 2 ^ n = M := ⟨_, rfl⟩
  rw [hM] at e1 p1 ⊢
  have Z := Lib.hid (fun (s : Nat) (hs : s ≤ 63) (W : World) => l2Size_any s hs W)
  clear hM hi3
  go_enter Try.func47, Try.ntmps47
  go_wp2
  go_loopg [5, 6] M (fun g v s wr => ∃ r : Nat, r ≤ M ∧ g = M - r ∧ s = .int .i64 r ∧ RB w wr v (setsI k r))
  case atStart => exact ⟨0, Nat.zero_le _, rfl, rfl, HRB.out⟩
  case round =>
    obtain ⟨r, hr, rfl, rfl, hI⟩ := hrel
    clear HRB
    have HII := Lib.hid hI
    have hle := setsI_le k r
    have hzi := hI.since.size
    clear hI
    by_cases hlt : r < M
    · have hd : decide ((r : Int) < (M : Int)) = true := by simp; omega
      by_cases hp : popcS r = k
      · have ZR := Lib.hid (hp ▸ Z.out r (by omega) wr)
        have HY := Lib.hid (setsI_yes hp)
        clear hp
        go_wp2_with fail
        refine (ZR.out).mono ?_
        rintro e w2 ⟨rfl, rfl⟩
        go_wp2_with (at_builtin; (refine wpList_append_own _ rfl _ _ 22 rfl w.heap.size 3 i3 (.int .i64 0) 1 8 Try.underlying22 HJ.out.1 HJ.out.2.1 HJ.out.2.2.1 HJ.out.2.2.2 rfl (by decide) _ _ _ rfl (HII.out.own.alloc _) ⟨wr.heap.size, 0, none⟩ 1 1 [.int .i64 (r : Nat)] rfl rfl (cell_one_at _ _ _ rfl) (fun x hx => by simp at hx; subst hx; rfl) (by unfold maxLen; omega) (by omega) (by simp; omega) ?_); intro v' w5 hown' hgrow _)
        have hP := HII.out.push hown' hgrow
        rw [← HY.out] at hP
        have HP := Lib.hid hP
        clear hP hown' hgrow
        go_roundg (M - (r + 1))
        case measure => omega
        case rel => exact ⟨r + 1, by omega, rfl, by go_num, HP.out⟩
      · obtain ⟨x, hx⟩ : ∃ x, popcS r = x := ⟨_, rfl⟩
        have ZR := Lib.hid (hx ▸ Z.out r (by omega) wr)
        have HY := Lib.hid (setsI_no hp)
        rw [hx] at hp
        have hxk : ((x : Int) == (k : Int)) = false := by simp; omega
        clear hp hx
        go_wp2_with fail
        refine (ZR.out).mono ?_
        rintro e w2 ⟨rfl, rfl⟩
        go_wp2
        go_roundg (M - (r + 1))
        case measure => omega
        case rel => exact ⟨r + 1, by omega, rfl, by go_num, by rw [HY.out]; exact HII.out⟩
    · have hrM : r = M := by omega
      subst hrM
      go_wp2
      go_ret
      exact ⟨_, rfl, HII.out⟩

end Go.Proofs.Ytbedkjpbdkgjpaa
