/- The contract of spec.TableTurn. -/
import Derived.Test.YtdbomnhlgaohaaaTurnImpl
namespace Go.Proofs.Ytdbomnhlgaohaaa
open Go.RowKit Go.Deep

theorem info3_parts : ∃ i, Try.prog.info? 3 = some i ∧ i.zero = some (.int .i64 0) ∧ i.size = 1 ∧ i.bytes = 8 := info_parts Try.info3
theorem info42_parts : ∃ i, Try.prog.info? 23 = some i ∧ i.zero = some (.slice none 0 0) ∧ i.size = 1 ∧ i.bytes = 24 := info_parts Try.info23

/-- Row k of the table turned, as far as its first j numbers. -/
def turnRow (l : List (List Int)) (k j : Nat) : List Int := (List.range j).map fun i => at2 l i k
theorem turnRow_succ (l : List (List Int)) (k j : Nat) : turnRow l k (j + 1) = turnRow l k j ++ [at2 l j k] := by simp [turnRow, List.range_succ]
theorem turnRow_length (l : List (List Int)) (k j : Nat) : (turnRow l k j).length = j := by simp [turnRow]
/-- The table turned, as far as its first k rows. -/
def turnTo (l : List (List Int)) (k : Nat) : List (List Int) := (List.range k).map fun r => turnRow l r l.length
theorem turnTo_succ (l : List (List Int)) (k : Nat) : turnTo l (k + 1) = turnTo l k ++ [turnRow l k l.length] := by simp [turnTo, List.range_succ]
theorem turnTo_length (l : List (List Int)) (k : Nat) : (turnTo l k).length = k := by simp [turnTo]
theorem turnTo_all (l : List (List Int)) : turnTo l (l.getD 0 []).length = turnL l := rfl

set_option maxRecDepth 100000 in
set_option maxHeartbeats 4000000 in
theorem l1Turn_any (a : Option Addr) (cap n : Nat) (l : List (List Int)) (w : World) (hn : l.length = n) (hT : TabIn l) (hm : MatR w a l) :
    Calls Try.prog 67 #[.slice a n cap] w fun e w' => ∃ a' cap', e = .returned (.slice a' (l.getD 0 []).length cap') ∧ w.Since w.heap.size w' ∧ InT w.heap.size w'.heap.size w' a' (turnL l) := by
  obtain ⟨i42, hi42⟩ := info42_parts
  obtain ⟨i3, hi3⟩ := info3_parts
  have HI := Lib.hid hi42
  have HJ := Lib.hid hi3
  clear hi42 hi3
  have hst := bt_start w (fun _ => none) (fun _ => 0) #[] rfl
  have hw := hT.width
  have h6 := hT.2.1
  have h1 := hT.1
  rw [hn] at h6 h1
  obtain ⟨b, o, A0, C0, rfl, hc⟩ := hm (by omega)
  obtain ⟨m, hmm⟩ : ∃ m, (l.getD 0 []).length = m := ⟨_, rfl⟩
  have hcell : ∀ r, r < n → w.cell? ⟨b, o + r, none⟩ = some (.slice (A0 r) m (C0 r)) := fun r hr => by rw [(hc r (by omega)).1, hT.row (by omega), hmm]
  have hent : ∀ i k, i < n → k < m → ∃ b' o', A0 i = some ⟨b', o', none⟩ ∧ w.cell? ⟨b', o' + k, none⟩ = some (.int .i64 (at2 l i k)) := fun i k hi hk => by
    have hrl : (l.getD i []).length = m := by rw [hT.row (by omega), hmm]
    obtain ⟨b', o', e, h3⟩ := (hc i (by omega)).2 (by omega)
    exact ⟨b', o', e, h3 k (by omega)⟩
  have htl : turnL l = turnTo l m := by rw [← hmm]; exact (turnTo_all l).symm
  rw [hmm] at hw ⊢
  rw [htl]
  have HC := Lib.hid hcell
  have HE := Lib.hid hent
  have HN := Lib.hid hn
  clear hc hm hT hcell hent hn hmm htl
  go_enter Try.func67, Try.ntmps67
  go_wp2
  go_loopg [3, 4, 5, 6] m (fun g v k _ _ wr => ∃ r : Nat, ∃ A C, r ≤ m ∧ g = m - r ∧ k = .int .i64 r ∧ BT w wr v (turnTo l r) A C)
  case atStart => exact ⟨0, _, _, Nat.zero_le _, rfl, rfl, hst⟩
  case round =>
    obtain ⟨r, A, C, hr, rfl, rfl, hR⟩ := hrel
    clear hst
    have hc0 : wr.cell? ⟨b, o, none⟩ = some (.slice (A0 0) m (C0 0)) := by
      have h0 := HC.out 0 (by omega)
      rw [Nat.add_zero] at h0
      rw [hR.since.cell (a := ⟨b, o, none⟩) (World.block_lt_of_cell? _ _ h0), h0]
    by_cases hlt : r < m
    · have HR := Lib.hid hR
      have hrb := rb_start wr #[] rfl
      have HRB := Lib.hid hrb
      have hsz := hR.since.size
      have hlen := turnTo_length l r
      obtain ⟨wo, rfl⟩ : ∃ wo : World, wo = wr := ⟨_, rfl⟩
      clear hR hrb
      go_wp2
      go_loopg [5, 6] n (fun g v i wi => ∃ j : Nat, j ≤ n ∧ g = n - j ∧ i = .int .i64 j ∧ RB wo wi v (turnRow l r j))
      case atStart => exact ⟨0, Nat.zero_le _, rfl, rfl, HRB.out⟩
      case round =>
        obtain ⟨j, hj, rfl, rfl, hI⟩ := hrel
        clear HRB hc0
        by_cases hjn : j < n
        · obtain ⟨b', o', hA, hce⟩ := HE.out j r hjn hlt
          have hcj := HC.out j hjn
          rw [hA] at hcj
          have hS := HR.out.since.trans (since_mono hI.since hsz)
          rw [← hS.cell (a := ⟨b, o + j, none⟩) (World.block_lt_of_cell? _ _ hcj)] at hcj
          rw [← hS.cell (a := ⟨b', o' + r, none⟩) (World.block_lt_of_cell? _ _ hce)] at hce
          obtain ⟨y, hy⟩ : ∃ y, y = at2 l j r := ⟨_, rfl⟩
          rw [← hy] at hce
          have HY := Lib.hid hy
          have HII := Lib.hid hI
          have hle := turnRow_length l r j
          have hzi := hI.since.size
          clear hy hI hA hS
          go_wp2_with (at_builtin; (refine wpList_append_own _ rfl _ _ 23 rfl wo.heap.size 3 i3 (.int .i64 0) 1 8 Try.underlying23 HJ.out.1 HJ.out.2.1 HJ.out.2.2.1 HJ.out.2.2.2 rfl (by decide) _ _ _ rfl (HII.out.own.alloc _) ⟨wr.heap.size, 0, none⟩ 1 1 [.int .i64 y] rfl rfl (cell_one_at _ _ _ rfl) (fun x hx => by simp at hx; subst hx; rfl) (by unfold maxLen; omega) (by omega) (by simp; omega) ?_); intro v' w1 hown' hgrow _)
          have hP := HII.out.push hown' hgrow
          rw [HY.out, ← turnRow_succ] at hP
          have HP := Lib.hid hP
          clear hP hown' hgrow hle hcj hce
          go_roundg (n - (j + 1))
          case measure => omega
          case rel => exact ⟨j + 1, by omega, rfl, by go_num, HP.out⟩
        · have hjj : j = n := by omega
          subst hjj
          obtain ⟨ra, rcp, hv, hrow⟩ := hI.slice
          rw [turnRow_length] at hv
          subst hv
          have HII := Lib.hid hI
          have hle := turnRow_length l r j
          have hzi := hI.since.size
          have HROW := Lib.hid hrow
          clear hI hrow
          have hBT := HR.out.later HII.out.since
          have HBT := Lib.hid hBT
          clear hBT
          go_wp2_with (at_builtin; (refine wpList_append_own _ rfl _ _ 28 rfl w.heap.size 23 i42 (.slice none 0 0) 1 24 Try.underlying28 HI.out.1 HI.out.2.1 HI.out.2.2.1 HI.out.2.2.2 rfl (by decide) _ _ _ rfl (HBT.out.own.alloc _) ⟨wr.heap.size, 0, none⟩ 1 1 [.slice ra j rcp] rfl rfl (cell_one_at _ _ _ rfl) (fun x hx => by simp at hx; subst hx; rfl) (by unfold maxLen; omega) (by omega) (by simp; omega) ?_); intro v' w1 hown' hgrow _)
          have hP := HBT.out.push (rv := .slice ra j rcp) (x := turnRow l r j) (a := ra) (cp := rcp) (by rw [turnRow_length]) (fun h => by obtain ⟨G, e, h2, h3⟩ := HROW.out h; exact ⟨G, e, by omega, h3⟩) (fun h => by obtain ⟨G, e, h2, _⟩ := HROW.out h; exact HR.out.fresh e h2) hown' hgrow
          have hjl : l.length = j := HN.out
          have hts := turnTo_succ l r
          rw [hjl] at hts
          rw [← hts] at hP
          have HP := Lib.hid hP
          clear hP hown' hgrow hle hts hjl hlen
          go_roundg (m - (r + 1))
          case measure => omega
          case rel => exact ⟨r + 1, _, _, by omega, rfl, by go_num, HP.out⟩
    · have : r = m := by omega
      subst this
      obtain ⟨ra, rcp, hv, hin⟩ := hR.slice
      rw [turnTo_length] at hv
      subst hv
      have HS := Lib.hid hR.since
      clear hR
      go_wp2
      go_ret
      exact ⟨ra, rcp, rfl, HS.out, hin⟩

theorem szL_turn {l : List (List Int)} (h : TabIn l) : szL (turnL l) ≤ 1048576 := szL_tabF _ _ _ (by have := h.width; omega) (by have := h.2.1; omega)

set_option maxHeartbeats 1000000 in
theorem specTableTurn_any (a : Option Addr) (cap n : Nat) (l : List (List Int)) (w : World) (hn : l.length = n) (hsz : szL l ≤ 1048576) (hm : MatR w a l) :
    Calls Try.prog 41 #[.slice a n cap] w (SpecT w (tabIn l) (turnL l)) := by
  have E := Lib.hid (specTableIn_any a cap n l w hn hsz hm)
  cases hT : tabIn l with
  | false =>
    rw [hT] at E
    clear hT hsz hm hn
    go_enter Try.func41, Try.ntmps41
    go_wp2_with fail
    refine (E.out).mono ?_
    rintro e w1 ⟨rfl, hd⟩
    have hs := hd.since w.heap.size
    clear hd
    go_wp2_with fail
    refine (l1None_any w1).mono ?_
    rintro e w2 ⟨rfl, hs2⟩
    go_wp2
    go_ret2
    exact ⟨_, _, rfl, hs.trans (since_mono hs2 hs.size), InT.nil _ _ _ _⟩
  | true =>
    have hTT := tabIn_of hT
    rw [hT] at E
    have HE2 := Lib.hid (fun (W : World) (hs : w.Since w.heap.size W) => l1Turn_any a cap n l W hn hTT (hm.since hs))
    have HTL := Lib.hid (turnL_length l)
    clear hT hsz hm hn hTT
    go_enter Try.func41, Try.ntmps41
    go_wp2_with fail
    refine (E.out).mono ?_
    rintro e w1 ⟨rfl, hd⟩
    have hs := hd.since w.heap.size
    clear hd
    go_wp2_with fail
    refine (HE2.out w1 hs).mono ?_
    rintro e w2 ⟨a', cap', rfl, hs2, hin⟩
    go_wp2
    go_ret2
    exact ⟨a', cap', by unfold resT; rw [if_pos rfl, HTL.out]; rfl, hs.trans (since_mono hs2 hs.size), hin.mono hs.size (Nat.le_refl _)⟩

end Go.Proofs.Ytdbomnhlgaohaaa
