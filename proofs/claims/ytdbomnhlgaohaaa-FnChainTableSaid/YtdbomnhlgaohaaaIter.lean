/- The contract of the iterator over the rows of a set, for every loop body. -/
import Derived.RangeFuncNested
import Derived.RangeFuncBound
import Derived.RangeFuncCalls
import Derived.RangeFuncLeaves
import Derived.Shelf.Abstract
import Derived.Shelf.RegionOpen
import Derived.WalkKit
import Derived.OwnWalkIn
import Derived.TacticsInMore
import Derived.LoopNIn
import Derived.LoopIn
import Derived.Test.YtdbomnhlgaohaaaImpl1
namespace Go.Proofs.Ytdbomnhlgaohaaa
open Go.RowKit Go.Deep Go.Shelf
attribute [local go_sem] Oper.semAt_some

/-- The numbers below k that a set has, in their order. -/
def sel (s n : Nat) : Nat → List {i : Nat // i < n}
  | 0 => []
  | k + 1 => if h : k < n then (if s.testBit k then sel s n k ++ [⟨k, h⟩] else sel s n k) else sel s n k
theorem sel_length (s n k : Nat) : (sel s n k).length ≤ k := by
  induction k with
  | zero => simp [sel]
  | succ k ih => unfold sel; split <;> (try split) <;> first | omega | (simp; omega)
theorem sel_yes (s n k : Nat) (h : k < n) (hb : s.testBit k = true) : sel s n (k + 1) = sel s n k ++ [⟨k, h⟩] := by simp [sel, h, hb]
theorem sel_no (s n k : Nat) (hb : s.testBit k = false) : sel s n (k + 1) = sel s n k := by simp [sel, hb]

set_option maxRecDepth 100000 in
set_option maxHeartbeats 2000000 in
theorem rows1_in (n : Nat) (hn : 2 ≤ n) (l Bt Bs b o m cap s : Nat) (hm : m ≤ 7) (hs : s ≤ 63) (A : Nat → Option Addr) (L C : Nat → Nat) (Kp : World → World → Prop)
    (hK : ∀ X Y, Kp X Y → Y.cell? ⟨Bs, 0, none⟩ = X.cell? ⟨Bs, 0, none⟩ ∧ ∀ k, k < m → Y.cell? ⟨b, o + k, none⟩ = X.cell? ⟨b, o + k, none⟩) (J Jx : List {i : Nat // i < m} → World → Prop)
    (hY : ∀ pre x W, J pre W → pre.length < m → YieldAt Fence.wide (n - 1) Try.prog l #[.int .i64 (x.1 : Int), .slice (A x.1) (L x.1) (C x.1)] W fun e W' =>
      (e = .returned (.bool true) ∧ J (pre ++ [x]) W' ∧ Kp W W') ∨ (e = .returned (.bool false) ∧ Jx (pre ++ [x]) W'))
    (W : World) (hBt : W.cell? ⟨Bt, 0, none⟩ = some (.slice (some ⟨b, o, none⟩) m cap)) (hBs : W.cell? ⟨Bs, 0, none⟩ = some (.int .i64 s))
    (hc : ∀ k, k < m → W.cell? ⟨b, o + k, none⟩ = some (.slice (A k) (L k) (C k))) (h0 : J [] W) :
    CallsIn Fence.wide n Try.prog 96 #[.func (.yield l) #[] #[], .pointer (some ⟨Bt, 0, none⟩), .pointer (some ⟨Bs, 0, none⟩)] W fun e W' => (∃ v, e = .returned v) ∧
      ((∃ ys, ys = sel s m m ∧ J ys W') ∨ (∃ pre, (∃ k, k ≤ m ∧ pre = sel s m k) ∧ Jx pre W')) := by
  refine callsIn_of_wp Try.func96 rfl trivial ?_ rfl
  simp only [Try.ntmps96, List.size_toArray, List.length_cons, List.length_nil, Nat.reduceAdd, Nat.reduceSub, Array.replicate_succ, Array.replicate_zero, List.push_toArray, List.append_toArray, List.nil_append, List.cons_append]
  gi_wp2
  gi_loopw [4, 5, 8] (fun _ _ i wr => ∃ k : Nat, k ≤ m ∧ i = .int .i64 k ∧ J (sel s m k) wr ∧ wr.cell? ⟨Bs, 0, none⟩ = some (.int .i64 s) ∧ (∀ k, k < m → wr.cell? ⟨b, o + k, none⟩ = some (.slice (A k) (L k) (C k))))
    (fun _ _ i _ => m - (intOf i).toNat)
  case atStart => exact ⟨0, Nat.zero_le _, rfl, h0, hBs, hc⟩
  case round =>
    obtain ⟨k, hk, rfl, hJs, hBs', hc'⟩ := hrel
    by_cases hlt : k < m
    · have hck := hc' k hlt
      have E := Lib.hid (inSet_any s k hs (by omega) wr)
      have HC := Lib.hid hc'
      clear hc hc' hBs hBt
      cases hb : s.testBit k with
      | true =>
        have hy0 := hY _ ⟨k, hlt⟩ wr hJs (by have := sel_length s m k; omega)
        obtain ⟨fn, tmps, assign, body, hy, hR⟩ := hy0
        dsimp only at hy
        rw [hb] at E
        have HB := Lib.hid hb
        clear hb
        gi_wp2_with (refine ⟨trivial, fun _ => by omega, ?_⟩; gi_at_call 97; refine (callsIn_wide.2 E.out).mono ?_; rintro e w' ⟨rfl, rfl⟩)
        refine ⟨fun _ => by omega, hR.mono ?_⟩
        rintro e W3 (⟨rfl, hJ3, hk3⟩ | ⟨rfl, hJx3⟩)
        · obtain ⟨g1, g2⟩ := hK _ _ hk3
          gi_wp2
          go_roundw
          case rel => exact ⟨k + 1, by omega, by simp, by rw [sel_yes s m k hlt HB.out]; exact hJ3, g1.trans hBs', fun j hj => (g2 j hj).trans (HC.out j hj)⟩
          case measure => simp [intOf]; omega
        · gi_wp2
          refine bodyPost_ret (results_none rfl _ _ _) rfl ?_
          exact ⟨⟨_, rfl⟩, .inr ⟨_, ⟨k + 1, by omega, (sel_yes s m k hlt HB.out).symm⟩, hJx3⟩⟩
      | false =>
        rw [hb] at E
        have HB := Lib.hid hb
        clear hb
        gi_wp2_with (refine ⟨trivial, fun _ => by omega, ?_⟩; gi_at_call 97; refine (callsIn_wide.2 E.out).mono ?_; rintro e w' ⟨rfl, rfl⟩)
        refine ⟨fun _ h => (by cases h), ?_⟩
        gi_wp2
        go_roundw
        case rel => exact ⟨k + 1, by omega, by simp, by rw [sel_no s m k HB.out]; exact hJs, hBs', HC.out⟩
        case measure => simp [intOf]; omega
    · obtain rfl : k = m := by omega
      gi_wp2
      go_end0
      exact ⟨⟨_, rfl⟩, .inl ⟨_, rfl, hJs⟩⟩

/-- The iterator keeps its word to every loop body that leaves what lay below n₀ as it lay. -/
theorem rows_stops (n : Nat) (hn : 2 ≤ n) (Bt Bs b o m cap s n₀ : Nat) (hm : m ≤ 7) (hs : s ≤ 63) (A : Nat → Option Addr) (L C : Nat → Nat) (w : World) (h0 : n₀ ≤ w.heap.size) (h1 : Bt < n₀) (h2 : Bs < n₀) (h3 : b < n₀)
    (hBt : w.cell? ⟨Bt, 0, none⟩ = some (.slice (some ⟨b, o, none⟩) m cap)) (hBs : w.cell? ⟨Bs, 0, none⟩ = some (.int .i64 s))
    (hc : ∀ k, k < m → w.cell? ⟨b, o + k, none⟩ = some (.slice (A k) (L k) (C k))) :
    SeqStopsK Fence.wide n Try.prog 96 #[.pointer (some ⟨Bt, 0, none⟩), .pointer (some ⟨Bs, 0, none⟩)] (fun x : {i : Nat // i < m} => #[.int .i64 (x.1 : Int), .slice (A x.1) (L x.1) (C x.1)])
      (Below n₀) (fun ys => ys = sel s m m) (fun pre => ∃ k, k ≤ m ∧ pre = sel s m k) m w := fun l J Jx W hW _ _ hY hJ =>
  rows1_in n hn l Bt Bs b o m cap s hm hs A L C (Below n₀) (fun X Y h => ⟨h.cell (p := ⟨Bs, 0, none⟩) h2, fun k _ => h.cell (p := ⟨b, o + k, none⟩) h3⟩) J Jx hY W
    ((hW.cell (p := ⟨Bt, 0, none⟩) (by show Bt < _; omega)).trans hBt) ((hW.cell (p := ⟨Bs, 0, none⟩) (by show Bs < _; omega)).trans hBs)
    (fun k hk => (hW.cell (p := ⟨b, o + k, none⟩) (by show b < _; omega)).trans (hc k hk)) hJ

theorem sel_mem (s n : Nat) {i k : Nat} (hi : i < k) (hk : k ≤ n) (hb : s.testBit i = true) : (⟨i, by omega⟩ : {i : Nat // i < n}) ∈ sel s n k := by
  induction k with
  | zero => omega
  | succ k ih =>
    by_cases e : i = k
    · subst e; rw [sel_yes s n i (by omega) hb]; simp
    · have := ih (by omega) (by omega)
      unfold sel; split
      · split
        · exact List.mem_append.2 (.inl this)
        · exact this
      · exact this

set_option maxHeartbeats 1000000 in
theorem rows_any (a : Option Addr) (len cap : Nat) (s : Int) (w : World) :
    Calls Try.prog 87 #[.slice a len cap, .int .i64 s] w fun e w' => e = .returned (.func (.func 96) #[] #[.pointer (some ⟨w.heap.size, 0, none⟩), .pointer (some ⟨w.heap.size + 1, 0, none⟩)])
      ∧ w' = (w.alloc (.cells #[.slice a len cap] 50)).alloc (.cells #[.int .i64 s] 3) := by
  go_enter Try.func87, Try.ntmps87
  go_wp2
  go_ret
  exact ⟨rfl, rfl⟩

end Go.Proofs.Ytdbomnhlgaohaaa
