/- impl's possible chips: an iterator; whether a chip is in a net. -/
import Derived.Test.YtdodchmelepkeaaNetU
import Derived.Test.YtdodchmelepkeaaIter
import Derived.RangeFuncFrom
import Derived.RangeFuncBox
namespace Go.Proofs.Ytdodchmelepkeaa
open Go.RowKit Go.Deep Go.Shelf
attribute [local go_sem] Oper.semAt_some

abbrev kH : ByteArray := ⟨#[104]⟩
def kS (k : Nat) : ByteArray := if k = 0 then kU else if k = 1 then kD else kH
/-- All kinds and lines, in the order in which they come. -/
def posTo (n : Nat) : Nat → List (Nat × Nat)
  | 0 => []
  | k + 1 => if k + 1 = n then posTo n k ++ [(2, k)] else posTo n k ++ [(2, k), (0, k), (1, k)]
theorem posTo_len (n : Nat) : ∀ k, (posTo n k).length ≤ 3 * k
  | 0 => by simp [posTo]
  | k + 1 => by
    have := posTo_len n k
    unfold posTo
    split <;> simp <;> omega
theorem posTo_sub {n : Nat} {x : Nat × Nat} : ∀ {k m : Nat}, k ≤ m → x ∈ posTo n k → x ∈ posTo n m
  | k, 0, h, hx => by
    obtain rfl : k = 0 := by omega
    exact hx
  | k, m + 1, h, hx => by
    by_cases e : k = m + 1
    · subst e; exact hx
    · have := posTo_sub (n := n) (show k ≤ m by omega) hx
      unfold posTo
      split <;> simp [this]
theorem posTo_mem {n : Nat} {k i : Nat} : ∀ {m : Nat}, m ≤ n → ((k, i) ∈ posTo n m ↔ i < m ∧ ((k = 2) ∨ ((k = 0 ∨ k = 1) ∧ i + 1 ≠ n)))
  | 0, _ => by simp [posTo]
  | m + 1, hm => by
    have ih := posTo_mem (k := k) (i := i) (show m ≤ n by omega)
    unfold posTo
    by_cases e : m + 1 = n
    · rw [if_pos e, List.mem_append, ih]
      simp only [List.mem_singleton, Prod.mk.injEq]
      constructor
      · rintro (⟨h1, h2⟩ | ⟨h1, h2⟩)
        · exact ⟨by omega, h2⟩
        · exact ⟨by omega, .inl h1⟩
      · rintro ⟨h1, h2⟩
        by_cases h3 : i = m
        · rcases h2 with h2 | ⟨_, h2⟩
          · exact .inr ⟨h2, h3⟩
          · omega
        · exact .inl ⟨by omega, h2⟩
    · rw [if_neg e, List.mem_append, ih]
      simp only [List.mem_cons, List.not_mem_nil, or_false, Prod.mk.injEq]
      constructor
      · rintro (⟨h1, h2⟩ | ⟨h1, h2⟩ | ⟨h1, h2⟩ | ⟨h1, h2⟩)
        · exact ⟨by omega, h2⟩
        · exact ⟨by omega, .inl h1⟩
        · exact ⟨by omega, .inr ⟨.inl h1, by omega⟩⟩
        · exact ⟨by omega, .inr ⟨.inr h1, by omega⟩⟩
      · rintro ⟨h1, h2⟩
        by_cases h3 : i = m
        · rcases h2 with h2 | ⟨h2 | h2, _⟩
          · exact .inr (.inl ⟨h2, h3⟩)
          · exact .inr (.inr (.inl ⟨h2, h3⟩))
          · exact .inr (.inr (.inr ⟨h2, h3⟩))
        · exact .inl ⟨by omega, h2⟩

def encC (V : Int) (x : Nat × Nat) : Array Value := #[.agg #[.string (kS x.1), .int .i64 (x.2 : Int), .int .i64 V]]

set_option maxRecDepth 100000 in
set_option maxHeartbeats 1000000 in
theorem possible_in (q : Nat) (hq : 2 ≤ q) (l Bn Bw n : Nat) (V : Int) (hn : 1 ≤ n ∧ n ≤ 5) (Kp : World → World → Prop)
    (hK : ∀ X Y, Kp X Y → Y.cell? ⟨Bn, 0, none⟩ = X.cell? ⟨Bn, 0, none⟩ ∧ Y.cell? ⟨Bw, 0, none⟩ = X.cell? ⟨Bw, 0, none⟩) (J Jx : List (Nat × Nat) → World → Prop)
    (hY : ∀ pre x W, J pre W → pre.length < 15 → YieldAt Fence.wide (q - 1) Try.prog l (encC V x) W fun e W' =>
      (e = .returned (.bool true) ∧ J (pre ++ [x]) W' ∧ Kp W W') ∨ (e = .returned (.bool false) ∧ Jx (pre ++ [x]) W'))
    (W : World) (hBn : W.cell? ⟨Bn, 0, none⟩ = some (.int .i64 n)) (hBw : W.cell? ⟨Bw, 0, none⟩ = some (.int .i64 V)) (h0 : J [] W) :
    CallsIn Fence.wide q Try.prog 105 #[.func (.yield l) #[] #[], .pointer (some ⟨Bn, 0, none⟩), .pointer (some ⟨Bw, 0, none⟩)] W fun e W' => (∃ v, e = .returned v) ∧
      ((∃ ys, ys = posTo n n ∧ J ys W') ∨ (∃ pre, (∀ x ∈ pre, x ∈ posTo n n) ∧ Jx pre W')) := by
  obtain ⟨hn1, hn5⟩ := hn
  have hw1 : IntKind.i64.wrap ((n : Int) - 1) = (n : Int) - 1 := IntWalk.i64_in _ ⟨by omega, by omega⟩
  refine callsIn_of_wp Try.func105 rfl trivial ?_ rfl
  simp only [Try.ntmps105, List.size_toArray, List.length_cons, List.length_nil, Nat.reduceAdd, Nat.reduceSub, Array.replicate_succ, Array.replicate_zero, List.push_toArray, List.append_toArray, List.nil_append, List.cons_append]
  gi_wp2
  gi_loopw [4, 5, 7] (fun _ _ i wr => ∃ k : Nat, k ≤ n ∧ i = .int .i64 k ∧ J (posTo n k) wr ∧ wr.cell? ⟨Bn, 0, none⟩ = some (.int .i64 n) ∧ wr.cell? ⟨Bw, 0, none⟩ = some (.int .i64 V))
    (fun _ _ i _ => n - (intOf i).toNat)
  case atStart => exact ⟨0, Nat.zero_le _, rfl, h0, hBn, hBw⟩
  case round =>
    obtain ⟨k, hk, rfl, hJs, hcn, hcw⟩ := hrel
    by_cases hlt : k < n
    · have hpl := posTo_len n k
      obtain ⟨fn, tmps, assign, body, hy, hR⟩ := hY _ (2, k) wr hJs (by omega)
      dsimp only [encC, kS] at hy
      rw [if_neg (by simp), if_neg (by simp)] at hy
      have hm0 : ∀ x ∈ posTo n k, x ∈ posTo n n := fun x hx => posTo_sub (by omega) hx
      have hm2 : (2, k) ∈ posTo n n := (posTo_mem (Nat.le_refl n)).2 ⟨hlt, .inl rfl⟩
      have HM2 := Lib.hid (And.intro hm0 hm2)
      have HY := Lib.hid hY
      clear hBn hBw hY hm2 hm0
      gi_wp2
      refine ⟨fun _ => by omega, hR.mono ?_⟩
      rintro e W3 (⟨rfl, hJ3, hk3⟩ | ⟨rfl, hJx3⟩)
      · obtain ⟨g1, g2⟩ := hK _ _ hk3
        have hcn3 := g1.trans hcn
        have hcw3 := g2.trans hcw
        clear hy hR hk3 g1 g2 hcn hcw hJs
        by_cases hl : k + 1 = n
        · have hlb : ((k : Int) == (n : Int) - 1) = true := by simp; omega
          have hst : posTo n (k + 1) = posTo n k ++ [(2, k)] := by show (if k + 1 = n then _ else _) = _; rw [if_pos hl]
          rw [← hst] at hJ3
          clear hst hl
          gi_wp2
          repeat (refine ⟨fun _ h => (by cases h), ?_⟩; gi_wp2)
          case isFalse =>
            rename_i b h1 _
            exact absurd h1 (fun h => by cases h)
          all_goals
            go_roundw
            case rel => exact ⟨k + 1, by omega, by simp, hJ3, hcn3, hcw3⟩
            case measure => simp [intOf]; omega
        · have hlb : ((k : Int) == (n : Int) - 1) = false := by simp; omega
          have hst : posTo n (k + 1) = posTo n k ++ [(2, k), (0, k), (1, k)] := by show (if k + 1 = n then _ else _) = _; rw [if_neg hl]
          have HST := Lib.hid hst
          have HL := Lib.hid hl
          obtain ⟨fn, tmps, assign, body, hy, hR⟩ := HY.out _ (0, k) W3 hJ3 (by simp; omega)
          dsimp only [encC, kS] at hy
          rw [if_pos rfl] at hy
          clear hst hl hJ3
          gi_wp2
          refine ⟨fun _ => by omega, hR.mono ?_⟩
          rintro e W4 (⟨rfl, hJ4, hk4⟩ | ⟨rfl, hJx4⟩)
          · obtain ⟨g1, g2⟩ := hK _ _ hk4
            have hcn4 := g1.trans hcn3
            have hcw4 := g2.trans hcw3
            obtain ⟨fn, tmps, assign, body, hy, hR⟩ := HY.out _ (1, k) W4 hJ4 (by simp; omega)
            dsimp only [encC, kS] at hy
            rw [if_neg (by simp), if_pos rfl] at hy
            clear hk4 g1 g2 hcn3 hcw3 hJ4
            gi_wp2
            refine ⟨fun _ => by omega, hR.mono ?_⟩
            rintro e W5 (⟨rfl, hJ5, hk5⟩ | ⟨rfl, hJx5⟩)
            · obtain ⟨g1, g2⟩ := hK _ _ hk5
              have hcn5 := g1.trans hcn4
              have hcw5 := g2.trans hcw4
              gi_wp2
              go_roundw
              case rel => exact ⟨k + 1, by omega, by simp, by rw [HST.out]; simpa using hJ5, hcn5, hcw5⟩
              case measure => simp [intOf]; omega
            · gi_wp2
              refine bodyPost_ret (results_none rfl _ _ _) rfl ?_
              refine ⟨⟨_, rfl⟩, .inr ⟨_, fun x hx => ?_, hJx5⟩⟩
              simp only [List.append_assoc, List.mem_append, List.mem_cons, List.not_mem_nil, or_false] at hx
              rcases hx with hx | rfl | rfl | rfl
              · exact HM2.out.1 x hx
              · exact HM2.out.2
              · exact (posTo_mem (Nat.le_refl n)).2 ⟨hlt, .inr ⟨.inl rfl, HL.out⟩⟩
              · exact (posTo_mem (Nat.le_refl n)).2 ⟨hlt, .inr ⟨.inr rfl, HL.out⟩⟩
          · gi_wp2
            repeat (refine ⟨fun _ h => (by cases h), ?_⟩; gi_wp2)
            refine bodyPost_ret (results_none rfl _ _ _) rfl ?_
            refine ⟨⟨_, rfl⟩, .inr ⟨_, fun x hx => ?_, hJx4⟩⟩
            simp only [List.append_assoc, List.mem_append, List.mem_cons, List.not_mem_nil, or_false] at hx
            rcases hx with hx | rfl | rfl
            · exact HM2.out.1 x hx
            · exact HM2.out.2
            · exact (posTo_mem (Nat.le_refl n)).2 ⟨hlt, .inr ⟨.inl rfl, HL.out⟩⟩
      · gi_wp2
        refine bodyPost_ret (results_none rfl _ _ _) rfl ?_
        refine ⟨⟨_, rfl⟩, .inr ⟨_, fun x hx => ?_, hJx3⟩⟩
        simp only [List.mem_append, List.mem_singleton] at hx
        rcases hx with hx | rfl
        · exact HM2.out.1 x hx
        · exact HM2.out.2
    · obtain rfl : k = n := by omega
      gi_wp2
      go_end0
      exact ⟨⟨_, rfl⟩, .inl ⟨_, rfl, hJs⟩⟩

/-- The iterator keeps its word to every loop body that leaves what lay below n₀ as it lay. -/
theorem possible_stops (q : Nat) (hq : 2 ≤ q) (Bn Bw n n₀ : Nat) (V : Int) (hn : 1 ≤ n ∧ n ≤ 5) (w : World) (h0 : n₀ ≤ w.heap.size) (h1 : Bn < n₀) (h2 : Bw < n₀) (hBn : w.cell? ⟨Bn, 0, none⟩ = some (.int .i64 n)) (hBw : w.cell? ⟨Bw, 0, none⟩ = some (.int .i64 V)) :
    SeqStopsK Fence.wide q Try.prog 105 #[.pointer (some ⟨Bn, 0, none⟩), .pointer (some ⟨Bw, 0, none⟩)] (encC V) (Below n₀) (fun ys => ys = posTo n n) (fun pre => ∀ x ∈ pre, x ∈ posTo n n) 15 w := fun l J Jx W hW _ _ hY hJ =>
  possible_in q hq l Bn Bw n V hn (Below n₀) (fun X Y h => ⟨h.cell (p := ⟨Bn, 0, none⟩) h1, h.cell (p := ⟨Bw, 0, none⟩) h2⟩) J Jx hY W
    ((hW.cell (p := ⟨Bn, 0, none⟩) (by show Bn < _; omega)).trans hBn) ((hW.cell (p := ⟨Bw, 0, none⟩) (by show Bw < _; omega)).trans hBw) hJ

theorem possibleChips_any (n V : Int) (w : World) :
    Calls Try.prog 86 #[.int .i64 n, .int .i64 V] w fun e w' => e = .returned (.func (.func 105) #[] #[.pointer (some ⟨w.heap.size, 0, none⟩), .pointer (some ⟨w.heap.size + 1, 0, none⟩)])
      ∧ w' = (w.alloc (.cells #[.int .i64 n] 3)).alloc (.cells #[.int .i64 V] 3) := by
  go_enter Try.func86, Try.ntmps86
  go_wp2
  go_ret
  exact ⟨rfl, rfl⟩

end Go.Proofs.Ytdodchmelepkeaa
