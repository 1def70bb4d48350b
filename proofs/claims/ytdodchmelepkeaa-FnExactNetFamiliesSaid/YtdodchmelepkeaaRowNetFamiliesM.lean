import Derived.Test.YtdodchmelepkeaaChipL
import Derived.Test.YtdodchmelepkeaaNetG
import Derived.Test.YtdodchmelepkeaaChipI
import Derived.RangeFuncNested
import Derived.Test.YtdodchmelepkeaaNetV
import Derived.Test.YtdodchmelepkeaaUnitImpl
import Derived.RangeFuncBound
import Derived.RangeFuncCalls
import Derived.RangeFuncLeaves
import Derived.Shelf.Abstract
import Derived.Shelf.RegionOpen
import Derived.WalkKit
import Derived.OwnWalkIn
import Derived.TacticsInMore
import Derived.LoopNIn
import Derived.LoopIn
import Derived.Test.YtdodchmelepkeaaImpl1
import Derived.Test.YtdodchmelepkeaaNetS
import Derived.Laws.EntriesVeiled
import Derived.Deep.RegionHeld3
import Derived.Deep.QuietTactic
import Derived.BigQuiet
import Derived.Deep.AppendLies
import Derived.Test.YtdodchmelepkeaaNetO
import Derived.RangeFuncBox
import Derived.Test.YtdodchmelepkeaaPartPure
import Derived.Test.YtdodchmelepkeaaCopy
import Derived.Test.YtdodchmelepkeaaGrid
import Derived.Test.YtdodchmelepkeaaTabInImpl
import Derived.Test.YtdodchmelepkeaaL2Size
import Derived.Test.YtdodchmelepkeaaRowsF
import Derived.Test.YtdodchmelepkeaaDet
import Derived.Test.YtdodchmelepkeaaPartImpl
import Derived.Test.YtdodchmelepkeaaRows
import Derived.Test.YtdodchmelepkeaaData
import Derived.ProofKit
import Derived.Deep.Matrix
import Derived.Deep.Slices

section
namespace Go.Proofs.Ytdodchmelepkeaa
open Go.RowKit Go.Deep

set_option maxRecDepth 100000 in
set_option maxHeartbeats 400000 in
theorem lawNetFamilies_aux (x0 : Int) (a1 : Option Addr) (cap1 n1 : Nat) (l1 : List RC) (x2 : Int) (x3 : Int) (v : Int) (ok : Bool) (w : World) (hn1 : l1.length = n1) (h631 : n1 ≤ 9223372036854775807) (hs1 : ShortL l1) (hm1 : ChipsR w a1 l1)
    (hspec : n1 ≤ 1048576 → ∀ (W : World) (b1 : Option Addr) (c1 : Nat), n1 ≤ c1 → c1 ≤ 9223372036854775807 → (∃ g, b1 = some ⟨g, 0, none⟩) → ChipsR W b1 l1 → Calls Try.prog 26 #[.int .i64 x0, .slice b1 n1 c1, .int .i64 x2, .int .i64 x3] W (fun e w' => e = .returned (.tuple #[.int .i64 v, .bool ok]) ∧ W.Since W.heap.size w'))
    (himpl : n1 ≤ 1048576 → ∀ (W : World) (b1 : Option Addr) (c1 : Nat), n1 ≤ c1 → c1 ≤ 9223372036854775807 → (∃ g, b1 = some ⟨g, 0, none⟩) → ChipsR W b1 l1 → Calls Try.prog 27 #[.int .i64 x0, .slice b1 n1 c1, .int .i64 x2, .int .i64 x3] W (fun e w' => e = .returned (.tuple #[.int .i64 v, .bool ok]) ∧ W.Since W.heap.size w')) :
    Calls Try.prog 6 #[.int .i64 x0, .slice a1 n1 cap1, .int .i64 x2, .int .i64 x3] w fun e w' => e = .returned (.bool true) ∧ w.Since w.heap.size w' := by
  have HN1 := Lib.hid hn1
  have HM1 := Lib.hid hm1
  have HH1 := Lib.hid hs1
  have HSPEC := Lib.hid hspec
  have HIMPL := Lib.hid himpl
  clear hspec himpl hn1 hm1 hs1
  go_enter Try.func6, Try.ntmps6
  have s0 : w.Since w.heap.size w := World.Since.refl _ _
  have HZ1 := Lib.hid (szChipS_any a1 cap1 n1 1048576 l1 w HN1.out h631 ⟨by omega, by omega⟩ HH1.out (HM1.out.since s0))
  go_wp2_with fail
  refine (HZ1.out).mono ?_
  rintro e w1 ⟨r1, ⟨rfl, hra1, hrb1⟩, t1⟩
  have s1 : w.Since w.heap.size w1 := s0.trans (since_mono t1 s0.size)
  clear t1
  by_cases hr01 : r1 < 0
  · have hb : decide (r1 < 0) = true := by simpa using hr01
    go_wp2_with fail
    go_ret
    exact ⟨rfl, s1⟩
  have hb1 : decide (r1 < 0) = false := by simpa using hr01
  have hle1 : n1 ≤ 1048576 := by have := hrb1 (by omega); omega
  clear hrb1
  go_wp2_with fail
  refine (toChipS_any a1 cap1 n1 l1 _ HN1.out hle1 (HM1.out.since s1)).mono ?_
  rintro e w2 ⟨rfl, t2, op1⟩
  have s2 : w.Since w.heap.size w2 := s1.trans (since_mono t2 s1.size)
  clear t2
  go_wp2_with fail
  refine (HSPEC.out hle1 _ _ _ (Nat.le_refl _) (by omega) ⟨_, rfl⟩ op1.chips).mono ?_
  rintro e w3 ⟨rfl, t3⟩
  have s3 : w.Since w.heap.size w3 := s2.trans (since_mono t3 s2.size)
  replace op1 := op1.since t3
  clear t3
  clear op1
  go_wp2_with fail
  refine (toChipS_any a1 cap1 n1 l1 _ HN1.out hle1 (HM1.out.since s3)).mono ?_
  rintro e w4 ⟨rfl, t4, ox1⟩
  have s4 : w.Since w.heap.size w4 := s3.trans (since_mono t4 s3.size)
  clear t4
  go_wp2_with fail
  refine (HIMPL.out hle1 _ _ _ (Nat.le_refl _) (by omega) ⟨_, rfl⟩ ox1.chips).mono ?_
  rintro e w5 ⟨rfl, t5⟩
  have s5 : w.Since w.heap.size w5 := s4.trans (since_mono t5 s4.size)
  replace ox1 := ox1.since t5
  clear t5
  cases ok
  all_goals
    go_wp2_with fail
    refine (toChipS_any a1 cap1 n1 l1 _ HN1.out hle1 (HM1.out.since s5)).mono ?_
    rintro e w6 ⟨rfl, t6, oy1⟩
    have s6 : w.Since w.heap.size w6 := s5.trans (since_mono t6 s5.size)
    replace ox1 := ox1.since t6
    clear t6
    go_wp2_with fail
    refine (eqChipS_same _ _ _ _ _ l1 _ HN1.out h631 ox1.chips oy1.chips).mono ?_
    rintro e w7 ⟨rfl, t7⟩
    have s7 : w.Since w.heap.size w7 := s6.trans (since_mono t7 s6.size)
    replace ox1 := ox1.since t7
    clear t7 oy1
    go_wp2_with fail
    go_ret
    exact ⟨rfl, s7⟩

end Go.Proofs.Ytdodchmelepkeaa
end

section
namespace Go.Proofs.Ytdodchmelepkeaa

def famL : List CH → Nat → Int → List (Nat × Int)
  | [], s, x => [(s, x)]
  | c :: cs, s, x => if c.1 = 2 then (if s.testBit c.2.1 = true then famL cs s (x * c.2.2) else famL cs s x)
    else if s.testBit (cFrom c) = true ∧ s.testBit (cTo c) = false then famL cs (s ^^^ 2 ^ cFrom c ^^^ 2 ^ cTo c) (x * c.2.2) ++ famL cs s x else famL cs s x
def twoP : Nat → Nat
  | 0 => 1
  | k + 1 => 2 * twoP k
theorem twoP_le {k : Nat} (h : k ≤ 10) : twoP k ≤ 1024 := by
  have : ∀ j : Fin 11, twoP j.val ≤ 1024 := by decide
  exact this ⟨k, by omega⟩
theorem twoP_pos : ∀ k, 1 ≤ twoP k
  | 0 => by decide
  | k + 1 => by have := twoP_pos k; show 1 ≤ 2 * twoP k; omega
theorem famL_len : ∀ (cs : List CH) (s : Nat) (x : Int), (famL cs s x).length ≤ twoP cs.length
  | [], s, x => by simp [famL, twoP]
  | c :: cs, s, x => by
    have h1 := famL_len cs s x
    have h2 := famL_len cs s (x * c.2.2)
    have h3 := famL_len cs (s ^^^ 2 ^ cFrom c ^^^ 2 ^ cTo c) (x * c.2.2)
    have e : twoP (c :: cs).length = 2 * twoP cs.length := rfl
    rw [e]
    unfold famL
    split
    · split <;> omega
    · split
      · rw [List.length_append]; omega
      · omega
def sumTo2 (t : Nat) (l : List (Nat × Int)) : Int := l.foldl (fun a y => if y.1 = t then a + y.2 else a) 0
theorem foldl_add (t : Nat) : ∀ (l : List (Nat × Int)) (a : Int), l.foldl (fun a y => if y.1 = t then a + y.2 else a) a = a + l.foldl (fun a y => if y.1 = t then a + y.2 else a) 0
  | [], a => by simp
  | y :: l, a => by
    simp only [List.foldl_cons]
    rw [foldl_add t l (if y.1 = t then a + y.2 else a), foldl_add t l (if y.1 = t then 0 + y.2 else 0)]
    split <;> omega
theorem sumTo2_app (t : Nat) (l m : List (Nat × Int)) : sumTo2 t (l ++ m) = sumTo2 t l + sumTo2 t m := by
  unfold sumTo2
  rw [List.foldl_append, foldl_add t m]
theorem famL_sum (t : Nat) : ∀ (cs : List CH) (s : Nat) (x : Int), sumTo2 t (famL cs s x) = x * famN cs s t
  | [], s, x => by
    unfold famL famN sumTo2
    by_cases e : s = t <;> simp [e]
  | c :: cs, s, x => by
    unfold famL famN
    split
    · split
      · rw [famL_sum t cs s, Int.mul_assoc]
      · exact famL_sum t cs s x
    · split
      · rw [sumTo2_app, famL_sum t cs, famL_sum t cs, Int.mul_add, Int.mul_assoc]; omega
      · rw [Int.add_zero]; exact famL_sum t cs s x
def nineP : Nat → Int
  | 0 => 1
  | k + 1 => 9 * nineP k
theorem nineP_pos : ∀ k, 1 ≤ nineP k
  | 0 => by decide
  | k + 1 => by have := nineP_pos k; show 1 ≤ 9 * nineP k; omega
theorem nineP_le {k : Nat} (h : k ≤ 10) : nineP k ≤ 10000000000 := by
  have : ∀ j : Fin 11, nineP j.val ≤ 10000000000 := by decide
  exact this ⟨k, by omega⟩
theorem famL_mem : ∀ (cs : List CH) (s : Nat) (x : Int) (y : Nat × Int), (∀ c ∈ cs, -9 ≤ c.2.2 ∧ c.2.2 ≤ 9) → y ∈ famL cs s x → ∀ B : Int, 0 ≤ B → -B ≤ x → x ≤ B → -(nineP cs.length * B) ≤ y.2 ∧ y.2 ≤ nineP cs.length * B
  | [], s, x, y, _, hy, B, h0, h1, h2 => by
    unfold famL at hy
    simp at hy
    subst hy
    simp [nineP, h1, h2]
  | c :: cs, s, x, y, hc, hy, B, h0, h1, h2 => by
    have hcc := hc c (by simp)
    have hc' : ∀ d ∈ cs, -9 ≤ d.2.2 ∧ d.2.2 ≤ 9 := fun d hd => hc d (by simp [hd])
    have hm : -(9 * B) ≤ x * c.2.2 ∧ x * c.2.2 ≤ 9 * B := by
      rw [Int.mul_comm x c.2.2]
      exact mul_bd9 hcc.1 hcc.2 h1 h2
    have e : nineP (c :: cs).length * B = nineP cs.length * (9 * B) := by
      show 9 * nineP cs.length * B = _
      rw [Int.mul_comm 9, Int.mul_assoc]
    have hp := nineP_pos cs.length
    have hq : nineP cs.length * B ≤ nineP cs.length * (9 * B) := Int.mul_le_mul_of_nonneg_left (by omega) (by omega)
    rw [e]
    have A1 := fun (h : y ∈ famL cs s (x * c.2.2)) => famL_mem cs s _ y hc' h (9 * B) (by omega) hm.1 hm.2
    have A2 := fun (h : y ∈ famL cs s x) => famL_mem cs s _ y hc' h B h0 h1 h2
    have A3 := fun (h : y ∈ famL cs (s ^^^ 2 ^ cFrom c ^^^ 2 ^ cTo c) (x * c.2.2)) => famL_mem cs _ _ y hc' h (9 * B) (by omega) hm.1 hm.2
    unfold famL at hy
    split at hy
    · split at hy
      · exact A1 hy
      · have := A2 hy; omega
    · split at hy
      · rcases List.mem_append.1 hy with hy | hy
        · exact A3 hy
        · have := A2 hy; omega
      · have := A2 hy; omega
theorem sumTo2_bd (t : Nat) {B : Int} (hB : 0 ≤ B) : ∀ (l : List (Nat × Int)), (∀ y ∈ l, -B ≤ y.2 ∧ y.2 ≤ B) → -(B * l.length) ≤ sumTo2 t l ∧ sumTo2 t l ≤ B * l.length
  | [], _ => by simp [sumTo2]
  | y :: l, h => by
    have h1 := sumTo2_bd t hB l (fun z hz => h z (by simp [hz]))
    have h2 := h y (by simp)
    have e : sumTo2 t (y :: l) = (if y.1 = t then y.2 else 0) + sumTo2 t l := by
      unfold sumTo2
      rw [List.foldl_cons, foldl_add]
      split <;> omega
    rw [e, List.length_cons]
    have e2 : B * ((l.length + 1 : Nat) : Int) = B * l.length + B := by rw [Int.natCast_add, Int.mul_add]; omega
    rw [e2]
    split <;> omega

end Go.Proofs.Ytdodchmelepkeaa
end

section
namespace Go.Proofs.Ytdodchmelepkeaa
open Go.RowKit Go.Deep Go.Shelf
attribute [local go_sem] Oper.semAt_some

def Box3 (W : World) (B : Nat) (K : ByteArray) (L V : Int) : Prop := W.heap[B]? = some (.cells #[.string K, .int .i64 L, .int .i64 V] 52 (0, 0))
theorem Box3.lt {W : World} {B : Nat} {K : ByteArray} {L V : Int} (h : Box3 W B K L V) : B < W.heap.size := (Array.getElem?_eq_some_iff.1 h).1
theorem Box3.cells {W : World} {B : Nat} {K : ByteArray} {L V : Int} (h : Box3 W B K L V) : W.cell? ⟨B, 0, none⟩ = some (.string K) ∧ W.cell? ⟨B, 1, none⟩ = some (.int .i64 L) ∧ W.cell? ⟨B, 2, none⟩ = some (.int .i64 V) := by
  have h' : W.heap[B]? = _ := h
  refine ⟨?_, ?_, ?_⟩ <;> (unfold World.cell?; rw [h']; rfl)
theorem Box3.new (W : World) (K : ByteArray) (L V : Int) : Box3 (W.alloc (.cells #[.string K, .int .i64 L, .int .i64 V] 52)) W.heap.size K L V := World.alloc_heap_new W _
theorem Box3.kept {W W' : World} {row : Option Nat} {B : Nat} {K : ByteArray} {L V : Int} (h : Box3 W B K L V) (hg : W.grownBy W' row) (hne : some B ≠ row) : Box3 W' B K L V := (hg.block B h.lt hne).trans h
theorem Box3.alloc {W : World} {B : Nat} {K : ByteArray} {L V : Int} (h : Box3 W B K L V) (o : Obj) : Box3 (W.alloc o) B K L V := h.kept (World.grownBy_alloc W o none) (by simp)
theorem Box3.own {W W' : World} {row : Option Nat} {B : Nat} {K : ByteArray} {L V : Int} (h : Box3 W B K L V) (hg : W.grownBy W' row) (hr : ∀ r, row = some r → ∃ o : Obj, W.heap[r]? = some o ∧ o.isCells = false) : Box3 W' B K L V := h.kept hg (fun e => by
  obtain ⟨o, ho, hc⟩ := hr B e.symm
  have h' : W.heap[B]? = _ := h
  rw [h'] at ho; cases ho; cases hc)
def isC (K : ByteArray) (L : Int) (x : Nat × Nat) : Prop := K.toList = (kS x.1).toList ∧ L = x.2
theorem kS_list : (kS 0).toList = [117] ∧ (kS 1).toList = [100] ∧ (kS 2).toList = [104] := by decide +kernel
theorem kind_some {n : Nat} {K : ByteArray} {L V : Int} {x : Nat × Nat} (hx : x ∈ posTo n n) (h : isC K L x) : kindB n ⟨K, L, V⟩ = true := by
  obtain ⟨k, i⟩ := x
  obtain ⟨h1, h2⟩ := h
  simp only at h1 h2
  subst h2
  obtain ⟨h3, h4⟩ := (posTo_mem (Nat.le_refl n)).1 hx
  obtain ⟨s0, s1, s2⟩ := kS_list
  unfold kindB inB
  simp only
  rcases h4 with rfl | ⟨rfl | rfl, h5⟩
  · rw [s2] at h1
    rw [if_pos h1]
    exact decide_eq_true ⟨by omega, by omega⟩
  · rw [s0] at h1
    rw [if_neg (by rw [h1]; decide), if_pos (.inl h1)]
    exact decide_eq_true ⟨by omega, by omega⟩
  · rw [s1] at h1
    rw [if_neg (by rw [h1]; decide), if_pos (.inr h1)]
    exact decide_eq_true ⟨by omega, by omega⟩
theorem kind_none {n : Nat} {K : ByteArray} {L V : Int} (h : ∀ x ∈ posTo n n, ¬ isC K L x) : kindB n ⟨K, L, V⟩ = false := by
  obtain ⟨s0, s1, s2⟩ := kS_list
  cases e : kindB n ⟨K, L, V⟩ with
  | false => rfl
  | true =>
    exfalso
    unfold kindB inB at e
    simp only at e
    by_cases hH : K.toList = [104]
    · rw [if_pos hH] at e
      have e := of_decide_eq_true e
      exact h (2, L.toNat) ((posTo_mem (Nat.le_refl n)).2 ⟨by omega, .inl rfl⟩) ⟨by rw [s2]; exact hH, by show L = ((L.toNat : Nat) : Int); omega⟩
    · rw [if_neg hH] at e
      by_cases hu : K.toList = [117]
      · rw [if_pos (.inl hu)] at e
        have e := of_decide_eq_true e
        exact h (0, L.toNat) ((posTo_mem (Nat.le_refl n)).2 ⟨by omega, .inr ⟨.inl rfl, by omega⟩⟩) ⟨by rw [s0]; exact hu, by show L = ((L.toNat : Nat) : Int); omega⟩
      · by_cases hd : K.toList = [100]
        · rw [if_pos (.inr hd)] at e
          have e := of_decide_eq_true e
          exact h (1, L.toNat) ((posTo_mem (Nat.le_refl n)).2 ⟨by omega, .inr ⟨.inr rfl, by omega⟩⟩) ⟨by rw [s1]; exact hd, by show L = ((L.toNat : Nat) : Int); omega⟩
        · rw [if_neg (fun h => h.elim hu hd)] at e
          cases e

set_option maxRecDepth 100000 in
set_option maxHeartbeats 1000000 in
theorem isIn_any (K : ByteArray) (L V : Int) (n : Nat) (hn2 : 2 ≤ n) (hn5 : n ≤ 5) (w : World) :
    Calls Try.prog 49 #[.agg #[.string K, .int .i64 L, .int .i64 V], .int .i64 n] w fun e w' => e = .returned (.bool (chipB n ⟨K, L, V⟩)) ∧ w.Since w.heap.size w' := by
  refine (callsIn_wide (n := 9)).1 ?_
  refine callsIn_of_wp_marks Try.func49 rfl trivial ?_ rfl
  simp only [Try.ntmps49, List.size_toArray, List.length_cons, List.length_nil, Nat.reduceAdd, Nat.reduceSub, Array.replicate_succ, Array.replicate_zero, List.push_toArray, List.append_toArray, List.nil_append, List.cons_append]
  obtain ⟨d1, d2, d3⟩ := chip_box w K L V 52
  gi_wp2_with (first
    | (refine ⟨trivial, ?_⟩; gi_at_call 86; refine (callsIn_wide.2 (possibleChips_any _ _ _)).mono ?_; rintro e w' ⟨rfl, rfl⟩))
  obtain ⟨W0, hW0⟩ : ∃ W0, W0 = ((((w.alloc (.cells #[.string K, .int .i64 L, .int .i64 V] 52)).alloc (.cells #[.bool false] 4)).alloc (.cells #[.int .i64 n] 3)).alloc (.cells #[.int .i64 V] 3)) := ⟨_, rfl⟩
  rw [← hW0]
  have hsz0 : W0.heap.size = w.heap.size + 4 := by rw [hW0]; simp
  have hB0 : Below w.heap.size w W0 := by rw [hW0]; exact ((((Below.refl _ w).alloc (Nat.le_refl _) _).alloc (by simp) _).alloc (by simp; omega) _).alloc (by simp; omega) _
  have b3 : Box3 W0 w.heap.size K L V := by rw [hW0]; exact (((Box3.new w K L V).alloc _).alloc _).alloc _
  have bR : Boxed W0 (w.heap.size + 1) 4 (.bool false) := by
    have h := Boxed.new (w.alloc (.cells #[.string K, .int .i64 L, .int .i64 V] 52)) 4 (.bool false)
    rw [World.size_alloc] at h
    rw [hW0]; exact (h.alloc _).alloc _
  have bN : Boxed W0 (w.heap.size + 1 + 1) 3 (.int .i64 n) := by
    have h := Boxed.new ((w.alloc (.cells #[.string K, .int .i64 L, .int .i64 V] 52)).alloc (.cells #[.bool false] 4)) 3 (.int .i64 n)
    rw [World.size_alloc, World.size_alloc] at h
    rw [hW0]; exact h.alloc _
  have bV : Boxed W0 (w.heap.size + 1 + 1 + 1) 3 (.int .i64 V) := by
    have h := Boxed.new (((w.alloc (.cells #[.string K, .int .i64 L, .int .i64 V] 52)).alloc (.cells #[.bool false] 4)).alloc (.cells #[.int .i64 n] 3)) 3 (.int .i64 V)
    rw [World.size_alloc, World.size_alloc, World.size_alloc] at h
    rw [hW0]; exact h
  clear hW0 d1 d2 d3
  refine wpIn_rangeFunc_ownH (F := Fence.wide) (n := 9) rfl (by omega) (gf := 105) (lb := #[.pointer (some ⟨w.heap.size + 1 + 1, 0, none⟩), .pointer (some ⟨w.heap.size + 1 + 1 + 1, 0, none⟩)]) rfl trivial (enters_of Try.func105 (by kernel_rfl) rfl)
    (possible_stops 8 (by omega) (w.heap.size + 1 + 1) (w.heap.size + 1 + 1 + 1) n W0.heap.size V ⟨by omega, hn5⟩ W0 (Nat.le_refl _) (by omega) (by omega) bN.cell bV.cell)
    (fun h k => h.trans k) (belowK_b (Nat.le_refl _)) (Below.refl _ _) (fun _ => rfl)
    (fun pre W => (Box3 W w.heap.size K L V ∧ Boxed W (w.heap.size + 1) 4 (.bool false) ∧ w.heap.size + 4 ≤ W.heap.size ∧ ∀ x ∈ pre, ¬ isC K L x) ∧ Below w.heap.size w W)
    (fun c pre W => (c = .ret ∧ Boxed W (w.heap.size + 1) 4 (.bool (inB V (-9) 9)) ∧ ∃ x ∈ pre, isC K L x) ∧ Below w.heap.size w W)
    (OwnFrom.and (Own.from (fun s A B row hs hg hr => ⟨hs.1.own hg hr, boxed_own (w.heap.size + 1) 4 (fun (_ : Unit) => Value.bool false) () A B row hs.2.1 hg hr, Nat.le_trans hs.2.2.1 hg.size, hs.2.2.2⟩) _) (ownFrom_below (Nat.le_refl _) (by omega)))
    (fun c => OwnFrom.and (Own.from (fun s A B row hs hg hr => ⟨hs.1, boxed_own (w.heap.size + 1) 4 (fun (_ : Unit) => Value.bool (inB V (-9) 9)) () A B row hs.2.1 hg hr, hs.2.2⟩) _) (ownFrom_below (Nat.le_refl _) (by omega)))
    ⟨⟨b3, bR, by omega, by simp⟩, hB0⟩
    (fun x a' W => ∃ Bx, w.heap.size + 4 ≤ Bx ∧ Box3 W Bx (kS x.1) (x.2 : Int) V ∧ a' = { tmps := #[.agg #[.string K, .int .i64 L, .int .i64 V], .int .i64 n, .pointer (some ⟨w.heap.size, 0, none⟩), undef, .pointer (some ⟨w.heap.size + 1, 0, none⟩), .pointer (some ⟨Bx, 0, none⟩), .int .i64 n, .pointer (some ⟨w.heap.size, 2, none⟩), .int .i64 V, .func (.func 105) #[] #[.pointer (some ⟨w.heap.size + 1 + 1, 0, none⟩), .pointer (some ⟨w.heap.size + 1 + 1 + 1, 0, none⟩)], .agg #[.string (kS x.1), .int .i64 (x.2 : Int), .int .i64 V], undef, undef, undef, undef, undef, undef], defers := [] })
    (fun x a' _ X Y row hs hg hr => by obtain ⟨Bx, h1, h2, h3⟩ := hs; exact ⟨Bx, h1, h2.own hg (fun r e => (hr r e).2), h3⟩)
    ?assign ?body ?done ?stop
  case assign =>
    rintro l2 pre x W Kq ⟨⟨h1, h2, h3, h4⟩, hb⟩ hK
    simp only [encC]
    gi_wp2
    exact hK _ _ ((KeepsOthers.alloc _ _).from _) ((Below.refl _ _).alloc (by omega) _) ⟨⟨h1.alloc _, h2.alloc _, by simp; omega, h4⟩, hb.alloc (by omega) _⟩ ⟨W.heap.size, h3, Box3.new W _ _ _, rfl⟩
  case body =>
    rintro l2 pre x a' W hl ⟨r, hr⟩ ⟨⟨h1, h2, h3, h4⟩, hb⟩ ⟨Bx, hBx, bX, rfl⟩ hlt
    obtain ⟨c1, c2, c3⟩ := h1.cells
    obtain ⟨e1, e2, e3⟩ := bX.cells
    have cR := h2.cell
    have fR := h2.frozen
    have HF := Lib.hid (fun (h : ¬ isC K L x) => show ∀ y ∈ pre ++ [x], ¬ isC K L y from fun y hy => by
      rcases List.mem_append.1 hy with hy | hy
      · exact h4 y hy
      · simp at hy; subst hy; exact h)
    have HT := Lib.hid (fun (h : isC K L x) => show ∃ y ∈ pre ++ [x], isC K L y from ⟨x, by simp, h⟩)
    have H1 := Lib.hid h1
    have H2 := Lib.hid h2
    have HB := Lib.hid hb
    clear h1 h2 h4 hb
    by_cases hk : K.toList = (kS x.1).toList
    · by_cases hL : L = x.2
      · have HC := Lib.hid (HT.out ⟨hk, hL⟩)
        have hL' : (L == (x.2 : Int)) = true := by simpa using hL
        have HLL := Lib.hid hL
        clear hL
        gi_wp2_with (first
          | (refine ⟨trivial, ?_⟩; gi_at_call 46; refine (CallsIn.inRound l2 (callsIn_wide.2 (inRange_any _ _ _ _))).mono ?_; rintro e w' ⟨rfl, rfl⟩))
        exact ⟨(KeepsOthers.setCell _ _ _).from _, ⟨rfl, H2.out.set _, HC.out⟩, HB.out.setCell (p := ⟨w.heap.size + 1, 0, none⟩) (by simp) _⟩
      · have HC := Lib.hid (HF.out (fun h => hL h.2))
        have hL' : (L == (x.2 : Int)) = false := by simpa using hL
        gi_wp2_with fail
        exact ⟨(KeepsOthers.refl _).from _, Below.refl _ _, ⟨H1.out, H2.out, h3, HC.out⟩, HB.out⟩
    · have HC := Lib.hid (HF.out (fun h => hk h.1))
      have hk' : (K.toList == (kS x.1).toList) = false := by simpa using hk
      gi_wp2_with fail
      exact ⟨(KeepsOthers.refl _).from _, Below.refl _ _, ⟨H1.out, H2.out, h3, HC.out⟩, HB.out⟩
  case done =>
    rintro D ys W hD rfl ⟨⟨h1, h2, h3, h4⟩, hb⟩ hK
    have hv : chipB n ⟨K, L, V⟩ = false := by unfold chipB; rw [kind_none h4, Bool.false_and]
    have HV := Lib.hid hv
    have cR := h2.cell
    have fR := h2.frozen
    have H2 := Lib.hid (h2.set (.bool false))
    have HB := Lib.hid hb
    clear h1 h2 h4 hv hb b3 bR bN bV hB0
    gi_wp2
    have hK' := (KeepsOthers.setCell W ⟨w.heap.size + 1, 0, none⟩ (.bool false)).same D _ hK rfl
    refine ⟨by simp, .inl ⟨_, _, rfl, run_takeDeferred hK', ?_⟩⟩
    have hc5 := (H2.out.kept (grownBy_putObj' _ D (.deferred none)) (fun e => by injection e; omega)).cell
    refine ⟨.bool false, ?_, ret_bool HV.out.symm, below_since ((HB.out.setCell (p := ⟨w.heap.size + 1, 0, none⟩) (by simp) _).trans (belowK_b (w := w) (Nat.le_refl _) _ D _ _ (by omega) hK' rfl rfl))⟩
    simp [results, Try.f49, go_sem, hc5]
  case stop =>
    rintro D c pre W hD hpre ⟨⟨rfl, h2, x, hx, hc⟩, hb⟩ hK
    have hv : chipB n ⟨K, L, V⟩ = inB V (-9) 9 := by unfold chipB; rw [kind_some (hpre x hx) hc, Bool.true_and]
    have HV := Lib.hid hv
    have H2 := Lib.hid h2
    have HB := Lib.hid hb
    clear h2 hv hb b3 bR bN bV hB0
    gi_wp2
    refine ⟨by simp, .inl ⟨_, _, rfl, run_takeDeferred hK, ?_⟩⟩
    have hc5 := (H2.out.kept (grownBy_putObj' _ D (.deferred none)) (fun e => by injection e; omega)).cell
    refine ⟨.bool (inB V (-9) 9), ?_, ret_bool HV.out.symm, below_since (HB.out.trans (belowK_b (w := w) (Nat.le_refl _) W D _ _ (by omega) hK rfl rfl))⟩
    simp [results, Try.f49, go_sem, hc5]

end Go.Proofs.Ytdodchmelepkeaa
end

section
namespace Go.Proofs.Ytdodchmelepkeaa
open Go.RowKit Go.Deep

set_option maxRecDepth 100000 in
set_option maxHeartbeats 400000 in
theorem ends_h (K : ByteArray) (L : Nat) (V : Int) (w : World) (hK : K.toList = [104]) :
    Calls Try.prog 93 #[.agg #[.string K, .int .i64 L, .int .i64 V]] w fun e w' => e = .returned (.tuple #[.int .i64 ((L : Nat) : Int), .int .i64 ((L : Nat) : Int)]) ∧ w.Since w.heap.size w' := by
  obtain ⟨d1, d2, d3⟩ := chip_box w K L V 52
  have HS := Lib.hid ((World.Since.refl w.heap.size w).alloc (Nat.le_refl _) (.cells #[.string K, .int .i64 L, .int .i64 V] 52))
  have hq1 : (K.toList == [117]) = false := by rw [hK]; decide
  have hq2 : (K.toList == [100]) = false := by rw [hK]; decide
  go_enter Try.func93, Try.ntmps93
  go_wp2
  go_region
  all_goals
    go_wp2
    go_ret2
    exact ⟨rfl, HS.out.drew⟩

set_option maxRecDepth 100000 in
set_option maxHeartbeats 400000 in
theorem ends_u (K : ByteArray) (L : Nat) (V : Int) (w : World) (hL : L ≤ 10) (hK : K.toList = [117]) :
    Calls Try.prog 93 #[.agg #[.string K, .int .i64 L, .int .i64 V]] w fun e w' => e = .returned (.tuple #[.int .i64 ((L : Nat) : Int), .int .i64 (((L + 1) : Nat) : Int)]) ∧ w.Since w.heap.size w' := by
  obtain ⟨d1, d2, d3⟩ := chip_box w K L V 52
  have HS := Lib.hid ((World.Since.refl w.heap.size w).alloc (Nat.le_refl _) (.cells #[.string K, .int .i64 L, .int .i64 V] 52))
  have hw1 : IntKind.i64.wrap ((L : Int) + 1) = (L : Int) + 1 := IntWalk.i64_in _ ⟨by omega, by omega⟩
  go_enter Try.func93, Try.ntmps93
  go_wp2
  go_region
  all_goals
    go_wp2
    go_ret2
    exact ⟨rfl, HS.out.drew⟩

set_option maxRecDepth 100000 in
set_option maxHeartbeats 400000 in
theorem ends_d (K : ByteArray) (L : Nat) (V : Int) (w : World) (hL : L ≤ 10) (hK : K.toList = [100]) :
    Calls Try.prog 93 #[.agg #[.string K, .int .i64 L, .int .i64 V]] w fun e w' => e = .returned (.tuple #[.int .i64 (((L + 1) : Nat) : Int), .int .i64 ((L : Nat) : Int)]) ∧ w.Since w.heap.size w' := by
  obtain ⟨d1, d2, d3⟩ := chip_box w K L V 52
  have HS := Lib.hid ((World.Since.refl w.heap.size w).alloc (Nat.le_refl _) (.cells #[.string K, .int .i64 L, .int .i64 V] 52))
  have hq1 : (K.toList == [117]) = false := by rw [hK]; decide
  have hw1 : IntKind.i64.wrap ((L : Int) + 1) = (L : Int) + 1 := IntWalk.i64_in _ ⟨by omega, by omega⟩
  go_enter Try.func93, Try.ntmps93
  go_wp2
  go_region
  all_goals
    go_wp2
    go_ret2
    exact ⟨rfl, HS.out.drew⟩

theorem ends_any (c : RC) (w : World) (hok : RCok c) :
    Calls Try.prog 93 #[.agg #[.string c.k, .int .i64 c.l, .int .i64 c.w]] w fun e w' => e = .returned (.tuple #[.int .i64 (chR (toC c) : Nat), .int .i64 (chK (toC c) : Nat)]) ∧ w.Since w.heap.size w' := by
  obtain ⟨K, l, V⟩ := c
  obtain ⟨hk, hl, hv⟩ := hok
  simp only at hk hl hv
  obtain ⟨L, rfl⟩ : ∃ L : Nat, l = L := ⟨l.toNat, by omega⟩
  rcases hk with h | h | h
  · rw [toC_h h]
    exact ends_h K L V w h
  · have e : toC ⟨K, (L : Int), V⟩ = (0, L, V) := by unfold toC; simp [h]
    rw [e]
    exact ends_u K L V w (by omega) h
  · have e : toC ⟨K, (L : Int), V⟩ = (1, L, V) := by unfold toC; simp [h]
    rw [e]
    exact ends_d K L V w (by omega) h

set_option maxHeartbeats 400000 in
theorem chipTurned_any (c : RC) (w : World) :
    Calls Try.prog 74 #[.agg #[.string c.k, .int .i64 c.l, .int .i64 c.w]] w fun e w' => e = .returned (.agg #[.string (trC c).k, .int .i64 (trC c).l, .int .i64 (trC c).w]) ∧ w.Since w.heap.size w' := by
  obtain ⟨K, L, V⟩ := c
  obtain ⟨d1, d2, d3⟩ := chip_box w K L V 52
  have HS := Lib.hid (fun (Y : ByteArray) (Z : Obj) => (((World.Since.refl w.heap.size w).alloc (Nat.le_refl _) (.cells #[.string Y, .int .i64 L, .int .i64 V] 52)).alloc (by simp) Z))
  unfold trC
  simp only
  by_cases hu : K.toList = [117]
  · rw [if_pos hu]
    go_enter Try.func74, Try.ntmps74
    go_wp2
    exact bodyPost_ret (v := .agg #[.string kD, .int .i64 L, .int .i64 V]) (by simp [results, Try.f74, go_sem]) rfl ⟨rfl, HS.out _ _⟩
  · rw [if_neg hu]
    have hub : (K.toList == [117]) = false := by simpa using hu
    by_cases hd : K.toList = [100]
    · rw [if_pos hd]
      clear hu
      go_enter Try.func74, Try.ntmps74
      go_wp2
      exact bodyPost_ret (v := .agg #[.string kU, .int .i64 L, .int .i64 V]) (by simp [results, Try.f74, go_sem]) rfl ⟨rfl, HS.out _ _⟩
    · rw [if_neg hd]
      have hdb : (K.toList == [100]) = false := by simpa using hd
      clear hu hd
      go_enter Try.func74, Try.ntmps74
      go_wp2
      exact bodyPost_ret (v := .agg #[.string K, .int .i64 L, .int .i64 V]) (by simp [results, Try.f74, go_sem]) rfl ⟨rfl, HS.out _ _⟩

set_option maxRecDepth 100000 in
set_option maxHeartbeats 400000 in
theorem chipTable_any (c : RC) (n : Nat) (w : World) (h1 : 1 ≤ n) (h5 : n ≤ 5) (hok : RCok c ∧ chOk n (toC c)) :
    Calls Try.prog 58 #[.agg #[.string c.k, .int .i64 c.l, .int .i64 c.w], .int .i64 n] w fun e w' => ∃ a cap, e = .returned (.slice a n cap) ∧ w.Since w.heap.size w' ∧ MatR w' a (chT n (chR (toC c)) (chK (toC c)) (toC c).2.2) := by
  have EE := fun (W : World) => ends_any c W hok.1
  obtain ⟨hr, hk⟩ := chRK hok.2
  rw [toC_w]
  obtain ⟨r, hrr⟩ : ∃ r, chR (toC c) = r := ⟨_, rfl⟩
  obtain ⟨k, hkk⟩ : ∃ k, chK (toC c) = k := ⟨_, rfl⟩
  rw [hrr] at hr ⊢
  rw [hkk] at hk ⊢
  simp only [hrr, hkk] at EE
  obtain ⟨K, L, V⟩ := c
  simp only at EE ⊢
  replace EE := Lib.hid EE
  obtain ⟨d1, d2, d3⟩ := chip_box w K L V 52
  have HS := Lib.hid ((World.Since.refl w.heap.size w).alloc (Nat.le_refl _) (.cells #[.string K, .int .i64 L, .int .i64 V] 52))
  have E := Lib.hid (fun (W : World) => unitTable_any n (by omega) W)
  have HUL := Lib.hid (unitL_length n n)
  have HUR := Lib.hid (unit_row hr)
  have hmix : Try.prog.follows .mixedOrders = true := by kernel_rfl
  clear hrr hkk hok
  go_enter Try.func58, Try.ntmps58
  go_wp2_with (first
    | (go_at_call 56; refine (E.out _).mono ?_; rintro e w1 ⟨rfl, hs1, ho1⟩; have e2 := (hs1.cell (a := ⟨w.heap.size, 1, none⟩) (by simp)).trans d2; have e3 := (hs1.cell (a := ⟨w.heap.size, 2, none⟩) (by simp)).trans d3; have e1 := (hs1.cell (a := ⟨w.heap.size, 0, none⟩) (by simp)).trans d1; have HSA := Lib.hid (HS.out.trans (since_mono hs1 HS.out.size)); have HO1 := Lib.hid ho1; clear hs1 ho1)
    | (go_at_call 93; refine (EE.out _).mono ?_; rintro e w2 ⟨rfl, hs2⟩; obtain ⟨b, g, c, hbq, t1, t2, t3, t4, t5⟩ := (HO1.out.since hs2).put (r := r) (k := k) (by rw [HUL.out]; exact hr) (by rw [HUR.out]; exact hk); rw [HUR.out] at t1; simp only [Option.some.injEq, Addr.mk.injEq, and_true, World.size_alloc] at hbq; subst hbq; rw [World.size_alloc] at t5; have HT5 := Lib.hid t5; have f3 := (hs2.cell (a := ⟨w.heap.size, 2, none⟩) (World.block_lt_of_cell? _ _ e3)).trans e3; have HSB := Lib.hid (HSA.out.trans (since_mono hs2 HSA.out.size)); have HG := Lib.hid t4; clear hs2 t5 t4 e1 e2 e3))
  go_still_tail 8, hmix
  go_wp2
  go_ret
  exact ⟨_, _, rfl, (HSB.out.setCell (a := ⟨g, k, none⟩) (by have := HG.out.1; simp at this; show w.heap.size ≤ g; omega) _).drew, HT5.out V⟩

end Go.Proofs.Ytdodchmelepkeaa
end

section
namespace Go.Proofs.Ytdodchmelepkeaa
open Go.RowKit Go.Deep Go.Shelf

def FromB {β : Type} (B : Nat) (J : β → World → Prop) : Prop := ∀ s W W' row, J s W → W.grownBy W' row → (∀ r, row = some r → B ≤ r) → J s W'
theorem FromB.and {β : Type} {B : Nat} {I J : β → World → Prop} (h : FromB B I) (k : FromB B J) : FromB B (fun s W => I s W ∧ J s W) := fun s W W' row hs hg hr => ⟨h s W W' row hs.1 hg hr, k s W W' row hs.2 hg hr⟩
theorem FromB.alloc {β : Type} {B : Nat} {J : β → World → Prop} (h : FromB B J) {s : β} {W : World} (o : Obj) (hs : J s W) : J s (W.alloc o) := h s W _ none hs (World.grownBy_alloc W o none) (fun r e => by cases e)
theorem FromB.put {β : Type} {B : Nat} {J : β → World → Prop} (h : FromB B J) {s : β} {W : World} {l : Nat} (o : Obj) (hs : J s W) (hl : B ≤ l) : J s (W.putObj l o) := h s W _ (some l) hs (grownBy_putObj' W l o) (fun r e => by cases e; exact hl)

structure Keeps (own : Nat → Prop) (W W' : World) : Prop where
  size : W.heap.size ≤ W'.heap.size
  same : ∀ k o, ¬ own k → W.heap[k]? = some o → W'.heap[k]? = some o
theorem Keeps.refl (own : Nat → Prop) (W : World) : Keeps own W W := ⟨Nat.le_refl _, fun _ _ _ h => h⟩
theorem Keeps.trans {own : Nat → Prop} {A B C : World} (h : Keeps own A B) (k : Keeps own B C) : Keeps own A C := ⟨Nat.le_trans h.size k.size, fun i o hi ho => k.same i o hi (h.same i o hi ho)⟩
theorem Keeps.mono {own own' : Nat → Prop} {A B : World} (h : Keeps own A B) (hw : ∀ k, own k → own' k) : Keeps own' A B := ⟨h.size, fun k o hk ho => h.same k o (fun h => hk (hw k h)) ho⟩
theorem Keeps.grown {own : Nat → Prop} {A B : World} {row : Option Nat} (h : A.grownBy B row) (hr : ∀ r, row = some r → own r) : Keeps own A B :=
  ⟨h.size, fun k _ hk ho => (h.block k (Array.getElem?_eq_some_iff.1 ho).1 (fun e => hk (hr k e.symm))).trans ho⟩
theorem Keeps.cell {own : Nat → Prop} {A B : World} (h : Keeps own A B) {a : Addr} {v : Value} (ha : ¬ own a.block) (hc : A.cell? a = some v) : B.cell? a = some v := by
  obtain ⟨o, ho, _⟩ := cells_of_cell hc
  have := h.same _ _ ha ho
  unfold World.cell? at hc ⊢
  rw [ho] at hc
  rw [this]
  exact hc

def SeqC {α : Type} (F : Fence) (n : Nat) (P : Program) (g : Nat) (lb : Array Value) (encs : α → Array Value) (Px : α → World → Prop) (need : Nat → Prop) (S : List α → Prop) (N : Nat) (w : World) : Prop :=
  ∀ (l : Nat) (J : List α → World → Prop) (own : Nat → Prop) (W : World), Below w.heap.size w W → (∀ k, own k → k < W.heap.size ∧ ¬ need k) → FromB W.heap.size J →
    (∀ pre x W1, J pre W1 → Px x W1 → pre.length < N → YieldAt F (n - 1) P l (encs x) W1 fun e W' => e = .returned (.bool true) ∧ J (pre ++ [x]) W' ∧ Keeps own W1 W') →
    J [] W →
    CallsIn F n P g (#[.func (.yield l) #[] #[]] ++ lb) W fun e W' => (∃ v, e = .returned v) ∧ ∃ xs, S xs ∧ J xs W'

def roundC {α : Type} (own : Nat → Prop) (I : List α → World → Prop) (xs : List α) (W : World) : Exit → Act → World → Prop
  | .normal, _, W' => Keeps own W W' ∧ I xs W'
  | _, _, _ => False

theorem Keeps.put (own : Nat → Prop) (W : World) {l : Nat} (o : Obj) (hl : own l) : Keeps own W (W.putObj l o) := Keeps.grown (grownBy_putObj' W l o) (fun r e => by cases e; exact hl)

set_option maxHeartbeats 1000000 in
theorem rangeC {F : Fence} {n : Nat} {P : Program} {w : World} {α : Type} {g : Operand} {ps : Array Tmp} {assign body : Code} {Q : Exit → Act → World → Prop} {a : Act}
    (hro : F.round = none) (h1 : 1 ≤ n) {gf : Nat} {lb : Array Value} (hg : a.eval g = .func (.func gf) #[] lb) (hFg : F.fn gf) (eg : ∀ args w, (callFunc gf args).run P w = .ok (.enter gf args) w)
    {encs : α → Array Value} {Px : α → World → Prop} {need : Nat → Prop} {S : List α → Prop} {N : Nat} (hseq : SeqC F (n - 1) P gf lb encs Px need S N w) (hps : ∀ x, (encs x).size = ps.size)
    (hPx : ∀ x W l o o', Px x W → W.heap[l]? = some o → o.isCells = false → Px x (W.putObj l o'))
    (own : Nat → Prop) (hown : ∀ k, own k → k < w.heap.size ∧ ¬ need k) (hneed : ∀ k, need k → k < w.heap.size)
    (I : List α → World → Prop) (hI : FromB w.heap.size I) (h0 : I [] w) (a₁ : α → Act)
    (hassign : ∀ (l : Nat) (x : α) (W : World) (K : Act → World → Prop), K (a₁ x) W →
      assign.wpIn (F.inRound l) (n - 1 - 1) P (Exit.then K (fun _ _ _ => False)) { tmps := (ps.zip (encs x)).foldl (fun t (p, v) => t.setIfInBounds p v) a.tmps, defers := [] } W)
    (hbody : ∀ (l : Nat) (pre : List α) (x : α) (W : World), w.heap.size ≤ l → I pre W → Px x W → pre.length < N → body.wpIn (F.inRound l) (n - 1 - 1) P (roundC own I (pre ++ [x]) W) (a₁ x) W)
    (hdone : ∀ (D : Nat) (xs : List α) (W : World), w.heap.size ≤ D → S xs → I xs W → W.heap[D]? = some (.deferred (some [])) → Q .normal { a with defers := { target := .collected D, args := #[] } :: a.defers } W) :
    (Code.rangeFunc g ps assign body).wpIn F n P Q a w := by
  refine wpIn_rangeFunc fun fn hfn => ?_
  rw [hro]
  -- the two blocks of the loop: w.heap.size for deferred calls, L for its record
  obtain ⟨L, hL⟩ : ∃ L, L = w.heap.size + 1 := ⟨_, rfl⟩
  let R : LoopState → Option Code → Obj := fun st pe => .loop { state := st, pending := pe, fn := fn, tmps := a.tmps, params := ps, assign := assign, body := body, defers := w.heap.size }
  obtain ⟨V, hV⟩ : ∃ V, V = (w.alloc (.deferred (some []))).alloc (R .ready none) := ⟨_, rfl⟩
  have sV : V.heap.size = L + 1 := by rw [hV, hL]; simp
  have lV : V.heap[L]? = some (R .ready none) := by
    have := World.alloc_heap_new (w.alloc (.deferred (some []))) (R .ready none)
    rw [World.size_alloc] at this
    rw [hV, hL]; exact this
  have dV : V.heap[w.heap.size]? = some (.deferred (some [])) := by
    rw [hV]; exact (Below.heap_alloc _ _ _ (by simp)).trans (World.alloc_heap_new w _)
  have bV : Below w.heap.size w V := by rw [hV]; exact ((Below.refl _ w).alloc (Nat.le_refl _) _).alloc (by simp) _
  have iV : I [] V := by rw [hV]; exact hI.alloc _ (hI.alloc _ h0)
  have hen : (Instr.enterLoop fn a.tmps ps assign body none).run P w = .ok (L, [{ target := .collected w.heap.size, args := #[] }]) V := by
    rw [hV, hL]; exact run_enterLoop_outer _ _ _ _ _
  clear hV
  have hrec : FromB V.heap.size (fun (_ : Unit) W => W.heap[L]? = some (R .ready none) ∧ W.heap[w.heap.size]? = some (.deferred (some []))) := fun _ A B row hs hgr hr =>
    ⟨(hgr.block L (Array.getElem?_eq_some_iff.1 hs.1).1 (fun e => by have := hr L e.symm; omega)).trans hs.1, (hgr.block _ (Array.getElem?_eq_some_iff.1 hs.2).1 (fun e => by have := hr _ e.symm; omega)).trans hs.2⟩
  refine ⟨L, _, V, { target := .fn (.func gf) lb, args := #[.func (.yield L) #[] #[]] }, V, gf, #[.func (.yield L) #[] #[]] ++ lb, V, hen, ?_, ?_, ?_, fun _ => h1, ?_⟩
  · simp only [resolve, hg]
    simp [go_sem]
  · intro f' hf'
    simp [Target.leads] at hf'
    subst hf'
    exact hFg
  · simp [invoke, go_sem, eg]
  refine (hseq L (fun pre W => I pre W ∧ W.heap[L]? = some (R .ready none) ∧ W.heap[w.heap.size]? = some (.deferred (some [])))
    (fun k => own k ∨ k = L) V bV ?_ ?_ ?_ ⟨iV, lV, dV⟩).mono ?_
  · rintro k (hk | rfl)
    · exact ⟨by have := (hown k hk).1; omega, (hown k hk).2⟩
    · exact ⟨by omega, fun h => by have := hneed _ h; omega⟩
  · intro s A B row hs hgr hr
    exact ⟨hI s A B row hs.1 hgr (fun r e => by have := hr r e; omega), hrec () A B row hs.2 hgr hr⟩
  · rintro pre x W ⟨hi, hl, hd⟩ hpx hlen
    have lt : L < W.heap.size := (Array.getElem?_eq_some_iff.1 hl).1
    refine ⟨fn, _, assign, body, run_yield hl (hps x), roundIn_of_wpIn hfn (hassign L x W _ ⟨_, run_beginRound hl rfl, ?_⟩)⟩
    obtain ⟨X, hX⟩ : ∃ X, X = W.putObj L (R .busy none) := ⟨_, rfl⟩
    have lX : X.heap[L]? = some (R .busy none) := by rw [hX]; exact World.putObj_heap_same lt
    have dX : X.heap[w.heap.size]? = some (.deferred (some [])) := by rw [hX]; exact (World.putObj_heap_other (by omega)).trans hd
    have iX : I pre X := by rw [hX]; exact hI.put _ hi (by omega)
    have pX : Px x X := by rw [hX]; exact hPx x W L _ _ hpx hl rfl
    have kX : Keeps (fun k => own k ∨ k = L) W X := by rw [hX]; exact Keeps.put _ W _ (.inr rfl)
    have hno : ¬ own L := fun h => by have := (hown _ h).1; omega
    have hno2 : ¬ own w.heap.size := fun h => by have := (hown _ h).1; omega
    refine wpIn_mono (by rw [← hX]; exact hbody L pre x X (by omega) iX pX hlen) ?_
    rintro e b Y hp
    cases e with
    | normal =>
      have lY := hp.1.same _ _ hno lX
      have dY := hp.1.same _ _ hno2 dX
      exact ⟨_, _, run_endRound none lY, rfl, ⟨hI.put _ hp.2 (by omega), World.putObj_heap_same (Array.getElem?_eq_some_iff.1 lY).1, (World.putObj_heap_other (by omega)).trans dY⟩, (kX.trans (hp.1.mono fun _ h => .inl h)).trans (Keeps.put _ Y _ (.inr rfl))⟩
    | ret => exact hp.elim
    | exit id => exact hp.elim
    | goto t => exact hp.elim
    | panic ch => exact hp.elim
    | outgrown => exact hp.elim
  · rintro e Y ⟨⟨v, rfl⟩, xs, hS, hi, hl, hd⟩
    exact ⟨none, _, run_endLoop hl (by simp), hdone _ xs _ (Nat.le_refl _) hS (hI.put _ hi (by omega)) ((World.putObj_heap_other (by omega)).trans hd)⟩

end Go.Proofs.Ytdodchmelepkeaa
end

section
namespace Go.Proofs.Ytdodchmelepkeaa
open Go.RowKit Go.Deep Go.Shelf

def SeqE {α : Type} (F : Fence) (n : Nat) (P : Program) (g : Nat) (lb : Array Value) (encs : α → Array Value) (Px : α → World → Prop) (need : Nat → Prop) (S Sp : List α → Prop) (N : Nat) (w : World) : Prop :=
  ∀ (l : Nat) (J Jx : List α → World → Prop) (own : Nat → Prop) (W : World), Below w.heap.size w W → (∀ k, own k → k < W.heap.size ∧ ¬ need k) → FromB W.heap.size J → FromB W.heap.size Jx →
    (∀ pre x W1, J pre W1 → Px x W1 → pre.length < N → YieldAt F (n - 1) P l (encs x) W1 fun e W' => (e = .returned (.bool true) ∧ J (pre ++ [x]) W' ∧ Keeps own W1 W') ∨ (e = .returned (.bool false) ∧ Jx (pre ++ [x]) W' ∧ Keeps own W1 W')) →
    J [] W →
    CallsIn F n P g (#[.func (.yield l) #[] #[]] ++ lb) W fun e W' => (∃ v, e = .returned v) ∧ ((∃ xs, S xs ∧ J xs W') ∨ (∃ pre, Sp pre ∧ Jx pre W'))

def roundE {α : Type} (own : Nat → Prop) (I : List α → World → Prop) (Ix : Code → List α → World → Prop) (xs : List α) (W : World) : Exit → Act → World → Prop
  | .normal, _, W' => Keeps own W W' ∧ I xs W'
  | .ret, _, W' => Keeps own W W' ∧ Ix .ret xs W'
  | _, _, _ => False

set_option maxHeartbeats 1000000 in
theorem rangeE {F : Fence} {n : Nat} {P : Program} {w : World} {α : Type} {g : Operand} {ps : Array Tmp} {assign body : Code} {Q : Exit → Act → World → Prop} {a : Act}
    (hro : F.round = none) (h1 : 1 ≤ n) {gf : Nat} {lb : Array Value} (hg : a.eval g = .func (.func gf) #[] lb) (hFg : F.fn gf) (eg : ∀ args w, (callFunc gf args).run P w = .ok (.enter gf args) w)
    {encs : α → Array Value} {Px : α → World → Prop} {need : Nat → Prop} {S Sp : List α → Prop} {N : Nat} (hseq : SeqE F (n - 1) P gf lb encs Px need S Sp N w) (hps : ∀ x, (encs x).size = ps.size)
    (hPx : ∀ x W l o o', Px x W → W.heap[l]? = some o → o.isCells = false → Px x (W.putObj l o'))
    (own : Nat → Prop) (hown : ∀ k, own k → k < w.heap.size ∧ ¬ need k) (hneed : ∀ k, need k → k < w.heap.size)
    (I : List α → World → Prop) (Ix : Code → List α → World → Prop) (hI : FromB w.heap.size I) (hIx : ∀ c, FromB w.heap.size (Ix c)) (h0 : I [] w) (a₁ : α → Act)
    (hassign : ∀ (l : Nat) (x : α) (W : World) (K : Act → World → Prop), K (a₁ x) W →
      assign.wpIn (F.inRound l) (n - 1 - 1) P (Exit.then K (fun _ _ _ => False)) { tmps := (ps.zip (encs x)).foldl (fun t (p, v) => t.setIfInBounds p v) a.tmps, defers := [] } W)
    (hbody : ∀ (l : Nat) (pre : List α) (x : α) (W : World), w.heap.size ≤ l → I pre W → Px x W → pre.length < N → body.wpIn (F.inRound l) (n - 1 - 1) P (roundE own I Ix (pre ++ [x]) W) (a₁ x) W)
    (hdone : ∀ (D : Nat) (xs : List α) (W : World), w.heap.size ≤ D → S xs → I xs W → W.heap[D]? = some (.deferred (some [])) → Q .normal { a with defers := { target := .collected D, args := #[] } :: a.defers } W)
    (hstop : ∀ (D : Nat) (c : Code) (pre : List α) (W : World), w.heap.size ≤ D → Sp pre → Ix c pre W → W.heap[D]? = some (.deferred (some [])) → c.wpIn F n P Q { a with defers := { target := .collected D, args := #[] } :: a.defers } W) :
    (Code.rangeFunc g ps assign body).wpIn F n P Q a w := by
  refine wpIn_rangeFunc fun fn hfn => ?_
  rw [hro]
  -- the two blocks of the loop: w.heap.size for deferred calls, L for its record
  obtain ⟨L, hL⟩ : ∃ L, L = w.heap.size + 1 := ⟨_, rfl⟩
  let R : LoopState → Option Code → Obj := fun st pe => .loop { state := st, pending := pe, fn := fn, tmps := a.tmps, params := ps, assign := assign, body := body, defers := w.heap.size }
  obtain ⟨V, hV⟩ : ∃ V, V = (w.alloc (.deferred (some []))).alloc (R .ready none) := ⟨_, rfl⟩
  have sV : V.heap.size = L + 1 := by rw [hV, hL]; simp
  have lV : V.heap[L]? = some (R .ready none) := by
    have := World.alloc_heap_new (w.alloc (.deferred (some []))) (R .ready none)
    rw [World.size_alloc] at this
    rw [hV, hL]; exact this
  have dV : V.heap[w.heap.size]? = some (.deferred (some [])) := by
    rw [hV]; exact (Below.heap_alloc _ _ _ (by simp)).trans (World.alloc_heap_new w _)
  have bV : Below w.heap.size w V := by rw [hV]; exact ((Below.refl _ w).alloc (Nat.le_refl _) _).alloc (by simp) _
  have iV : I [] V := by rw [hV]; exact hI.alloc _ (hI.alloc _ h0)
  have hen : (Instr.enterLoop fn a.tmps ps assign body none).run P w = .ok (L, [{ target := .collected w.heap.size, args := #[] }]) V := by
    rw [hV, hL]; exact run_enterLoop_outer _ _ _ _ _
  clear hV
  have hrec : FromB V.heap.size (fun (_ : Unit) W => W.heap[L]? = some (R .ready none) ∧ W.heap[w.heap.size]? = some (.deferred (some []))) := fun _ A B row hs hgr hr =>
    ⟨(hgr.block L (Array.getElem?_eq_some_iff.1 hs.1).1 (fun e => by have := hr L e.symm; omega)).trans hs.1, (hgr.block _ (Array.getElem?_eq_some_iff.1 hs.2).1 (fun e => by have := hr _ e.symm; omega)).trans hs.2⟩
  refine ⟨L, _, V, { target := .fn (.func gf) lb, args := #[.func (.yield L) #[] #[]] }, V, gf, #[.func (.yield L) #[] #[]] ++ lb, V, hen, ?_, ?_, ?_, fun _ => h1, ?_⟩
  · simp only [resolve, hg]
    simp [go_sem]
  · intro f' hf'
    simp [Target.leads] at hf'
    subst hf'
    exact hFg
  · simp [invoke, go_sem, eg]
  refine (hseq L (fun pre W => I pre W ∧ W.heap[L]? = some (R .ready none) ∧ W.heap[w.heap.size]? = some (.deferred (some [])))
    (fun pre W => Ix .ret pre W ∧ W.heap[L]? = some (R .done (some .ret)) ∧ W.heap[w.heap.size]? = some (.deferred (some [])))
    (fun k => own k ∨ k = L) V bV ?_ ?_ ?_ ?_ ⟨iV, lV, dV⟩).mono ?_
  · rintro k (hk | rfl)
    · exact ⟨by have := (hown k hk).1; omega, (hown k hk).2⟩
    · exact ⟨by omega, fun h => by have := hneed _ h; omega⟩
  · intro s A B row hs hgr hr
    exact ⟨hI s A B row hs.1 hgr (fun r e => by have := hr r e; omega), hrec () A B row hs.2 hgr hr⟩
  · intro s A B row hs hgr hr
    exact ⟨hIx _ s A B row hs.1 hgr (fun r e => by have := hr r e; omega), (hgr.block L (Array.getElem?_eq_some_iff.1 hs.2.1).1 (fun e => by have := hr L e.symm; omega)).trans hs.2.1, (hgr.block _ (Array.getElem?_eq_some_iff.1 hs.2.2).1 (fun e => by have := hr _ e.symm; omega)).trans hs.2.2⟩
  · rintro pre x W ⟨hi, hl, hd⟩ hpx hlen
    have lt : L < W.heap.size := (Array.getElem?_eq_some_iff.1 hl).1
    refine ⟨fn, _, assign, body, run_yield hl (hps x), roundIn_of_wpIn hfn (hassign L x W _ ⟨_, run_beginRound hl rfl, ?_⟩)⟩
    obtain ⟨X, hX⟩ : ∃ X, X = W.putObj L (R .busy none) := ⟨_, rfl⟩
    have lX : X.heap[L]? = some (R .busy none) := by rw [hX]; exact World.putObj_heap_same lt
    have dX : X.heap[w.heap.size]? = some (.deferred (some [])) := by rw [hX]; exact (World.putObj_heap_other (by omega)).trans hd
    have iX : I pre X := by rw [hX]; exact hI.put _ hi (by omega)
    have pX : Px x X := by rw [hX]; exact hPx x W L _ _ hpx hl rfl
    have kX : Keeps (fun k => own k ∨ k = L) W X := by rw [hX]; exact Keeps.put _ W _ (.inr rfl)
    have hno : ¬ own L := fun h => by have := (hown _ h).1; omega
    have hno2 : ¬ own w.heap.size := fun h => by have := (hown _ h).1; omega
    refine wpIn_mono (by rw [← hX]; exact hbody L pre x X (by omega) iX pX hlen) ?_
    rintro e b Y hp
    cases e with
    | normal =>
      have lY := hp.1.same _ _ hno lX
      have dY := hp.1.same _ _ hno2 dX
      exact ⟨_, _, run_endRound none lY, .inl ⟨rfl, ⟨hI.put _ hp.2 (by omega), World.putObj_heap_same (Array.getElem?_eq_some_iff.1 lY).1, (World.putObj_heap_other (by omega)).trans dY⟩, (kX.trans (hp.1.mono fun _ h => .inl h)).trans (Keeps.put _ Y _ (.inr rfl))⟩⟩
    | ret =>
      have lY := hp.1.same _ _ hno lX
      have dY := hp.1.same _ _ hno2 dX
      exact ⟨_, _, run_endRound (some .ret) lY, .inr ⟨rfl, ⟨(hIx _).put _ hp.2 (by omega), World.putObj_heap_same (Array.getElem?_eq_some_iff.1 lY).1, (World.putObj_heap_other (by omega)).trans dY⟩, (kX.trans (hp.1.mono fun _ h => .inl h)).trans (Keeps.put _ Y _ (.inr rfl))⟩⟩
    | exit id => exact hp.elim
    | goto t => exact hp.elim
    | panic ch => exact hp.elim
    | outgrown => exact hp.elim
  · rintro e Y ⟨⟨v, rfl⟩, (⟨xs, hS, hi, hl, hd⟩ | ⟨pre, hSp, hi, hl, hd⟩)⟩
    · exact ⟨none, _, run_endLoop hl (by simp), hdone _ xs _ (Nat.le_refl _) hS (hI.put _ hi (by omega)) ((World.putObj_heap_other (by omega)).trans hd)⟩
    · exact ⟨some .ret, _, run_endLoop hl (by simp), hstop _ .ret pre _ (Nat.le_refl _) hSp ((hIx _).put _ hi (by omega)) ((World.putObj_heap_other (by omega)).trans hd)⟩

theorem SeqE.toC {α : Type} {F : Fence} {n : Nat} {P : Program} {g : Nat} {lb : Array Value} {encs : α → Array Value} {Px : α → World → Prop} {need : Nat → Prop} {S Sp : List α → Prop} {N : Nat} {w : World} (h : SeqE F n P g lb encs Px need S Sp N w) :
    SeqC F n P g lb encs Px need S N w := fun l J own W hW hown hJ hY hj =>
  (h l J (fun _ _ => False) own W hW hown hJ (fun _ _ _ _ hs _ _ => hs) (fun pre x W1 h1 h2 h3 => (hY pre x W1 h1 h2 h3).mono fun _ _ hh => .inl hh) hj).mono fun _ _ hh => ⟨hh.1, by
    rcases hh.2 with hh | ⟨_, _, hh⟩
    · exact hh
    · exact hh.elim⟩

end Go.Proofs.Ytdodchmelepkeaa
end

section
namespace Go.Proofs.Ytdodchmelepkeaa
open Go.RowKit Go.Deep Go.Shelf
attribute [local go_sem] Oper.semAt_some

def encF (x : Nat × Int) : Array Value := #[.int .i64 (x.1 : Int), .int .i64 x.2]
structure FB (By Bg l : Nat) (W : World) : Prop where
  yb : W.cell? ⟨By, 0, none⟩ = some (.func (.yield l) #[] #[])
  bg : W.cell? ⟨Bg, 0, none⟩ = some (.func (.func 113) #[] #[.pointer (some ⟨By, 0, none⟩), .pointer (some ⟨Bg, 0, none⟩)])
theorem FB.keeps {By Bg l : Nat} {W W' : World} {own : Nat → Prop} (h : FB By Bg l W) (hk : Keeps own W W') (h1 : ¬ own By) (h2 : ¬ own Bg) : FB By Bg l W' := ⟨hk.cell (a := ⟨By, 0, none⟩) h1 h.yb, hk.cell (a := ⟨Bg, 0, none⟩) h2 h.bg⟩
def FE (own : Nat → Prop) (J Jx : List (Nat × Int) → World → Prop) (all : List (Nat × Int)) (W : World) (e : Ending) (W' : World) : Prop :=
  (e = .returned (.bool true) ∧ J all W' ∧ Keeps own W W') ∨ (e = .returned (.bool false) ∧ (∃ q, Jx q W') ∧ Keeps own W W')

set_option maxRecDepth 100000 in
set_option maxHeartbeats 1000000 in
theorem goF_nil (l By Bg N : Nat) (own : Nat → Prop) (J Jx : List (Nat × Int) → World → Prop)
    (hY : ∀ m pre x W, J pre W → pre.length < N → YieldAt Fence.wide m Try.prog l (encF x) W fun e W' => (e = .returned (.bool true) ∧ J (pre ++ [x]) W' ∧ Keeps own W W') ∨ (e = .returned (.bool false) ∧ Jx (pre ++ [x]) W' ∧ Keeps own W W'))
    (a : Option Addr) (cap s : Nat) (x : Int) (pre : List (Nat × Int)) (W : World) (hb : FB By Bg l W) (hj : J pre W) (hN : pre.length < N) :
    Calls Try.prog 113 #[.slice a 0 cap, .int .i64 s, .int .i64 x, .pointer (some ⟨By, 0, none⟩), .pointer (some ⟨Bg, 0, none⟩)] W (FE own J Jx (pre ++ [(s, x)]) W) := by
  obtain ⟨fn, tmps, assign, body, hy, hR⟩ := hY 7 pre (s, x) W hj hN
  have hyb := hb.yb
  dsimp only [encF] at hy
  clear hb hj hN
  refine (callsIn_wide (n := 8)).1 ?_
  refine callsIn_of_wp Try.func113 rfl trivial ?_ rfl
  simp only [Try.ntmps113, List.size_toArray, List.length_cons, List.length_nil, Nat.reduceAdd, Nat.reduceSub, Array.replicate_succ, Array.replicate_zero, List.push_toArray, List.append_toArray, List.nil_append, List.cons_append]
  gi_wp2
  refine hR.mono ?_
  rintro e W3 (⟨rfl, hJ3, hk3⟩ | ⟨rfl, hx3, hk3⟩)
  · gi_wp2
    go_ret
    exact .inl ⟨rfl, hJ3, hk3⟩
  · gi_wp2
    go_ret
    exact .inr ⟨rfl, ⟨_, hx3⟩, hk3⟩

theorem keeps_since {own : Nat → Prop} {W V : World} (h : W.Since W.heap.size V) : Keeps own W V := Keeps.grown (row := none) ⟨h.os, h.tape, h.output, h.size, fun k hk _ => h.block k hk⟩ (fun r e => by cases e)
theorem FE.from {own : Nat → Prop} {J Jx : List (Nat × Int) → World → Prop} {all : List (Nat × Int)} {W V W' : World} {e : Ending} (h : FE own J Jx all V e W') (hk : Keeps own W V) : FE own J Jx all W e W' := by
  rcases h with ⟨he, hj, hk2⟩ | ⟨he, hj, hk2⟩
  · exact .inl ⟨he, hj, hk.trans hk2⟩
  · exact .inr ⟨he, hj, hk.trans hk2⟩

set_option maxRecDepth 100000 in
set_option maxHeartbeats 400000 in
theorem goF_g (By Bg l : Nat) (own : Nat → Prop) (J Jx : List (Nat × Int) → World → Prop) (all : List (Nat × Int)) (K : ByteArray) (V x : Int) (M cap b o s L F T : Nat) (W : World) (hF : F ≤ 4) (hs : s ≤ 31) (hsF : s.testBit F = false)
    (EF : ∀ W : World, Calls Try.prog 93 #[.agg #[.string K, .int .i64 L, .int .i64 V]] W fun e w' => e = .returned (.tuple #[.int .i64 F, .int .i64 T]) ∧ W.Since W.heap.size w')
    (hb : FB By Bg l W)
    (IHP : ∀ (X : World) (q c' : Nat), W.Since W.heap.size X → (q = o + 3 ∨ cap = 1) → M ≤ c' → c' ≤ cap → Calls Try.prog 113 #[.slice (some ⟨b, q, none⟩) M c', .int .i64 s, .int .i64 x, .pointer (some ⟨By, 0, none⟩), .pointer (some ⟨Bg, 0, none⟩)] X (FE own J Jx all X)) (hM : M + 1 ≤ 10) (hcap : M + 1 ≤ cap) (hc63 : cap ≤ 9223372036854775807)
    (k1 : W.cell? ⟨b, o, none⟩ = some (.string K)) (k2 : W.cell? ⟨b, o + 1, none⟩ = some (.int .i64 L)) (k3 : W.cell? ⟨b, o + 2, none⟩ = some (.int .i64 V)) :
    Calls Try.prog 113 #[.slice (some ⟨b, o, none⟩) (M + 1) cap, .int .i64 s, .int .i64 x, .pointer (some ⟨By, 0, none⟩), .pointer (some ⟨Bg, 0, none⟩)] W (FE own J Jx all W) := by
  obtain ⟨d1, d2, d3⟩ := chip_box W K L V 52
  have HS := Lib.hid ((World.Since.refl W.heap.size W).alloc (Nat.le_refl _) (.cells #[.string K, .int .i64 L, .int .i64 V] 52))
  have E1 := fun X => inSet_any s F (by omega) (by omega) X
  simp only [hsF] at E1
  replace E1 := Lib.hid E1
  replace EF := Lib.hid EF
  replace IHP := Lib.hid IHP
  have HB := Lib.hid hb
  clear hb hsF
  rcases Nat.lt_or_eq_of_le (show 1 ≤ cap by omega) with hc1 | rfl
  · have hb1 : (0 : Int) ≤ (M : Int) := by omega
    have hb2 : (1 : Int) ≤ (M : Int) + 1 := by omega
    have hb3 : (M : Int) + 1 ≤ (cap : Int) := by omega
    have hc2 : ¬ cap = 1 := by omega
    have hc3 : ¬ 1 = cap := by omega
    go_enter Try.func113, Try.ntmps113
    have a1 := fun ob => cell_alloc_l ob k1
    have a2 := fun ob => cell_alloc_l ob k2
    have a3 := fun ob => cell_alloc_l ob k3
    have hbg := cell_alloc_l (.cells #[.string K, .int .i64 L, .int .i64 V] 52) HB.out.bg
    have hbl := World.block_lt_of_cell? _ _ hbg
    go_wp2_with fail
    go_region
    clear a1 a2 a3
    go_wp2_with (first
      | (go_at_call 93; refine (EF.out _).mono ?_; rintro e w1 ⟨rfl, hs1⟩; replace hs1 := since_of_drew hs1; have hbg1 := (hs1.cell hbl).trans hbg; have HS1 := Lib.hid (HS.out.trans (since_mono hs1 HS.out.size)); clear hs1)
      | (go_at_call 107; refine (E1.out _).mono ?_; rintro e w2 ⟨rfl, rfl⟩))
    go_quiet ((go_at_call 107; exact Calls.quiet_of_same ((E1.out _).mono fun _ _ h => ⟨h.1, h.2.symm⟩)))
    have hs3 : W.Since W.heap.size (w1.drewN nq) := since_drewN HS1.out nq
    have hbg3 : (w1.drewN nq).cell? ⟨Bg, 0, none⟩ = _ := hbg1
    have HS3 := Lib.hid hs3
    clear hs3
    go_wp2_with fail
    refine (IHP.out _ _ _ HS3.out (by first | exact .inr trivial | exact .inr rfl | exact .inl rfl) (by omega) (by omega)).mono ?_
    rintro e w4 hE
    replace hE := hE.from (keeps_since HS3.out)
    rcases hE with ⟨rfl, hJ4, hk4⟩ | ⟨rfl, hx4, hk4⟩
    · go_wp2_with fail
      go_ret
      exact .inl ⟨rfl, hJ4, hk4⟩
    · go_wp2_with fail
      go_ret
      exact .inr ⟨rfl, hx4, hk4⟩
  · obtain rfl : M = 0 := by omega
    clear hM hcap hc63
    go_enter Try.func113, Try.ntmps113
    have a1 := fun ob => cell_alloc_l ob k1
    have a2 := fun ob => cell_alloc_l ob k2
    have a3 := fun ob => cell_alloc_l ob k3
    have hbg := cell_alloc_l (.cells #[.string K, .int .i64 L, .int .i64 V] 52) HB.out.bg
    have hbl := World.block_lt_of_cell? _ _ hbg
    go_wp2_with fail
    go_region
    clear a1 a2 a3
    go_wp2_with (first
      | (go_at_call 93; refine (EF.out _).mono ?_; rintro e w1 ⟨rfl, hs1⟩; replace hs1 := since_of_drew hs1; have hbg1 := (hs1.cell hbl).trans hbg; have HS1 := Lib.hid (HS.out.trans (since_mono hs1 HS.out.size)); clear hs1)
      | (go_at_call 107; refine (E1.out _).mono ?_; rintro e w2 ⟨rfl, rfl⟩))
    go_quiet ((go_at_call 107; exact Calls.quiet_of_same ((E1.out _).mono fun _ _ h => ⟨h.1, h.2.symm⟩)))
    have hs3 : W.Since W.heap.size (w1.drewN nq) := since_drewN HS1.out nq
    have hbg3 : (w1.drewN nq).cell? ⟨Bg, 0, none⟩ = _ := hbg1
    have HS3 := Lib.hid hs3
    clear hs3
    go_wp2_with fail
    refine (IHP.out _ _ _ HS3.out (by first | exact .inr trivial | exact .inr rfl | exact .inl rfl) (by omega) (by omega)).mono ?_
    rintro e w4 hE
    replace hE := hE.from (keeps_since HS3.out)
    rcases hE with ⟨rfl, hJ4, hk4⟩ | ⟨rfl, hx4, hk4⟩
    · go_wp2_with fail
      go_ret
      exact .inl ⟨rfl, hJ4, hk4⟩
    · go_wp2_with fail
      go_ret
      exact .inr ⟨rfl, hx4, hk4⟩

set_option maxRecDepth 100000 in
set_option maxHeartbeats 400000 in
theorem goF_h (By Bg l : Nat) (own : Nat → Prop) (J Jx : List (Nat × Int) → World → Prop) (all : List (Nat × Int)) (K : ByteArray) (V x : Int) (M cap b o s L F : Nat) (W : World) (hF : F ≤ 4) (hs : s ≤ 31) (hsF : s.testBit F = true) (hw1 : IntKind.i64.wrap (x * V) = x * V)
    (EF : ∀ W : World, Calls Try.prog 93 #[.agg #[.string K, .int .i64 L, .int .i64 V]] W fun e w' => e = .returned (.tuple #[.int .i64 F, .int .i64 F]) ∧ W.Since W.heap.size w')
    (hb : FB By Bg l W)
    (IHP : ∀ (X : World) (q c' : Nat), W.Since W.heap.size X → (q = o + 3 ∨ cap = 1) → M ≤ c' → c' ≤ cap → Calls Try.prog 113 #[.slice (some ⟨b, q, none⟩) M c', .int .i64 s, .int .i64 (x * V), .pointer (some ⟨By, 0, none⟩), .pointer (some ⟨Bg, 0, none⟩)] X (FE own J Jx all X)) (hM : M + 1 ≤ 10) (hcap : M + 1 ≤ cap) (hc63 : cap ≤ 9223372036854775807)
    (k1 : W.cell? ⟨b, o, none⟩ = some (.string K)) (k2 : W.cell? ⟨b, o + 1, none⟩ = some (.int .i64 L)) (k3 : W.cell? ⟨b, o + 2, none⟩ = some (.int .i64 V)) :
    Calls Try.prog 113 #[.slice (some ⟨b, o, none⟩) (M + 1) cap, .int .i64 s, .int .i64 x, .pointer (some ⟨By, 0, none⟩), .pointer (some ⟨Bg, 0, none⟩)] W (FE own J Jx all W) := by
  obtain ⟨d1, d2, d3⟩ := chip_box W K L V 52
  have HS := Lib.hid ((World.Since.refl W.heap.size W).alloc (Nat.le_refl _) (.cells #[.string K, .int .i64 L, .int .i64 V] 52))
  have E1 := fun X => inSet_any s F (by omega) (by omega) X
  simp only [hsF] at E1
  replace E1 := Lib.hid E1
  replace EF := Lib.hid EF
  replace IHP := Lib.hid IHP
  have HB := Lib.hid hb
  clear hb hsF
  rcases Nat.lt_or_eq_of_le (show 1 ≤ cap by omega) with hc1 | rfl
  · have hb1 : (0 : Int) ≤ (M : Int) := by omega
    have hb2 : (1 : Int) ≤ (M : Int) + 1 := by omega
    have hb3 : (M : Int) + 1 ≤ (cap : Int) := by omega
    have hc2 : ¬ cap = 1 := by omega
    have hc3 : ¬ 1 = cap := by omega
    go_enter Try.func113, Try.ntmps113
    have a1 := fun ob => cell_alloc_l ob k1
    have a2 := fun ob => cell_alloc_l ob k2
    have a3 := fun ob => cell_alloc_l ob k3
    have hbg := cell_alloc_l (.cells #[.string K, .int .i64 L, .int .i64 V] 52) HB.out.bg
    have hbl := World.block_lt_of_cell? _ _ hbg
    go_wp2_with fail
    go_region
    clear a1 a2 a3
    go_wp2_with (first
      | (go_at_call 93; refine (EF.out _).mono ?_; rintro e w1 ⟨rfl, hs1⟩; replace hs1 := since_of_drew hs1; have hbg1 := (hs1.cell hbl).trans hbg; have hw3 := (hs1.cell (World.block_lt_of_cell? _ _ d3)).trans d3; have HS1 := Lib.hid (HS.out.trans (since_mono hs1 HS.out.size)); clear hs1)
      | (go_at_call 107; refine (E1.out _).mono ?_; rintro e w2 ⟨rfl, rfl⟩))
    have HS3 := HS1
    refine (IHP.out _ _ _ HS3.out (by first | exact .inr trivial | exact .inr rfl | exact .inl rfl) (by omega) (by omega)).mono ?_
    rintro e w4 hE
    replace hE := hE.from (keeps_since HS3.out)
    rcases hE with ⟨rfl, hJ4, hk4⟩ | ⟨rfl, hx4, hk4⟩
    · go_wp2_with fail
      go_ret
      exact .inl ⟨rfl, hJ4, hk4⟩
    · go_wp2_with fail
      go_ret
      exact .inr ⟨rfl, hx4, hk4⟩
  · obtain rfl : M = 0 := by omega
    clear hM hcap hc63
    go_enter Try.func113, Try.ntmps113
    have a1 := fun ob => cell_alloc_l ob k1
    have a2 := fun ob => cell_alloc_l ob k2
    have a3 := fun ob => cell_alloc_l ob k3
    have hbg := cell_alloc_l (.cells #[.string K, .int .i64 L, .int .i64 V] 52) HB.out.bg
    have hbl := World.block_lt_of_cell? _ _ hbg
    go_wp2_with fail
    go_region
    clear a1 a2 a3
    go_wp2_with (first
      | (go_at_call 93; refine (EF.out _).mono ?_; rintro e w1 ⟨rfl, hs1⟩; replace hs1 := since_of_drew hs1; have hbg1 := (hs1.cell hbl).trans hbg; have hw3 := (hs1.cell (World.block_lt_of_cell? _ _ d3)).trans d3; have HS1 := Lib.hid (HS.out.trans (since_mono hs1 HS.out.size)); clear hs1)
      | (go_at_call 107; refine (E1.out _).mono ?_; rintro e w2 ⟨rfl, rfl⟩))
    have HS3 := HS1
    refine (IHP.out _ _ _ HS3.out (by first | exact .inr trivial | exact .inr rfl | exact .inl rfl) (by omega) (by omega)).mono ?_
    rintro e w4 hE
    replace hE := hE.from (keeps_since HS3.out)
    rcases hE with ⟨rfl, hJ4, hk4⟩ | ⟨rfl, hx4, hk4⟩
    · go_wp2_with fail
      go_ret
      exact .inl ⟨rfl, hJ4, hk4⟩
    · go_wp2_with fail
      go_ret
      exact .inr ⟨rfl, hx4, hk4⟩

end Go.Proofs.Ytdodchmelepkeaa
end

section
namespace Go.Proofs.Ytdodchmelepkeaa
open Go.RowKit Go.Deep Go.Shelf
attribute [local go_sem] Oper.semAt_some

set_option maxRecDepth 100000 in
set_option maxHeartbeats 400000 in
theorem goF_m (By Bg l : Nat) (own : Nat → Prop) (J Jx : List (Nat × Int) → World → Prop) (all : List (Nat × Int)) (K : ByteArray) (V x : Int) (M cap b o s L F T : Nat) (W : World) (hF : F ≤ 4) (hT : T ≤ 4) (hs : s ≤ 31) (hFT : F ≠ T) (hsF : s.testBit F = true) (hsT : s.testBit T = true)
    (EF : ∀ W : World, Calls Try.prog 93 #[.agg #[.string K, .int .i64 L, .int .i64 V]] W fun e w' => e = .returned (.tuple #[.int .i64 F, .int .i64 T]) ∧ W.Since W.heap.size w')
    (hb : FB By Bg l W)
    (IHP : ∀ (X : World) (q c' : Nat), W.Since W.heap.size X → (q = o + 3 ∨ cap = 1) → M ≤ c' → c' ≤ cap → Calls Try.prog 113 #[.slice (some ⟨b, q, none⟩) M c', .int .i64 s, .int .i64 x, .pointer (some ⟨By, 0, none⟩), .pointer (some ⟨Bg, 0, none⟩)] X (FE own J Jx all X)) (hM : M + 1 ≤ 10) (hcap : M + 1 ≤ cap) (hc63 : cap ≤ 9223372036854775807)
    (k1 : W.cell? ⟨b, o, none⟩ = some (.string K)) (k2 : W.cell? ⟨b, o + 1, none⟩ = some (.int .i64 L)) (k3 : W.cell? ⟨b, o + 2, none⟩ = some (.int .i64 V)) :
    Calls Try.prog 113 #[.slice (some ⟨b, o, none⟩) (M + 1) cap, .int .i64 s, .int .i64 x, .pointer (some ⟨By, 0, none⟩), .pointer (some ⟨Bg, 0, none⟩)] W (FE own J Jx all W) := by
  obtain ⟨d1, d2, d3⟩ := chip_box W K L V 52
  have HS := Lib.hid ((World.Since.refl W.heap.size W).alloc (Nat.le_refl _) (.cells #[.string K, .int .i64 L, .int .i64 V] 52))
  have E1 := fun X => inSet_any s F (by omega) (by omega) X
  simp only [hsF] at E1
  replace E1 := Lib.hid E1
  have E2 := fun X => inSet_any s T (by omega) (by omega) X
  simp only [hsT] at E2
  replace E2 := Lib.hid E2
  have hftb : ((F : Int) == (T : Int)) = false := by simp; omega
  replace EF := Lib.hid EF
  replace IHP := Lib.hid IHP
  have HB := Lib.hid hb
  clear hb hsF hsT
  rcases Nat.lt_or_eq_of_le (show 1 ≤ cap by omega) with hc1 | rfl
  · have hb1 : (0 : Int) ≤ (M : Int) := by omega
    have hb2 : (1 : Int) ≤ (M : Int) + 1 := by omega
    have hb3 : (M : Int) + 1 ≤ (cap : Int) := by omega
    have hc2 : ¬ cap = 1 := by omega
    have hc3 : ¬ 1 = cap := by omega
    go_enter Try.func113, Try.ntmps113
    have a1 := fun ob => cell_alloc_l ob k1
    have a2 := fun ob => cell_alloc_l ob k2
    have a3 := fun ob => cell_alloc_l ob k3
    have hbg := cell_alloc_l (.cells #[.string K, .int .i64 L, .int .i64 V] 52) HB.out.bg
    have hbl := World.block_lt_of_cell? _ _ hbg
    go_wp2_with fail
    go_region
    clear a1 a2 a3
    go_wp2_with (first
      | (go_at_call 93; refine (EF.out _).mono ?_; rintro e w1 ⟨rfl, hs1⟩; replace hs1 := since_of_drew hs1; have hbg1 := (hs1.cell hbl).trans hbg; have HS1 := Lib.hid (HS.out.trans (since_mono hs1 HS.out.size)); clear hs1)
      | (go_at_call 107; ((with_reducible refine (E1.out _).mono ?_); rintro e w2 ⟨rfl, rfl⟩)))
    go_quiet (first | (go_at_call 107; with_reducible exact Calls.quiet_of_same ((E1.out _).mono fun _ _ h => ⟨h.1, h.2.symm⟩)) | (go_at_call 107; with_reducible exact Calls.quiet_of_same ((E2.out _).mono fun _ _ h => ⟨h.1, h.2.symm⟩)))
    have hs3 : W.Since W.heap.size (w1.drewN nq) := since_drewN HS1.out nq
    have hbg3 : (w1.drewN nq).cell? ⟨Bg, 0, none⟩ = _ := hbg1
    have HS3 := Lib.hid hs3
    clear hs3
    go_wp2_with fail
    refine (IHP.out _ _ _ HS3.out (by first | exact .inr trivial | exact .inr rfl | exact .inl rfl) (by omega) (by omega)).mono ?_
    rintro e w4 hE
    replace hE := hE.from (keeps_since HS3.out)
    rcases hE with ⟨rfl, hJ4, hk4⟩ | ⟨rfl, hx4, hk4⟩
    · go_wp2_with fail
      go_ret
      exact .inl ⟨rfl, hJ4, hk4⟩
    · go_wp2_with fail
      go_ret
      exact .inr ⟨rfl, hx4, hk4⟩
  · obtain rfl : M = 0 := by omega
    clear hM hcap hc63
    go_enter Try.func113, Try.ntmps113
    have a1 := fun ob => cell_alloc_l ob k1
    have a2 := fun ob => cell_alloc_l ob k2
    have a3 := fun ob => cell_alloc_l ob k3
    have hbg := cell_alloc_l (.cells #[.string K, .int .i64 L, .int .i64 V] 52) HB.out.bg
    have hbl := World.block_lt_of_cell? _ _ hbg
    go_wp2_with fail
    go_region
    clear a1 a2 a3
    go_wp2_with (first
      | (go_at_call 93; refine (EF.out _).mono ?_; rintro e w1 ⟨rfl, hs1⟩; replace hs1 := since_of_drew hs1; have hbg1 := (hs1.cell hbl).trans hbg; have HS1 := Lib.hid (HS.out.trans (since_mono hs1 HS.out.size)); clear hs1)
      | (go_at_call 107; ((with_reducible refine (E1.out _).mono ?_); rintro e w2 ⟨rfl, rfl⟩)))
    go_quiet (first | (go_at_call 107; with_reducible exact Calls.quiet_of_same ((E1.out _).mono fun _ _ h => ⟨h.1, h.2.symm⟩)) | (go_at_call 107; with_reducible exact Calls.quiet_of_same ((E2.out _).mono fun _ _ h => ⟨h.1, h.2.symm⟩)))
    have hs3 : W.Since W.heap.size (w1.drewN nq) := since_drewN HS1.out nq
    have hbg3 : (w1.drewN nq).cell? ⟨Bg, 0, none⟩ = _ := hbg1
    have HS3 := Lib.hid hs3
    clear hs3
    go_wp2_with fail
    refine (IHP.out _ _ _ HS3.out (by first | exact .inr trivial | exact .inr rfl | exact .inl rfl) (by omega) (by omega)).mono ?_
    rintro e w4 hE
    replace hE := hE.from (keeps_since HS3.out)
    rcases hE with ⟨rfl, hJ4, hk4⟩ | ⟨rfl, hx4, hk4⟩
    · go_wp2_with fail
      go_ret
      exact .inl ⟨rfl, hJ4, hk4⟩
    · go_wp2_with fail
      go_ret
      exact .inr ⟨rfl, hx4, hk4⟩

end Go.Proofs.Ytdodchmelepkeaa
end

section
namespace Go.Proofs.Ytdodchmelepkeaa
open Go.RowKit Go.Deep Go.Shelf
attribute [local go_sem] Oper.semAt_some

theorem FE.one {own : Nat → Prop} {J Jx : List (Nat × Int) → World → Prop} {all : List (Nat × Int)} {W W' : World} {e : Ending} (h : FE own J Jx all W e W') : ∃ bb, e = .returned (.bool bb) ∧ Keeps own W W' ∧ (bb = true → J all W') ∧ (bb = false → ∃ q, Jx q W') := by
  rcases h with ⟨he, hj, hk⟩ | ⟨he, hj, hk⟩
  · exact ⟨true, he, hk, fun _ => hj, fun h => by simp at h⟩
  · exact ⟨false, he, hk, fun h => by simp at h, fun _ => hj⟩
set_option maxRecDepth 100000 in
set_option maxHeartbeats 400000 in
theorem goF_o (By Bg l : Nat) (own : Nat → Prop) (J Jx : List (Nat × Int) → World → Prop) (mid all : List (Nat × Int)) (K : ByteArray) (V x : Int) (M cap b o s L F T : Nat) (W : World) (hF : F ≤ 4) (hT : T ≤ 4) (hs : s ≤ 31) (hFT : F ≠ T) (hsF : s.testBit F = true) (hsT : s.testBit T = false) (hw1 : IntKind.i64.wrap (x * V) = x * V) (u : Nat) (hu : bits BinOp.xor IntKind.i64 (s : Int) (bits BinOp.or IntKind.i64 (2 ^ F) (2 ^ T)) = (u : Int)) (hB1 : ¬ own Bg) (hown : ∀ k, own k → k < W.heap.size)
    (EF : ∀ W : World, Calls Try.prog 93 #[.agg #[.string K, .int .i64 L, .int .i64 V]] W fun e w' => e = .returned (.tuple #[.int .i64 F, .int .i64 T]) ∧ W.Since W.heap.size w')
    (hb : FB By Bg l W)
    (IHO : ∀ (X : World) (q c' : Nat), W.Since W.heap.size X → (q = o + 3 ∨ cap = 1) → M ≤ c' → c' ≤ cap → Calls Try.prog 113 #[.slice (some ⟨b, q, none⟩) M c', .int .i64 u, .int .i64 (x * V), .pointer (some ⟨By, 0, none⟩), .pointer (some ⟨Bg, 0, none⟩)] X (FE own J Jx mid X))
    (IHP : ∀ (X : World) (q c' : Nat), J mid X → Keeps own W X → (q = o + 3 ∨ cap = 1) → M ≤ c' → c' ≤ cap → Calls Try.prog 113 #[.slice (some ⟨b, q, none⟩) M c', .int .i64 s, .int .i64 x, .pointer (some ⟨By, 0, none⟩), .pointer (some ⟨Bg, 0, none⟩)] X (FE own J Jx all X)) (hM : M + 1 ≤ 10) (hcap : M + 1 ≤ cap) (hc63 : cap ≤ 9223372036854775807)
    (k1 : W.cell? ⟨b, o, none⟩ = some (.string K)) (k2 : W.cell? ⟨b, o + 1, none⟩ = some (.int .i64 L)) (k3 : W.cell? ⟨b, o + 2, none⟩ = some (.int .i64 V)) :
    Calls Try.prog 113 #[.slice (some ⟨b, o, none⟩) (M + 1) cap, .int .i64 s, .int .i64 x, .pointer (some ⟨By, 0, none⟩), .pointer (some ⟨Bg, 0, none⟩)] W (FE own J Jx all W) := by
  obtain ⟨d1, d2, d3⟩ := chip_box W K L V 52
  have HS := Lib.hid ((World.Since.refl W.heap.size W).alloc (Nat.le_refl _) (.cells #[.string K, .int .i64 L, .int .i64 V] 52))
  have E1 := fun X => inSet_any s F (by omega) (by omega) X
  simp only [hsF] at E1
  replace E1 := Lib.hid E1
  have E2 := fun X => inSet_any s T (by omega) (by omega) X
  simp only [hsT] at E2
  replace E2 := Lib.hid E2
  have hftb : ((F : Int) == (T : Int)) = false := by simp; omega
  replace EF := Lib.hid EF
  replace IHP := Lib.hid IHP
  replace IHO := Lib.hid IHO
  have HU := Lib.hid hu
  obtain ⟨p1, _⟩ := p2w_fin ⟨F, by omega⟩
  obtain ⟨p2, _⟩ := p2w_fin ⟨T, by omega⟩
  simp only at p1 p2
  have hm1 : min F 64 = F := by omega
  have hm2 : min T 64 = T := by omega
  clear hu
  have HB := Lib.hid hb
  clear hb hsF hsT
  rcases Nat.lt_or_eq_of_le (show 1 ≤ cap by omega) with hc1 | rfl
  · have hb1 : (0 : Int) ≤ (M : Int) := by omega
    have hb2 : (1 : Int) ≤ (M : Int) + 1 := by omega
    have hb3 : (M : Int) + 1 ≤ (cap : Int) := by omega
    have hc2 : ¬ cap = 1 := by omega
    have hc3 : ¬ 1 = cap := by omega
    go_enter Try.func113, Try.ntmps113
    have a1 := fun ob => cell_alloc_l ob k1
    have a2 := fun ob => cell_alloc_l ob k2
    have a3 := fun ob => cell_alloc_l ob k3
    have hbg := cell_alloc_l (.cells #[.string K, .int .i64 L, .int .i64 V] 52) HB.out.bg
    have hbl := World.block_lt_of_cell? _ _ hbg
    go_wp2_with fail
    go_region
    clear a1 a2 a3
    go_wp2_with (first
      | (go_at_call 93; refine (EF.out _).mono ?_; rintro e w1 ⟨rfl, hs1⟩; replace hs1 := since_of_drew hs1; have hbg1 := (hs1.cell hbl).trans hbg; have hw3 := (hs1.cell (World.block_lt_of_cell? _ _ d3)).trans d3; have HS1 := Lib.hid (HS.out.trans (since_mono hs1 HS.out.size)); clear hs1)
      | (go_at_call 107; ((with_reducible refine (E1.out _).mono ?_); rintro e w2 ⟨rfl, rfl⟩)))
    have hS7 : w1.cell? ⟨Bg, 0, none⟩ = some (.func (.func 113) #[] #[.pointer (some ⟨By, 0, none⟩), .pointer (some ⟨Bg, 0, none⟩)]) ∧ w1.cell? ⟨W.heap.size, 2, none⟩ = some (.int .i64 V) := ⟨hbg1, hw3⟩
    have hu := HU.out
    have hKC := fun (X : World) (hk : Keeps own w1 X) => show X.cell? ⟨Bg, 0, none⟩ = some (.func (.func 113) #[] #[.pointer (some ⟨By, 0, none⟩), .pointer (some ⟨Bg, 0, none⟩)]) ∧ X.cell? ⟨W.heap.size, 2, none⟩ = some (.int .i64 V) from ⟨hk.cell (a := ⟨Bg, 0, none⟩) hB1 hbg1, hk.cell (a := ⟨W.heap.size, 2, none⟩) (fun h => by have := hown _ h; simp at this) hw3⟩
    have HKC := Lib.hid hKC
    clear hKC
    go_region_held3 (fun W' => W'.cell? ⟨Bg, 0, none⟩ = some (.func (.func 113) #[] #[.pointer (some ⟨By, 0, none⟩), .pointer (some ⟨Bg, 0, none⟩)]) ∧ W'.cell? ⟨W.heap.size, 2, none⟩ = some (.int .i64 V))
      (first | exact g9 | exact hS7)
      (first
        | (go_at_call 107; ((with_reducible refine (E1.out _).mono ?_); rintro e w2 ⟨rfl, rfl⟩))
        | (go_at_call 107; ((with_reducible refine (E2.out _).mono ?_); rintro e w2 ⟨rfl, rfl⟩))
        | (go_at_call 113; refine (IHO.out _ _ _ HS1.out.drew (by first | exact .inr trivial | exact .inr rfl | exact .inl rfl) (by omega) (by omega)).mono ?_; rintro e w5 hE; obtain ⟨bb, rfl, hk5, hJ5, hx5⟩ := hE.one; have g9 := HKC.out _ ((keeps_since ((World.Since.refl w1.heap.size w1).drew)).trans hk5); have HK5 := Lib.hid ((keeps_since (own := own) (HS1.out.drew)).trans hk5); have HJ5 := Lib.hid hJ5; have HX5 := Lib.hid hx5; clear hk5 hJ5 hx5))
    all_goals
      obtain ⟨hg5, _⟩ := g9
      cases bb
      · have hx5 := HX5.out rfl
        go_wp2_with fail
        go_ret
        exact .inr ⟨rfl, hx5, HK5.out⟩
      · have hJ5 := HJ5.out rfl
        go_wp2_with fail
        refine (IHP.out _ _ _ hJ5 HK5.out (by first | exact .inr trivial | exact .inr rfl | exact .inl rfl) (by omega) (by omega)).mono ?_
        rintro e w6 hE
        replace hE := hE.from HK5.out
        rcases hE with ⟨rfl, hJ6, hk6⟩ | ⟨rfl, hx6, hk6⟩
        · go_wp2_with fail
          go_ret
          exact .inl ⟨rfl, hJ6, hk6⟩
        · go_wp2_with fail
          go_ret
          exact .inr ⟨rfl, hx6, hk6⟩
  · obtain rfl : M = 0 := by omega
    clear hM hcap hc63
    go_enter Try.func113, Try.ntmps113
    have a1 := fun ob => cell_alloc_l ob k1
    have a2 := fun ob => cell_alloc_l ob k2
    have a3 := fun ob => cell_alloc_l ob k3
    have hbg := cell_alloc_l (.cells #[.string K, .int .i64 L, .int .i64 V] 52) HB.out.bg
    have hbl := World.block_lt_of_cell? _ _ hbg
    go_wp2_with fail
    go_region
    clear a1 a2 a3
    go_wp2_with (first
      | (go_at_call 93; refine (EF.out _).mono ?_; rintro e w1 ⟨rfl, hs1⟩; replace hs1 := since_of_drew hs1; have hbg1 := (hs1.cell hbl).trans hbg; have hw3 := (hs1.cell (World.block_lt_of_cell? _ _ d3)).trans d3; have HS1 := Lib.hid (HS.out.trans (since_mono hs1 HS.out.size)); clear hs1)
      | (go_at_call 107; ((with_reducible refine (E1.out _).mono ?_); rintro e w2 ⟨rfl, rfl⟩)))
    have hS7 : w1.cell? ⟨Bg, 0, none⟩ = some (.func (.func 113) #[] #[.pointer (some ⟨By, 0, none⟩), .pointer (some ⟨Bg, 0, none⟩)]) ∧ w1.cell? ⟨W.heap.size, 2, none⟩ = some (.int .i64 V) := ⟨hbg1, hw3⟩
    have hu := HU.out
    have hKC := fun (X : World) (hk : Keeps own w1 X) => show X.cell? ⟨Bg, 0, none⟩ = some (.func (.func 113) #[] #[.pointer (some ⟨By, 0, none⟩), .pointer (some ⟨Bg, 0, none⟩)]) ∧ X.cell? ⟨W.heap.size, 2, none⟩ = some (.int .i64 V) from ⟨hk.cell (a := ⟨Bg, 0, none⟩) hB1 hbg1, hk.cell (a := ⟨W.heap.size, 2, none⟩) (fun h => by have := hown _ h; simp at this) hw3⟩
    have HKC := Lib.hid hKC
    clear hKC
    go_region_held3 (fun W' => W'.cell? ⟨Bg, 0, none⟩ = some (.func (.func 113) #[] #[.pointer (some ⟨By, 0, none⟩), .pointer (some ⟨Bg, 0, none⟩)]) ∧ W'.cell? ⟨W.heap.size, 2, none⟩ = some (.int .i64 V))
      (first | exact g9 | exact hS7)
      (first
        | (go_at_call 107; ((with_reducible refine (E1.out _).mono ?_); rintro e w2 ⟨rfl, rfl⟩))
        | (go_at_call 107; ((with_reducible refine (E2.out _).mono ?_); rintro e w2 ⟨rfl, rfl⟩))
        | (go_at_call 113; refine (IHO.out _ _ _ HS1.out.drew (by first | exact .inr trivial | exact .inr rfl | exact .inl rfl) (by omega) (by omega)).mono ?_; rintro e w5 hE; obtain ⟨bb, rfl, hk5, hJ5, hx5⟩ := hE.one; have g9 := HKC.out _ ((keeps_since ((World.Since.refl w1.heap.size w1).drew)).trans hk5); have HK5 := Lib.hid ((keeps_since (own := own) (HS1.out.drew)).trans hk5); have HJ5 := Lib.hid hJ5; have HX5 := Lib.hid hx5; clear hk5 hJ5 hx5))
    all_goals
      obtain ⟨hg5, _⟩ := g9
      cases bb
      · have hx5 := HX5.out rfl
        go_wp2_with fail
        go_ret
        exact .inr ⟨rfl, hx5, HK5.out⟩
      · have hJ5 := HJ5.out rfl
        go_wp2_with fail
        refine (IHP.out _ _ _ hJ5 HK5.out (by first | exact .inr trivial | exact .inr rfl | exact .inl rfl) (by omega) (by omega)).mono ?_
        rintro e w6 hE
        replace hE := hE.from HK5.out
        rcases hE with ⟨rfl, hJ6, hk6⟩ | ⟨rfl, hx6, hk6⟩
        · go_wp2_with fail
          go_ret
          exact .inl ⟨rfl, hJ6, hk6⟩
        · go_wp2_with fail
          go_ret
          exact .inr ⟨rfl, hx6, hk6⟩

end Go.Proofs.Ytdodchmelepkeaa
end

section
namespace Go.Proofs.Ytdodchmelepkeaa
open Go.RowKit Go.Deep Go.Shelf
attribute [local go_sem] Oper.semAt_some

theorem xorO_fin : ∀ s : Fin 32, ∀ i k : Fin 5, i ≠ k → bits BinOp.xor IntKind.i64 (s.val : Int) (bits BinOp.or IntKind.i64 (2 ^ i.val) (2 ^ k.val)) = ((s.val ^^^ 2 ^ i.val ^^^ 2 ^ k.val : Nat) : Int) ∧ s.val ^^^ 2 ^ i.val ^^^ 2 ^ k.val ≤ 31 := by decide +kernel
theorem ChipsR.keeps {own : Nat → Prop} {W X : World} {b o : Nat} {cs : List RC} (h : ChipsR W (some ⟨b, o, none⟩) cs) (hk : Keeps own W X) (hb : ¬ own b) : ChipsR X (some ⟨b, o, none⟩) cs := fun h0 => by
  obtain ⟨b', o', e, hc⟩ := h h0
  simp only [Option.some.injEq, Addr.mk.injEq, and_true] at e
  obtain ⟨rfl, rfl⟩ := e
  exact ⟨b, o, rfl, fun i hi => ⟨hk.cell (a := ⟨b, o + i * 3, none⟩) hb (hc i hi).1, hk.cell (a := ⟨b, o + i * 3 + 1, none⟩) hb (hc i hi).2.1, hk.cell (a := ⟨b, o + i * 3 + 2, none⟩) hb (hc i hi).2.2⟩⟩
theorem FB.since {By Bg l : Nat} {W X : World} (h : FB By Bg l W) (hs : W.Since W.heap.size X) : FB By Bg l X := h.keeps (own := fun _ => False) (keeps_since hs) (fun h => h) (fun h => h)
theorem nine_w {x V B : Int} (hv : -9 ≤ V ∧ V ≤ 9) (hx : -B ≤ x ∧ x ≤ B) : -(9 * B) ≤ x * V ∧ x * V ≤ 9 * B := by
  have h : V = -9 ∨ V = -8 ∨ V = -7 ∨ V = -6 ∨ V = -5 ∨ V = -4 ∨ V = -3 ∨ V = -2 ∨ V = -1 ∨ V = 0 ∨ V = 1 ∨ V = 2 ∨ V = 3 ∨ V = 4 ∨ V = 5 ∨ V = 6 ∨ V = 7 ∨ V = 8 ∨ V = 9 := by omega
  rcases h with rfl | rfl | rfl | rfl | rfl | rfl | rfl | rfl | rfl | rfl | rfl | rfl | rfl | rfl | rfl | rfl | rfl | rfl | rfl <;> omega

def pxF (x : Nat × Int) : Prop := x.1 ≤ 31 ∧ -(nineP 10) ≤ x.2 ∧ x.2 ≤ nineP 10

set_option maxRecDepth 100000 in
set_option maxHeartbeats 1000000 in
theorem goF_one (l By Bg : Nat) (own : Nat → Prop) (J Jx : List (Nat × Int) → World → Prop)
    (a : Option Addr) (cap s : Nat) (x : Int) (pre : List (Nat × Int)) (W : World) (hb : FB By Bg l W) (hY : YieldAt Fence.wide 7 Try.prog l (encF (s, x)) W fun e W' => (e = .returned (.bool true) ∧ J (pre ++ [(s, x)]) W' ∧ Keeps own W W') ∨ (e = .returned (.bool false) ∧ Jx (pre ++ [(s, x)]) W' ∧ Keeps own W W')) :
    Calls Try.prog 113 #[.slice a 0 cap, .int .i64 s, .int .i64 x, .pointer (some ⟨By, 0, none⟩), .pointer (some ⟨Bg, 0, none⟩)] W (FE own J Jx (pre ++ [(s, x)]) W) := by
  obtain ⟨fn, tmps, assign, body, hy, hR⟩ := hY
  have hyb := hb.yb
  dsimp only [encF] at hy
  clear hb
  refine (callsIn_wide (n := 8)).1 ?_
  refine callsIn_of_wp Try.func113 rfl trivial ?_ rfl
  simp only [Try.ntmps113, List.size_toArray, List.length_cons, List.length_nil, Nat.reduceAdd, Nat.reduceSub, Array.replicate_succ, Array.replicate_zero, List.push_toArray, List.append_toArray, List.nil_append, List.cons_append]
  gi_wp2
  refine hR.mono ?_
  rintro e W3 (⟨rfl, hJ3, hk3⟩ | ⟨rfl, hx3, hk3⟩)
  · gi_wp2
    go_ret
    exact .inl ⟨rfl, hJ3, hk3⟩
  · gi_wp2
    go_ret
    exact .inr ⟨rfl, ⟨_, hx3⟩, hk3⟩

theorem goF_any (l By Bg NN B : Nat) (own : Nat → Prop) (J Jx : List (Nat × Int) → World → Prop) (hJ : FromB B J) (hBy : B ≤ By) (hBg : B ≤ Bg) (hown : ∀ k, own k → k < B)
    (hY : ∀ m pre x W, J pre W → pxF x → pre.length < NN → YieldAt Fence.wide m Try.prog l (encF x) W fun e W' => (e = .returned (.bool true) ∧ J (pre ++ [x]) W' ∧ Keeps own W W') ∨ (e = .returned (.bool false) ∧ Jx (pre ++ [x]) W' ∧ Keeps own W W')) :
    ∀ (cs : List RC) (a : Option Addr) (N cap s : Nat) (x : Int) (pre : List (Nat × Int)) (W : World), cs.length = N → N ≤ 10 → N ≤ cap → cap ≤ 9223372036854775807 → (∀ c ∈ cs, RCok c ∧ chOk 5 (toC c)) → s ≤ 31 → -(nineP (10 - N)) ≤ x ∧ x ≤ nineP (10 - N) → FB By Bg l W → ChipsR W a cs → (0 < N → ∀ b o, a = some ⟨b, o, none⟩ → ¬ own b) → J pre W → pre.length + (famL (cs.map toC) s x).length ≤ NN →
    Calls Try.prog 113 #[.slice a N cap, .int .i64 s, .int .i64 x, .pointer (some ⟨By, 0, none⟩), .pointer (some ⟨Bg, 0, none⟩)] W (FE own J Jx (pre ++ famL (cs.map toC) s x) W)
  | [], a, N, cap, s, x, pre, W, hN, _, _, _, _, hs, hx, hb, _, _, hj, hl => by
    obtain rfl : N = 0 := hN.symm
    exact goF_one l By Bg own J Jx a cap s x pre W hb (hY 7 pre (s, x) W hj ⟨hs, hx⟩ (by simp [famL] at hl; omega))
  | c :: cs, a, N, cap, s, x, pre, W, hN, h10, hcap, hc63, hok, hs, hx, hb, hm, hnb, hj, hl => by
    obtain ⟨b, o, rfl, ⟨k1, k2, k3⟩, ht⟩ := hm.split
    obtain ⟨hrc, h5⟩ := hok c (by simp)
    obtain ⟨M, rfl⟩ : ∃ M, N = M + 1 := ⟨cs.length, by simpa using hN.symm⟩
    have hM : cs.length = M := by simpa using hN
    have hbn := hnb (by omega) b o rfl
    have hBl : B ≤ W.heap.size := by have := World.block_lt_of_cell? _ _ hb.yb; simp only at this; omega
    have e9 : nineP (10 - M) = 9 * nineP (10 - (M + 1)) := by rw [show 10 - M = (10 - (M + 1)) + 1 by omega]; rfl
    have hp9 := nineP_le (k := 10 - M) (by omega)
    have hq9 := nineP_pos (10 - (M + 1))
    have hxw := nine_w hrc.2.2 hx
    have hw1 : IntKind.i64.wrap (x * c.w) = x * c.w := IntWalk.i64_in _ ⟨by omega, by omega⟩
    have IH := fun (X : World) (q c' s' : Nat) (x' : Int) (pre' : List (Nat × Int)) (hk : Keeps own W X) (hcr : ChipsR W (some ⟨b, q, none⟩) cs) (h1 : M ≤ c') (h2 : c' ≤ cap) (hs' : s' ≤ 31) (hx' : -(nineP (10 - M)) ≤ x' ∧ x' ≤ nineP (10 - M)) (hj' : J pre' X) (hl' : pre'.length + (famL (cs.map toC) s' x').length ≤ NN) =>
      goF_any l By Bg NN B own J Jx hJ hBy hBg hown hY cs (some ⟨b, q, none⟩) M c' s' x' pre' X hM (by omega) h1 (by omega) (fun c hc => hok c (by simp [hc])) hs' hx' (hb.keeps hk (fun h => by have := hown _ h; omega) (fun h => by have := hown _ h; omega)) (hcr.keeps hk hbn) (fun _ b' o' e => by injection e with e; injection e with e1; subst e1; exact hbn) hj' hl'
    have hJs := fun (X : World) (h : W.Since W.heap.size X) => hJ pre W X none hj ⟨h.os, h.tape, h.output, h.size, fun k hk _ => h.block k hk⟩ (fun r e => by cases e)
    have htW := fun (q : Nat) (hq : q = o + 3 ∨ cap = 1) => ht W q cap (World.Since.refl _ _) (by omega) hq
    have EF := fun (X : World) => ends_any c X hrc
    have hxs : -(nineP (10 - M)) ≤ x ∧ x ≤ nineP (10 - M) := by omega
    have hxv : -(nineP (10 - M)) ≤ x * c.w ∧ x * c.w ≤ nineP (10 - M) := by omega
    obtain ⟨g1, g2⟩ := toC_ok5 h5
    obtain ⟨K, l', V⟩ := c
    obtain ⟨hkk, ⟨hl0, hl10⟩, hv9⟩ := hrc
    simp only at k1 k2 k3 hw1 hxv EF hl0 hv9
    obtain ⟨L, rfl⟩ : ∃ L : Nat, l' = L := ⟨l'.toNat, by omega⟩
    have hCw : (toC ⟨K, (L : Int), V⟩).2.2 = V := toC_w _
    rw [List.map_cons] at hl ⊢
    obtain ⟨CC, hCC⟩ : ∃ CC, toC ⟨K, (L : Int), V⟩ = CC := ⟨_, rfl⟩
    rw [hCC] at hl g1 g2 h5 hCw ⊢
    simp only [hCC] at EF
    by_cases e2 : CC.1 = 2
    · have c1 : chR CC = CC.2.1 := if_pos e2
      have c2 : chK CC = CC.2.1 := if_pos e2
      rw [c1, c2] at EF
      cases hbit : s.testBit CC.2.1 with
      | true =>
        have hf : famL (CC :: cs.map toC) s x = famL (cs.map toC) s (x * V) := by
          show (if CC.1 = 2 then _ else _) = _
          rw [if_pos e2, if_pos hbit, hCw]
        rw [hf] at hl ⊢
        exact goF_h By Bg l own J Jx _ K V x M cap b o s L CC.2.1 W g1 hs hbit hw1 EF hb (fun X q c' h hq h1 h2 => IH X q c' s (x * V) pre (keeps_since h) (htW q hq) h1 h2 hs hxv (hJs X h) hl) h10 hcap hc63 k1 k2 k3
      | false =>
        have hf : famL (CC :: cs.map toC) s x = famL (cs.map toC) s x := by
          show (if CC.1 = 2 then _ else _) = _
          rw [if_pos e2, if_neg (by rw [hbit]; simp)]
        rw [hf] at hl ⊢
        exact goF_g By Bg l own J Jx _ K V x M cap b o s L CC.2.1 CC.2.1 W g1 hs hbit EF hb (fun X q c' h hq h1 h2 => IH X q c' s x pre (keeps_since h) (htW q hq) h1 h2 hs hxs (hJs X h) hl) h10 hcap hc63 k1 k2 k3
    · have c1 : chR CC = cFrom CC := if_neg e2
      have c2 : chK CC = cTo CC := if_neg e2
      rw [c1, c2] at EF
      obtain ⟨hF, hT⟩ := g2 e2
      have hne := (ch_ft h5 e2).2.2
      cases hbF : s.testBit (cFrom CC) with
      | false =>
        have hf : famL (CC :: cs.map toC) s x = famL (cs.map toC) s x := by
          show (if CC.1 = 2 then _ else _) = _
          rw [if_neg e2, if_neg (by rw [hbF]; simp)]
        rw [hf] at hl ⊢
        exact goF_g By Bg l own J Jx _ K V x M cap b o s L (cFrom CC) (cTo CC) W hF hs hbF EF hb (fun X q c' h hq h1 h2 => IH X q c' s x pre (keeps_since h) (htW q hq) h1 h2 hs hxs (hJs X h) hl) h10 hcap hc63 k1 k2 k3
      | true =>
        cases hbT : s.testBit (cTo CC) with
        | true =>
          have hf : famL (CC :: cs.map toC) s x = famL (cs.map toC) s x := by
            show (if CC.1 = 2 then _ else _) = _
            rw [if_neg e2, if_neg (by rw [hbT]; simp)]
          rw [hf] at hl ⊢
          exact goF_m By Bg l own J Jx _ K V x M cap b o s L (cFrom CC) (cTo CC) W hF hT hs hne hbF hbT EF hb (fun X q c' h hq h1 h2 => IH X q c' s x pre (keeps_since h) (htW q hq) h1 h2 hs hxs (hJs X h) hl) h10 hcap hc63 k1 k2 k3
        | false =>
          have hf : famL (CC :: cs.map toC) s x = famL (cs.map toC) (s ^^^ 2 ^ cFrom CC ^^^ 2 ^ cTo CC) (x * V) ++ famL (cs.map toC) s x := by
            show (if CC.1 = 2 then _ else _) = _
            rw [if_neg e2, if_pos ⟨hbF, hbT⟩, hCw]
          rw [hf] at hl ⊢
          obtain ⟨u1, u2⟩ := xorO_fin ⟨s, by omega⟩ ⟨cFrom CC, by omega⟩ ⟨cTo CC, by omega⟩ (fun e => hne (by injection e))
          simp only at u1 u2
          rw [List.length_append] at hl
          rw [← List.append_assoc]
          exact goF_o By Bg l own J Jx (pre ++ famL (cs.map toC) (s ^^^ 2 ^ cFrom CC ^^^ 2 ^ cTo CC) (x * V)) _ K V x M cap b o s L (cFrom CC) (cTo CC) W hF hT hs hne hbF hbT hw1 _ u1 (fun h => by have := hown _ h; omega) (fun k h => by have := hown _ h; omega) EF hb
            (fun X q c' h hq h1 h2 => IH X q c' _ (x * V) pre (keeps_since h) (htW q hq) h1 h2 u2 hxv (hJs X h) (by omega))
            (fun X q c' hm hk hq h1 h2 => IH X q c' s x _ hk (htW q hq) h1 h2 hs hxs hm (by rw [List.length_append]; omega)) h10 hcap hc63 k1 k2 k3

end Go.Proofs.Ytdodchmelepkeaa
end

section
namespace Go.Proofs.Ytdodchmelepkeaa
open Go.RowKit Go.Deep Go.Shelf
attribute [local go_sem] Oper.semAt_some

theorem room_any (k : Nat) : Fence.wide.room k := fun d h => by cases h
theorem yieldAt_any {m m' : Nat} {P : Program} {l : Nat} {args : Array Value} {W : World} {R : Ending → World → Prop} (h : YieldAt Fence.wide m P l args W R) : YieldAt Fence.wide m' P l args W R := by
  obtain ⟨fn, tmps, assign, body, hy, hR⟩ := h
  exact ⟨fn, tmps, assign, body, hy, hR.1, fun c cs _ => hR.2 c cs (room_any _)⟩

theorem step_append_fitsG {P : Program} (w : World) {ops : Array Oper} {o : Oper} {a : Act} {K : Act → World → Prop} {Q : Exit → Act → World → Prop} {E : Prop} (hw : Region.wanted o (yielded ops a.tmps) = true) (s x : Operand) (t : TypeId)
    (hop : o.op = Op.call { callee := Callee.builtin Builtin.append, args := #[s, x], argTypes := #[t, t] })
    (base : Nat) (e : TypeId) (i : TypeInfo) (size : Nat) (h1 : P.underlying t = some (.slice e)) (h2 : P.info? e = some i) (h4 : i.size = size)
    (g k cap : Nat) (xs : List Value) (hs : a.eval s = .slice (some ⟨g, 0, none⟩) k cap) (hown : w.ownsRow base e size (.slice (some ⟨g, 0, none⟩) k cap) k xs) (ad : Addr) (m c : Nat) (news : List Value) (hx : a.eval x = .slice (some ad) m c) (hn : news.length = m * size)
    (hc : ∀ j u, news[j]? = some u → w.cell? (ad.add j) = some u) (h1c : ∀ u ∈ news, u.oneCell' = true) (b1 : k + m ≤ cap)
    (hK : ∀ w', w'.ownsRow base e size (.slice (some ⟨g, 0, none⟩) (k + m) cap) (k + m) (xs ++ news) → w.grownBy w' (some g) → K (a.put o.dst (.slice (some ⟨g, 0, none⟩) (k + m) cap)) w') :
    if Region.wanted o (yielded ops a.tmps) = true then Oper.wp P o a w K Q else E := by
  rw [if_pos hw]
  obtain ⟨w', hrun, r1, r2⟩ := run_append_fits (P := P) w base t o.type e i size h1 h2 h4 g k cap xs hown ad m c news hn hc h1c b1
  unfold Oper.wp
  simp [execOp, hop, resolve, invoke, builtin, hs, hx, hrun, Result.andThen]
  exact hK w' r1 r2

theorem grown_drewC (w : World) (n : Nat) : w.grownBy (w.drewN n) none := ⟨rfl, rfl, rfl, Nat.le_refl _, fun _ _ _ => rfl⟩
theorem undrew {a b : World} {row : Option Nat} (h : a.drew.grownBy b row) : a.grownBy b row := ⟨h.os, h.tape, h.output, h.size, h.block⟩

theorem map_snd {α : Type} (g : Nat) (L : List α) : (([] : List (Nat × α)) ++ L.map (Prod.mk g)).map (fun x => x.2) = L := by
  rw [List.nil_append]
  induction L with
  | nil => rfl
  | cons x L ih => rw [List.map_cons, List.map_cons, ih]

theorem since_rowC {w X Y : World} {row : Option Nat} (h : w.Since w.heap.size X) (hg : X.grownBy Y row) (hr : ∀ r, row = some r → w.heap.size ≤ r) : w.Since w.heap.size Y :=
  ⟨hg.os.trans h.os, hg.tape.trans h.tape, hg.output.trans h.output, Nat.le_trans h.size hg.size, fun k hk => (hg.block k (by have := h.size; omega) (fun e => by have := hr k e.symm; omega)).trans (h.block k hk)⟩

end Go.Proofs.Ytdodchmelepkeaa
end

section
namespace Go.Proofs.Ytdodchmelepkeaa
open Go.RowKit Go.Deep Go.Shelf
attribute [local go_sem] Oper.semAt_some

theorem families_any (a : Option Addr) (N cap : Nat) (s : Int) (w : World) :
    Calls Try.prog 100 #[.slice a N cap, .int .i64 s] w fun e w' => e = .returned (.func (.func 112) #[] #[.pointer (some ⟨w.heap.size, 0, none⟩), .pointer (some ⟨w.heap.size + 1, 0, none⟩)]) ∧ w' = (w.alloc (.cells #[.slice a N cap] 25)).alloc (.cells #[.int .i64 s] 3) := by
  go_enter Try.func100, Try.ntmps100
  go_wp2
  go_ret
  exact ⟨rfl, by simp⟩

set_option maxRecDepth 100000 in
set_option maxHeartbeats 1000000 in
theorem families_stops (k Bc Bf N cap s : Nat) (a : Option Addr) (cs : List RC) (w : World) (hN : cs.length = N) (h10 : N ≤ 10) (hcap : N ≤ cap) (hc63 : cap ≤ 9223372036854775807) (hok : ∀ c ∈ cs, RCok c ∧ chOk 5 (toC c)) (hs : s ≤ 31) (hm : ChipsR w a cs) (hc : w.cell? ⟨Bc, 0, none⟩ = some (.slice a N cap)) (hf : w.cell? ⟨Bf, 0, none⟩ = some (.int .i64 s)) :
    SeqE Fence.wide k Try.prog 112 #[.pointer (some ⟨Bc, 0, none⟩), .pointer (some ⟨Bf, 0, none⟩)] encF (fun x _ => pxF x) (fun q => q = Bc ∨ q = Bf ∨ (0 < N ∧ ∃ b o, a = some ⟨b, o, none⟩ ∧ q = b)) (fun ys => ys = famL (cs.map toC) s 1) (fun _ => True) 1025 w := by
  intro l J Jx own W hW hown hJ hJx hY hj
  refine callsIn_wide.2 ?_
  have hlc := World.block_lt_of_cell? _ _ hc
  have hlf := World.block_lt_of_cell? _ _ hf
  have c1 := (hW.cell (p := ⟨Bc, 0, none⟩) hlc).trans hc
  have c2 := (hW.cell (p := ⟨Bf, 0, none⟩) hlf).trans hf
  have hl : (famL (cs.map toC) s 1).length ≤ 1024 := by
    have h1 := famL_len (cs.map toC) s 1
    have h2 := twoP_le (k := (cs.map toC).length) (by rw [List.length_map]; omega)
    omega
  have hmW : ChipsR W a cs := fun h0 => by
    obtain ⟨b, o, e, hh⟩ := hm h0
    have hbl := World.block_lt_of_cell? _ _ (hh 0 h0).1
    exact ⟨b, o, e, fun i hi => ⟨(hW.cell (p := ⟨b, o + i * 3, none⟩) hbl).trans (hh i hi).1, (hW.cell (p := ⟨b, o + i * 3 + 1, none⟩) hbl).trans (hh i hi).2.1, (hW.cell (p := ⟨b, o + i * 3 + 2, none⟩) hbl).trans (hh i hi).2.2⟩⟩
  have hn1 := nineP_pos (10 - N)
  have HG := Lib.hid (fun (V : World) (hs2 : W.Since W.heap.size V) (hb : FB W.heap.size (W.heap.size + 1) l V) (hjv : J [] V) =>
    goF_any l W.heap.size (W.heap.size + 1) 1025 W.heap.size own J Jx hJ (Nat.le_refl _) (by omega) (fun k hk => (hown k hk).1) (fun m pre x V' hp hpx hl => yieldAt_any (hY pre x V' hp hpx hl)) cs a N cap s 1 [] V hN h10 hcap hc63 hok hs ⟨by omega, by omega⟩ hb (hmW.since hs2) (fun h0 b o e h => (hown _ h).2 (.inr (.inr ⟨h0, b, o, e, rfl⟩))) hjv (by simp; omega))
  have HJ := Lib.hid hJ
  have HJJ := Lib.hid hj
  have d1 := fun o1 o2 => cell_alloc_l o2 (cell_alloc_l o1 c1)
  have d2 := fun o1 o2 => cell_alloc_l o2 (cell_alloc_l o1 c2)
  clear hJ hJx hY hj hown hmW hm hok hl
  go_enter Try.func112, Try.ntmps112
  go_wp2_with fail
  refine (HG.out _ (((World.Since.refl _ _).alloc (Nat.le_refl _) _).alloc (by simp) _) ⟨cell_alloc_l _ (cell_new_l W _ _).1, ?hbg⟩ (HJ.out.alloc _ (HJ.out.alloc _ HJJ.out))).mono ?_
  case hbg => rw [← World.size_alloc W (.cells #[.func (.yield l) #[] #[]] 70)]; exact (cell_new_l _ _ _).1
  rintro e w2 (⟨rfl, hj2, hk2⟩ | ⟨rfl, ⟨q, hq⟩, hk2⟩)
  · go_wp2_with fail
    go_end0
    exact ⟨⟨_, rfl⟩, .inl ⟨_, rfl, hj2⟩⟩
  · go_wp2_with fail
    go_end0
    exact ⟨⟨_, rfl⟩, .inr ⟨_, trivial, hq⟩⟩

end Go.Proofs.Ytdodchmelepkeaa
end

section
namespace Go.Proofs.Ytdodchmelepkeaa
open Go.RowKit Go.Deep

set_option maxHeartbeats 400000 in
theorem netIn1_any (K : ByteArray) (L V : Int) (n Bn : Nat) (hn2 : 2 ≤ n) (hn5 : n ≤ 5) (w : World) (hb : w.cell? ⟨Bn, 0, none⟩ = some (.int .i64 n)) :
    Calls Try.prog 48 #[.agg #[.string K, .int .i64 L, .int .i64 V], .pointer (some ⟨Bn, 0, none⟩)] w fun e w' => e = .returned (.bool (!chipB n ⟨K, L, V⟩)) ∧ w.Since w.heap.size w' := by
  have E := Lib.hid (fun (W : World) => isIn_any K L V n hn2 hn5 W)
  obtain ⟨d1, d2, d3⟩ := chip_box w K L V 52
  have HS := Lib.hid ((World.Since.refl w.heap.size w).alloc (Nat.le_refl _) (.cells #[.string K, .int .i64 L, .int .i64 V] 52))
  have hb' := cell_alloc_l (.cells #[.string K, .int .i64 L, .int .i64 V] 52) hb
  clear hb
  go_enter Try.func48, Try.ntmps48
  go_wp2_with (go_at_call 49; refine (E.out _).mono ?_; rintro e w1 ⟨rfl, hs1⟩; have HS1 := Lib.hid (HS.out.trans (since_mono hs1 HS.out.size)); clear hs1)
  go_ret
  exact ⟨rfl, HS1.out⟩

theorem all_no {n : Int} {cs : List RC} {i : Nat} (hi : i < cs.length) (h : chipB n (cs.getD i rc0) = false) : cs.all (chipB n) = false := by
  cases e : cs.all (chipB n) with
  | false => rfl
  | true =>
    have h1 := List.all_eq_true.1 e (cs.getD i rc0) (by
      have : cs.getD i rc0 = cs[i] := by simp [List.getD, hi]
      rw [this]; exact List.getElem_mem _)
    rw [h] at h1; cases h1
theorem all_yes {n : Int} {cs : List RC} (h : ∀ i, i < cs.length → chipB n (cs.getD i rc0) = true) : cs.all (chipB n) = true := List.all_eq_true.2 fun c hc => by
  obtain ⟨i, hi, e⟩ := List.mem_iff_getElem.1 hc
  have := h i hi
  rw [show cs.getD i rc0 = cs[i] by simp [List.getD, hi], e] at this
  exact this

def IdxPost (b : Bool) (w : World) (e : Ending) (w' : World) : Prop := ∃ z : Int, e = .returned (.int .i64 z) ∧ decide (0 ≤ z) = !b ∧ w.Since w.heap.size w'

set_option maxRecDepth 100000 in
set_option maxHeartbeats 400000 in
theorem indexF_any (a : Option Addr) (cap N n Bn : Nat) (cs : List RC) (w : World) (hN : cs.length = N) (h10 : N ≤ 10) (hn2 : 2 ≤ n) (hn5 : n ≤ 5) (hm : ChipsR w a cs) (hb : w.cell? ⟨Bn, 0, none⟩ = some (.int .i64 n)) :
    Calls Try.prog 85 #[.slice a N cap, .func (.func 48) #[] #[.pointer (some ⟨Bn, 0, none⟩)]] w (IdxPost (cs.all (chipB n)) w) := by
  have E := Lib.hid (fun (W : World) (hs : w.Since w.heap.size W) (K : ByteArray) (L V : Int) => netIn1_any K L V n Bn hn2 hn5 W ((hs.cell (World.block_lt_of_cell? _ _ hb)).trans hb))
  have HN := Lib.hid hN
  have HM := Lib.hid hm
  have HF := Lib.hid (fun (i : Nat) (hi : i < N) h => all_no (n := n) (cs := cs) (i := i) (by omega) h)
  have HT := Lib.hid (fun h => all_yes (n := (n : Int)) (cs := cs) h)
  clear hN hm hb
  go_enter Try.func85, Try.ntmps85
  go_wp2_with fail
  go_loopg [5, 8] N (fun g _ i wr => ∃ r : Nat, r ≤ N ∧ g = N - r ∧ i = .int .i64 r ∧ w.Since w.heap.size wr ∧ ∀ j, j < r → chipB n (cs.getD j rc0) = true)
  case atStart => exact ⟨0, Nat.zero_le _, rfl, rfl, World.Since.refl _ _, fun j hj => by omega⟩
  case round =>
    obtain ⟨r, hr, rfl, rfl, hS, hall⟩ := hrel
    by_cases hlt : r < N
    · obtain ⟨b, o, rfl, k1, k2, k3⟩ := HM.out.at (show r < cs.length by rw [HN.out]; exact hlt)
      have c1 := (hS.cell (World.block_lt_of_cell? _ _ k1)).trans k1
      have c2 := (hS.cell (World.block_lt_of_cell? _ _ k2)).trans k2
      have c3 := (hS.cell (World.block_lt_of_cell? _ _ k3)).trans k3
      have hf := HF.out r hlt
      have ht := fun (h : chipB n (cs.getD r rc0) = true) => show ∀ j, j < r + 1 → chipB n (cs.getD j rc0) = true from fun j hj => by
        by_cases e : j = r
        · subst e; exact h
        · exact hall j (by omega)
      obtain ⟨c, hc⟩ : ∃ c, cs.getD r rc0 = c := ⟨_, rfl⟩
      rw [hc] at c1 c2 c3 hf ht
      obtain ⟨K, L, V⟩ := c
      simp only at c1 c2 c3
      have E1 := E.out wr hS K L V
      have HS := Lib.hid hS
      have HTT := Lib.hid ht
      cases hcb : chipB n ⟨K, L, V⟩ with
      | false =>
        have HFF := Lib.hid (hf hcb)
        rw [hcb] at E1
        replace E1 := Lib.hid E1
        clear k1 k2 k3 hc hcb hf hall hS ht
        go_wp2_with (go_at_call 48; refine (E1.out).mono ?_; rintro e w1 ⟨rfl, hs1⟩; have HS1 := Lib.hid (HS.out.trans (since_mono hs1 HS.out.size)); clear hs1)
        go_ret
        exact ⟨_, rfl, by rw [HFF.out]; simp, HS1.out⟩
      | true =>
        rw [hcb] at E1
        replace E1 := Lib.hid E1
        have HTA := Lib.hid (ht hcb)
        clear k1 k2 k3 hc hcb hf hall hS ht HTT
        go_wp2_with (go_at_call 48; refine (E1.out).mono ?_; rintro e w1 ⟨rfl, hs1⟩; have HS1 := Lib.hid (HS.out.trans (since_mono hs1 HS.out.size)); clear hs1)
        go_roundg (N - (r + 1))
        case measure => omega
        case rel => exact ⟨r + 1, by omega, rfl, by go_num, HS1.out, HTA.out⟩
    · obtain rfl : r = N := by omega
      have HTA := Lib.hid (HT.out (fun i hi => hall i (by rw [HN.out] at hi; exact hi)))
      have HS := Lib.hid hS
      clear hall hS
      go_wp2_with fail
      go_ret
      exact ⟨_, rfl, by rw [HTA.out]; rfl, HS.out⟩

set_option maxHeartbeats 400000 in
theorem containsF_any (a : Option Addr) (cap N n Bn : Nat) (cs : List RC) (w : World) (hN : cs.length = N) (h10 : N ≤ 10) (hn2 : 2 ≤ n) (hn5 : n ≤ 5) (hm : ChipsR w a cs) (hb : w.cell? ⟨Bn, 0, none⟩ = some (.int .i64 n)) :
    Calls Try.prog 47 #[.slice a N cap, .func (.func 48) #[] #[.pointer (some ⟨Bn, 0, none⟩)]] w fun e w' => e = .returned (.bool (!cs.all (chipB n))) ∧ w.Since w.heap.size w' := by
  have E := Lib.hid (indexF_any a cap N n Bn cs w hN h10 hn2 hn5 hm hb)
  obtain ⟨b, hbb⟩ : ∃ b, cs.all (chipB n) = b := ⟨_, rfl⟩
  rw [hbb] at E ⊢
  clear hbb hN hm hb
  go_enter Try.func47, Try.ntmps47
  go_wp2_with (go_at_call 85; refine (E.out).mono ?_; rintro e w1 ⟨z, rfl, hz, hs1⟩; have HZ := Lib.hid hz; have HS1 := Lib.hid hs1; clear hs1 hz)
  go_ret
  exact ⟨ret_bool HZ.out, HS1.out⟩

set_option maxHeartbeats 400000 in
theorem implNetIn_any (a : Option Addr) (cap N : Nat) (n : Int) (cs : List RC) (w : World) (hN : cs.length = N) (h63 : N ≤ 9223372036854775807) (hm : ChipsR w a cs) :
    Calls Try.prog 16 #[.int .i64 n, .slice a N cap] w fun e w' => e = .returned (.bool (netB n cs)) ∧ w.Since w.heap.size w' := by
  have hv : netB n cs = (inB n 2 5 && (decide (N ≤ 10) && cs.all (chipB n))) := by unfold netB; rw [hN]
  have HS := Lib.hid ((World.Since.refl w.heap.size w).alloc (Nat.le_refl _) (.cells #[.int .i64 n] 3))
  have hbx := (cell_new_l w (.int .i64 n) 3).1
  obtain ⟨b, hbb⟩ : ∃ b, inB n 2 5 = b := ⟨_, rfl⟩
  rw [hbb] at hv
  have E := fun (W : World) => inRange_any n 2 5 W
  simp only [hbb] at E
  replace E := Lib.hid E
  cases b with
  | false =>
    rw [hv, Bool.false_and]
    clear hv hbb hN hm
    go_enter Try.func16, Try.ntmps16
    go_wp2_with (go_at_call 46; refine (E.out _).mono ?_; rintro e w' ⟨rfl, rfl⟩)
    go_ret
    exact ⟨rfl, HS.out⟩
  | true =>
    unfold inB at hbb
    have hbb := of_decide_eq_true hbb
    obtain ⟨m, rfl⟩ : ∃ m : Nat, n = m := ⟨n.toNat, by omega⟩
    rw [Bool.true_and] at hv
    by_cases h10 : N ≤ 10
    · rw [decide_eq_true h10, Bool.true_and] at hv
      have hl' : decide ((10 : Int) < (N : Int)) = false := by simp; omega
      have E2 := Lib.hid (containsF_any a cap N m w.heap.size cs (w.alloc (.cells #[.int .i64 m] 3)) hN h10 (by omega) (by omega) (hm.since ((World.Since.refl w.heap.size w).alloc (Nat.le_refl _) _)) hbx)
      obtain ⟨q, hq⟩ : ∃ q, cs.all (chipB m) = q := ⟨_, rfl⟩
      rw [hq] at hv E2
      rw [hv]
      clear hv hbb hN hm hq
      go_enter Try.func16, Try.ntmps16
      go_wp2_with (first
        | (go_at_call 46; refine (E.out _).mono ?_; rintro e w' ⟨rfl, rfl⟩)
        | (go_at_call 47; refine (E2.out).mono ?_; rintro e w1 ⟨rfl, hs1⟩; have HS1 := Lib.hid (HS.out.trans (since_mono hs1 HS.out.size)); clear hs1))
      go_ret
      exact ⟨by simp, HS1.out⟩
    · rw [decide_eq_false h10, Bool.false_and] at hv
      have hl' : decide ((10 : Int) < (N : Int)) = true := by simp; omega
      rw [hv]
      clear hv hbb hN hm
      go_enter Try.func16, Try.ntmps16
      go_wp2_with (go_at_call 46; refine (E.out _).mono ?_; rintro e w' ⟨rfl, rfl⟩)
      go_ret
      exact ⟨rfl, HS.out⟩

end Go.Proofs.Ytdodchmelepkeaa
end

section
namespace Go.Proofs.Ytdodchmelepkeaa
open Go.RowKit Go.Deep Go.Shelf
attribute [local go_sem] Oper.semAt_some

structure SBF (w : World) (y : Int) (W : World) : Prop where
  bs : Boxed W w.heap.size 3 (.int .i64 y)
  sn : w.Since w.heap.size W
theorem SBF.kept {w W W' : World} {y : Int} {row : Option Nat} (h : SBF w y W) (hg : W.grownBy W' row) (hr : ∀ r, row = some r → w.heap.size + 1 ≤ r) : SBF w y W' :=
  ⟨h.bs.kept hg (fun e => by have := hr _ e.symm; omega), h.sn.grown hg h.sn.size (fun k e => by have := hr k e; omega)⟩
theorem SBF.set {w W : World} {y : Int} (h : SBF w y W) (z : Int) : SBF w z (W.setCell ⟨w.heap.size, 0, none⟩ (.int .i64 z)) :=
  ⟨h.bs.set _, h.sn.setCell (Nat.le_refl _) _⟩
theorem sbf_start (w : World) (y : Int) : SBF w y (w.alloc (.cells #[.int .i64 y] 3)) := ⟨Boxed.new w 3 (.int .i64 y), (World.Since.refl _ w).alloc (Nat.le_refl _) _⟩
theorem sumTo2_snoc (t : Nat) (l : List (Nat × Int)) (x : Nat × Int) : sumTo2 t (l ++ [x]) = if x.1 = t then sumTo2 t l + x.2 else sumTo2 t l := by
  rw [sumTo2_app]
  unfold sumTo2
  simp only [List.foldl_cons, List.foldl_nil]
  split <;> simp

set_option maxRecDepth 100000 in
set_option maxHeartbeats 1000000 in
theorem familySum_any (a : Option Addr) (N cap s t : Nat) (cs : List RC) (w : World) (hN : cs.length = N) (h10 : N ≤ 10) (hcap : N ≤ cap) (hc63 : cap ≤ 9223372036854775807) (hok : ∀ c ∈ cs, RCok c ∧ chOk 5 (toC c)) (hs : s ≤ 31) (ht : t ≤ 31) (hm : ChipsR w a cs) :
    Calls Try.prog 72 #[.slice a N cap, .int .i64 s, .int .i64 t] w fun e w' => e = .returned (.int .i64 (famN (cs.map toC) s t)) ∧ w.Since w.heap.size w' := by
  have hfs : sumTo2 t (famL (cs.map toC) s 1) = famN (cs.map toC) s t := by rw [famL_sum]; omega
  have HM := Lib.hid hm
  have HOK := Lib.hid hok
  have HFS := Lib.hid hfs
  clear hm hok hfs
  refine (callsIn_wide (n := 9)).1 ?_
  refine callsIn_of_wp_marks Try.func72 rfl trivial ?_ rfl
  simp only [Try.ntmps72, List.size_toArray, List.length_cons, List.length_nil, Nat.reduceAdd, Nat.reduceSub, Array.replicate_succ, Array.replicate_zero, List.push_toArray, List.append_toArray, List.nil_append, List.cons_append]
  gi_wp2_with (refine ⟨trivial, ?_⟩; gi_at_call 100; refine (callsIn_wide.2 (families_any a N cap _ _)).mono ?_; rintro e w' ⟨rfl, rfl⟩)
  obtain ⟨w1, hw1⟩ : ∃ w1, w.alloc (.cells #[.int .i64 (t : Int)] 3) = w1 := ⟨_, rfl⟩
  have hz1 : w1.heap.size = w.heap.size + 1 := by rw [← hw1]; simp
  have hs1 : w.Since w.heap.size w1 := by rw [← hw1]; exact (World.Since.refl _ _).alloc (Nat.le_refl _) _
  have ct : w1.cell? ⟨w.heap.size, 0, none⟩ = some (.int .i64 t) := by rw [← hw1]; exact (cell_new_l w _ 3).1
  have hP2 := ((sbf_start w1 0).kept (World.grownBy_alloc _ (.cells #[.slice a N cap] 25) none) (fun r e => by cases e)).kept (World.grownBy_alloc _ (.cells #[.int .i64 (s : Int)] 3) none) (fun r e => by cases e)
  have hbc := cell_alloc_l (.cells #[.int .i64 (s : Int)] 3) (cell_new_l (w1.alloc (.cells #[.int .i64 0] 3)) (.slice a N cap) 25).1
  have hbf := (cell_new_l ((w1.alloc (.cells #[.int .i64 0] 3)).alloc (.cells #[.slice a N cap] 25)) (.int .i64 (s : Int)) 3).1
  have hz2 : (((w1.alloc (.cells #[.int .i64 0] 3)).alloc (.cells #[.slice a N cap] 25)).alloc (.cells #[.int .i64 (s : Int)] 3)).heap.size = w1.heap.size + 3 := by simp
  simp only [World.size_alloc] at hbc hbf
  rw [hw1]
  obtain ⟨W0, hW0⟩ : ∃ W0, ((w1.alloc (.cells #[.int .i64 0] 3)).alloc (.cells #[.slice a N cap] 25)).alloc (.cells #[.int .i64 (s : Int)] 3) = W0 := ⟨_, rfl⟩
  rw [hW0] at hbc hbf hP2 hz2 ⊢
  rw [hz1] at hbc hbf hz2
  have hmW := HM.out.since (hs1.trans (since_mono hP2.sn hs1.size))
  clear hW0 hw1
  have hneed : ∀ q, (q = w.heap.size + 1 + 1 ∨ q = w.heap.size + 1 + 1 + 1 ∨ (0 < N ∧ ∃ b o, a = some ⟨b, o, none⟩ ∧ q = b)) → q < W0.heap.size ∧ q ≠ w1.heap.size := fun q hq => by
    rcases hq with rfl | rfl | ⟨h0, b, o, e, rfl⟩
    · omega
    · omega
    · obtain ⟨b', o', e', hc⟩ := HM.out (by omega)
      have hl := World.block_lt_of_cell? _ _ (hc 0 (by omega)).1
      rw [e] at e'
      injection e' with e'
      injection e' with e1
      simp only at hl
      omega
  refine rangeC (F := Fence.wide) (n := 9) rfl (by omega) (gf := 112) (lb := #[.pointer (some ⟨w.heap.size + 1 + 1, 0, none⟩), .pointer (some ⟨w.heap.size + 1 + 1 + 1, 0, none⟩)]) rfl trivial (enters_of Try.func112 (by kernel_rfl) rfl)
    (families_stops 8 (w.heap.size + 1 + 1) (w.heap.size + 1 + 1 + 1) N cap s a cs W0 hN h10 hcap hc63 HOK.out hs hmW hbc hbf).toC (fun _ => rfl) (fun _ _ _ _ _ h _ _ => h) (fun k => k = w1.heap.size) (by rintro k rfl; exact ⟨by omega, fun h => (hneed _ h).2 rfl⟩) (fun k h => (hneed k h).1)
    (fun (pre : List (Nat × Int)) W => SBF w1 (sumTo2 t pre) W ∧ pre.length ≤ 1025 ∧ ∀ x ∈ pre, -10000000000 ≤ x.2 ∧ x.2 ≤ 10000000000)
    (fun pre X Y row hs hg hr => ⟨hs.1.kept hg (fun r e => by have := hr r e; omega), hs.2⟩)
    ⟨hP2, by simp⟩
    (fun x => { tmps := #[.slice a N cap, .int .i64 s, .int .i64 t, undef, undef, .pointer (some ⟨w.heap.size, 0, none⟩), .int .i64 0, .pointer (some ⟨w.heap.size + 1, 0, none⟩), .int .i64 (x.1 : Int), .int .i64 x.2, .slice a N cap, .int .i64 s, .func (.func 112) #[] #[.pointer (some ⟨w.heap.size + 1 + 1, 0, none⟩), .pointer (some ⟨w.heap.size + 1 + 1 + 1, 0, none⟩)], .int .i64 (x.1 : Int), .int .i64 x.2, undef, undef, undef, undef, undef, undef, undef], defers := [] }) ?assign ?body ?done
  case assign =>
    intro lp x W K hK
    simp only [encF]
    gi_wp2
    exact hK
  case body =>
    rintro lp pre x W hl ⟨hv, hpl, hpre⟩ hpx hlen
    have hyb := sumTo2_bd t (B := 10000000000) (by omega) pre hpre
    have hsn := sumTo2_snoc t pre x
    have hx9 := nineP_le (k := 10) (by omega)
    obtain ⟨_, hx1, hx2⟩ := hpx
    have hmul : (10000000000 : Int) * pre.length ≤ 10000000000 * 1025 := Int.mul_le_mul_of_nonneg_left (by omega) (by omega)
    obtain ⟨y, hy⟩ : ∃ y, sumTo2 t pre = y := ⟨_, rfl⟩
    rw [hy] at hv hyb hsn
    obtain ⟨x1, x2⟩ := x
    simp only at hx1 hx2 hsn ⊢
    have hws : IntKind.i64.wrap (y + x2) = y + x2 := IntWalk.i64_in _ ⟨by omega, by omega⟩
    have cS : W.cell? ⟨w.heap.size + 1, 0, none⟩ = some (.int .i64 y) := by rw [← hz1]; exact hv.bs.cell
    have fS : W.frozen? ⟨w.heap.size + 1, 0, none⟩ = false := by rw [← hz1]; exact hv.bs.frozen
    have cT : W.cell? ⟨w.heap.size, 0, none⟩ = some (.int .i64 t) := (hv.sn.cell (by show w.heap.size < _; omega)).trans ct
    have HSN := Lib.hid hsn
    have HV := Lib.hid hv
    have HPRE := Lib.hid (show ∀ x' ∈ pre ++ [(x1, x2)], -10000000000 ≤ x'.2 ∧ x'.2 ≤ 10000000000 from fun x' hx' => by
      rcases List.mem_append.1 hx' with h | h
      · exact hpre x' h
      · simp at h; subst h; simp only; omega)
    have hl2 : (pre ++ [(x1, x2)]).length ≤ 1025 := by rw [List.length_append, List.length_singleton]; omega
    clear hyb hmul hsn hv hpre hy
    by_cases he : x1 = t
    · subst he
      have hS := HSN.out
      rw [if_pos rfl] at hS
      have HS2 := Lib.hid hS
      clear hS HSN
      gi_wp2
      exact ⟨Keeps.grown (grownBy_setCell' W (w.heap.size + 1) _) (fun r e => by cases e; rfl), by rw [HS2.out, ← hz1]; exact HV.out.set _, hl2, fun p q h => HPRE.out (p, q) h⟩
    · have heb : ((x1 : Int) == (t : Int)) = false := by simp; omega
      have hS := HSN.out
      rw [if_neg he] at hS
      have HS2 := Lib.hid hS
      clear hS HSN he
      gi_wp2
      exact ⟨Keeps.refl _ _, by rw [HS2.out]; exact HV.out, hl2, fun p q h => HPRE.out (p, q) h⟩
  case done =>
    rintro D ys W hD hS ⟨hv, _⟩ hK
    rw [hS, HFS.out] at hv
    have cS : W.cell? ⟨w.heap.size + 1, 0, none⟩ = some (.int .i64 (famN (cs.map toC) s t)) := by rw [← hz1]; exact hv.bs.cell
    have hlt := hv.bs.lt
    have HS := Lib.hid (since_rowC (hs1.trans (since_mono hv.sn hs1.size)) (grownBy_putObj' W D (.deferred none)) (fun r e => by cases e; omega))
    obtain ⟨y, hyy⟩ : ∃ y, famN (cs.map toC) s t = y := ⟨_, rfl⟩
    rw [hyy] at cS
    have HYY := Lib.hid hyy
    clear hv hS hyy
    gi_wp2
    refine ⟨by simp, .inl ⟨_, _, rfl, run_takeDeferred hK, ?_⟩⟩
    refine ⟨.int .i64 y, ?_, by rw [HYY.out], HS.out⟩
    simp [results, Try.f72, go_sem]

end Go.Proofs.Ytdodchmelepkeaa
end

section
namespace Go.Proofs.Ytdodchmelepkeaa
open Go.RowKit Go.Deep

theorem bit0_fin : ∀ s : Fin 64, ∀ i : Fin 6, (bits BinOp.and IntKind.i64 ((s.val : Int) / 2 ^ i.val) 1 == 0) = !s.val.testBit i.val := by decide +kernel
theorem bit0_any (s i : Nat) (hs : s ≤ 63) (hi : i ≤ 5) : (bits BinOp.and IntKind.i64 ((s : Int) / 2 ^ i) 1 == 0) = !s.testBit i := bit0_fin ⟨s, by omega⟩ ⟨i, by omega⟩
theorem pow_wrap (n : Nat) (h : n ≤ 6) : wrap64 (wrap64 (2 ^ n) - 1) = ((2 ^ n - 1 : Nat) : Int) := by
  have h : n = 0 ∨ n = 1 ∨ n = 2 ∨ n = 3 ∨ n = 4 ∨ n = 5 ∨ n = 6 := by omega
  rcases h with rfl | rfl | rfl | rfl | rfl | rfl | rfl <;> decide +kernel

end Go.Proofs.Ytdodchmelepkeaa
end

section
namespace Go.Proofs.Ytdodchmelepkeaa
open Go.RowKit Go.Deep

noncomputable def sqB (l : List (List Int)) : Bool := tabIn l && (l.length == (l.getD 0 []).length)
theorem sqB_of {l : List (List Int)} (h : sqB l = true) : TabIn l ∧ l.length = (l.getD 0 []).length := by
  unfold sqB at h
  rw [Bool.and_eq_true] at h
  exact ⟨tabIn_of h.1, by simpa using h.2⟩

end Go.Proofs.Ytdodchmelepkeaa
end

section
namespace Go.Proofs.Ytdodchmelepkeaa
open Go.RowKit Go.Deep

theorem orS_fin : ∀ s : Fin 64, ∀ k : Fin 6, bits BinOp.or IntKind.i64 (s.val : Int) (2 ^ k.val) = ((s.val ||| 2 ^ k.val : Nat) : Int) := by decide +kernel
theorem orS_lt : ∀ s : Fin 64, ∀ k : Fin 6, s.val ||| 2 ^ k.val ≤ 63 := by decide +kernel
theorem pow_in : ∀ k : Fin 6, IntKind.i64.wrap ((2 : Int) ^ k.val) = (2 : Int) ^ k.val := by decide +kernel
theorem popcS_le (s : Nat) : popcS s ≤ 6 := sel_length s 6 6

end Go.Proofs.Ytdodchmelepkeaa
end

section
namespace Go.Proofs.Ytdodchmelepkeaa
open Go.RowKit Go.Deep

def SpecV (w : World) (ok : Bool) (x : Int) (e : Ending) (w' : World) : Prop := e = .returned (.tuple #[.int .i64 (if ok then x else 0), .bool ok]) ∧ Drawn w w'

def trF (l : List (List Int)) (i : Nat) : Int := at2 l i i

end Go.Proofs.Ytdodchmelepkeaa
end

section
namespace Go.Proofs.Ytdodchmelepkeaa
open Go.RowKit Go.Deep

theorem andNot_fin : ∀ n : Fin 7, ∀ k : Fin 6, k.val < n.val → bits BinOp.andNot IntKind.i64 ((2 ^ n.val - 1 : Nat) : Int) (2 ^ k.val) = ((2 ^ n.val - 1 - 2 ^ k.val : Nat) : Int) := by decide +kernel
theorem less_fin : ∀ n : Fin 7, 1 ≤ n.val → IntKind.i64.wrap (((2 ^ n.val - 1 : Nat) : Int) - 1) = ((2 ^ n.val - 2 : Nat) : Int) := by decide +kernel
theorem pow63 : ∀ n : Fin 7, 2 ^ n.val - 1 ≤ 63 := by decide +kernel

def SpecW (w : World) (ok : Bool) (x : Int) (e : Ending) (w' : World) : Prop := e = .returned (.tuple #[.int .i64 (if ok then x else 0), .bool ok]) ∧ w.Since w.heap.size w'

end Go.Proofs.Ytdodchmelepkeaa
end

section
namespace Go.Proofs.Ytdodchmelepkeaa
open Go.RowKit Go.Deep

theorem sn_tmod (k : Nat) (h : k < 64) : (Int.tmod (k : Int) 2 == 0) = !decide (k % 2 = 1) := by
  have h2 : ∀ k : Fin 64, (Int.tmod (k.val : Int) 2 == 0) = !decide (k.val % 2 = 1) := by decide +kernel
  exact h2 ⟨k, h⟩

end Go.Proofs.Ytdodchmelepkeaa
end

section
namespace Go.Proofs.Ytdodchmelepkeaa
open Go.RowKit Go.Deep

def oc1 (s : Int) : Int := IntKind.u64.wrap (bits BinOp.and IntKind.u64 (s / 2) 6148914691236517205 + bits BinOp.and IntKind.u64 s 6148914691236517205)
def oc2 (x : Int) : Int := IntKind.u64.wrap (bits BinOp.and IntKind.u64 (x / 4) 3689348814741910323 + bits BinOp.and IntKind.u64 x 3689348814741910323)
def oc3 (x : Int) : Int := bits BinOp.and IntKind.u64 (IntKind.u64.wrap (x / 16 + x)) 1085102592571150095
def oc4 (x : Int) : Int := IntKind.u64.wrap (x + x / 256)
def oc5 (x : Int) : Int := IntKind.u64.wrap (x + x / 65536)
def oc6 (x : Int) : Int := IntKind.u64.wrap (x + x / 4294967296)
def ocF (s : Int) : Int := bits BinOp.and IntKind.i64 (wrap64 (oc6 (oc5 (oc4 (oc3 (oc2 (oc1 s))))))) 127
theorem ocF_fin : ∀ s : Fin 64, ocF s.val = popcS s.val := by decide +kernel

set_option maxRecDepth 100000 in
set_option maxHeartbeats 1000000 in
theorem ones64_any (s : Nat) (h : s < 64) (w : World) :
    Calls Try.prog 111 #[.int .u64 s] w fun e w' => e = .returned (.int .i64 (popcS s)) ∧ w = w' := by
  go_enter Try.func111, Try.ntmps111
  go_wp2
  go_ret
  refine ⟨?_, rfl⟩
  have e := ocF_fin ⟨s, h⟩
  simp only [ocF, oc6, oc5, oc4, oc3, oc2, oc1] at e
  exact congrArg (fun z => Ending.returned (Value.int IntKind.i64 z)) e

set_option maxHeartbeats 400000 in
theorem ones_any (s : Nat) (h : s < 64) (w : World) :
    Calls Try.prog 99 #[.int .u64 s] w fun e w' => e = .returned (.int .i64 (popcS s)) ∧ w = w' := by
  have E := Lib.hid (ones64_any s h w)
  go_enter Try.func99, Try.ntmps99
  go_wp2_with fail
  refine (E.out).mono ?_
  rintro e w' ⟨rfl, rfl⟩
  go_wp2
  go_ret
  exact ⟨rfl, rfl⟩

set_option maxHeartbeats 400000 in
theorem members_any (s : Nat) (h : s < 64) (w : World) :
    Calls Try.prog 71 #[.int .i64 s] w fun e w' => e = .returned (.int .i64 (popcS s)) ∧ w = w' := by
  have E := Lib.hid (ones_any s h w)
  go_enter Try.func71, Try.ntmps71
  go_wp2_with fail
  refine (E.out).mono ?_
  rintro e w' ⟨rfl, rfl⟩
  go_wp2
  go_ret
  exact ⟨rfl, rfl⟩

set_option maxHeartbeats 400000 in
theorem isSet_any (x : Int) (n : Nat) (hn : n ≤ 6) (w : World) :
    Calls Try.prog 70 #[.int .i64 x, .int .i64 n] w fun e w' => e = .returned (.bool (inB x 0 (2 ^ n - 1 : Nat))) ∧ w = w' := by
  have E1 := Lib.hid (fullSet_any n hn w)
  have E2 := Lib.hid (inRange_any x 0 (2 ^ n - 1 : Nat) w)
  go_enter Try.func70, Try.ntmps70
  go_wp2_with fail
  refine (E1.out).mono ?_
  rintro e w' ⟨rfl, rfl⟩
  go_wp2_with fail
  refine (E2.out).mono ?_
  rintro e w' ⟨rfl, rfl⟩
  go_wp2
  go_ret
  exact ⟨rfl, rfl⟩

end Go.Proofs.Ytdodchmelepkeaa
end

section
namespace Go.Proofs.Ytdodchmelepkeaa
open Go.RowKit Go.Deep

theorem chOk_mono {n : Nat} {c : CH} (h : chOk n c) (hn : n ≤ 5) : chOk 5 c := by
  unfold chOk at h ⊢
  refine ⟨h.1, ?_⟩
  have h2 := h.2
  split
  · rename_i e
    rw [if_pos e] at h2
    omega
  · rename_i e
    rw [if_neg e] at h2
    omega

set_option maxHeartbeats 400000 in
theorem implNetFamilies_any (a : Option Addr) (cap N : Nat) (n s t : Int) (cs : List RC) (w : World) (hN : cs.length = N) (hcap : N ≤ cap) (h63 : cap ≤ 9223372036854775807) (hm : ChipsR w a cs) :
    Calls Try.prog 27 #[.int .i64 n, .slice a N cap, .int .i64 s, .int .i64 t] w fun e w' => e = .returned (.tuple #[.int .i64 (famsV n cs s t), .bool (famsB n cs s t)]) ∧ w.Since w.heap.size w' := by
  have E := implNetIn_any a cap N n cs w hN (by omega) hm
  cases hb : netB n cs with
  | false =>
    have hl : famsB n cs s t = false := by unfold famsB; rw [hb, Bool.false_and]
    unfold famsV
    rw [hl, if_neg (by simp)]
    rw [hb] at E
    replace E := Lib.hid E
    clear hb hm hN hl
    go_enter Try.func27, Try.ntmps27
    go_wp2_with (go_at_call 16; refine (E.out).mono ?_; rintro e w1 ⟨rfl, hs1⟩; have HS1 := Lib.hid hs1; clear hs1)
    go_ret2
    exact ⟨rfl, HS1.out⟩
  | true =>
    obtain ⟨m, rfl, ho⟩ := netB_ok hb
    rw [hb] at E
    replace E := Lib.hid E
    have hn2 := ho.lo
    have hn5 := ho.hi
    have h10 := ho.len
    rw [hN] at h10
    obtain ⟨_, p3, p4, p5⟩ := p5_fin ⟨m, by omega⟩
    simp only at p3 p4 p5
    have hlb : famsB m cs s t = (inB s 0 ((2 ^ m - 1 : Nat) : Int) && (inB t 0 ((2 ^ m - 1 : Nat) : Int) && (popcS s.toNat == popcS t.toNat))) := by
      unfold famsB
      rw [hb, Bool.true_and, Int.toNat_natCast, p3, show ((2 ^ m : Nat) : Int) - 1 = ((2 ^ m - 1 : Nat) : Int) by omega]
    have E1 := fun (W : World) => isSet_any s m (by omega) W
    have E2 := fun (W : World) => isSet_any t m (by omega) W
    obtain ⟨b1, hb1⟩ : ∃ b, inB s 0 ((2 ^ m - 1 : Nat) : Int) = b := ⟨_, rfl⟩
    obtain ⟨b2, hb2⟩ : ∃ b, inB t 0 ((2 ^ m - 1 : Nat) : Int) = b := ⟨_, rfl⟩
    simp only [hb1] at E1
    simp only [hb2] at E2
    rw [hb1, hb2] at hlb
    replace E1 := Lib.hid E1
    replace E2 := Lib.hid E2
    by_cases hbb : b1 = true ∧ b2 = true
    · obtain ⟨rfl, rfl⟩ := hbb
      unfold inB at hb1 hb2
      simp only [decide_eq_true_eq] at hb1 hb2
      obtain ⟨j, rfl⟩ : ∃ j : Nat, s = j := ⟨s.toNat, by omega⟩
      obtain ⟨l, rfl⟩ : ∃ l : Nat, t = l := ⟨t.toNat, by omega⟩
      rw [Bool.true_and, Bool.true_and, Int.toNat_natCast, Int.toNat_natCast] at hlb
      have E3 := Lib.hid (fun (W : World) => members_any j (by omega) W)
      have E4 := Lib.hid (fun (W : World) => members_any l (by omega) W)
      have hok5 : ∀ c ∈ cs, RCok c ∧ chOk 5 (toC c) := fun c hc => ⟨(ho.ok c hc).1, chOk_mono (ho.ok c hc).2 hn5⟩
      have E5 := Lib.hid (fun (W : World) (hs : w.Since w.heap.size W) => familySum_any a N cap j l cs W hN h10 hcap h63 hok5 (by omega) (by omega) (hm.since hs))
      have hv : famsV m cs j l = if popcS j = popcS l then famN (cs.map toC) j l else 0 := by
        unfold famsV
        rw [hlb]
        by_cases e : popcS j = popcS l
        · simp [e]
        · simp [e]
      rw [hv, hlb]
      obtain ⟨P, hP⟩ : ∃ P, famN (cs.map toC) j l = P := ⟨_, rfl⟩
      rw [hP] at E5 ⊢
      clear hb hm hN hP hlb hv ho hb1 hb2 p3 p4 p5 hok5
      by_cases hpp : popcS j = popcS l
      · rw [if_pos hpp]
        have hpb : (popcS j == popcS l) = true := by simpa using hpp
        rw [hpb]
        rw [hpp] at E3
        clear hpp hpb
        go_enter Try.func27, Try.ntmps27
        go_wp2_with (first
          | (go_at_call 16; refine (E.out).mono ?_; rintro e w1 ⟨rfl, hs1⟩; have HS1 := Lib.hid hs1; clear hs1)
          | (go_at_call 70; ((with_reducible refine (E1.out _).mono ?_); rintro e w2 ⟨rfl, rfl⟩))
          | (go_at_call 70; ((with_reducible refine (E2.out _).mono ?_); rintro e w2 ⟨rfl, rfl⟩))
          | (go_at_call 71; ((with_reducible refine (E3.out _).mono ?_); rintro e w2 ⟨rfl, rfl⟩))
          | (go_at_call 71; ((with_reducible refine (E4.out _).mono ?_); rintro e w2 ⟨rfl, rfl⟩))
          | (go_at_call 72; refine (E5.out _ HS1.out).mono ?_; rintro e w3 ⟨rfl, hs3⟩; have HS3 := Lib.hid (HS1.out.trans (since_mono hs3 HS1.out.size)); clear hs3))
        go_ret2
        exact ⟨rfl, HS3.out⟩
      · rw [if_neg hpp]
        have hpb : (popcS j == popcS l) = false := by simpa using hpp
        have hpi : ((popcS j : Int) == (popcS l : Int)) = false := by simp; omega
        rw [hpb]
        go_enter Try.func27, Try.ntmps27
        go_wp2_with (first
          | (go_at_call 16; refine (E.out).mono ?_; rintro e w1 ⟨rfl, hs1⟩; have HS1 := Lib.hid hs1; clear hs1)
          | (go_at_call 70; ((with_reducible refine (E1.out _).mono ?_); rintro e w2 ⟨rfl, rfl⟩))
          | (go_at_call 70; ((with_reducible refine (E2.out _).mono ?_); rintro e w2 ⟨rfl, rfl⟩))
          | (go_at_call 71; ((with_reducible refine (E3.out _).mono ?_); rintro e w2 ⟨rfl, rfl⟩))
          | (go_at_call 71; ((with_reducible refine (E4.out _).mono ?_); rintro e w2 ⟨rfl, rfl⟩)))
        go_ret2
        exact ⟨rfl, HS1.out⟩
    · have hlf : famsB m cs s t = false := by rw [hlb]; cases b1 <;> cases b2 <;> simp at hbb ⊢
      unfold famsV
      rw [hlf, if_neg (by simp)]
      clear hb hm hN hlb hlf ho hb1 hb2 p3 p4 p5
      cases b1 <;> cases b2
      case true.true => exact absurd ⟨rfl, rfl⟩ hbb
      all_goals
        clear hbb
        go_enter Try.func27, Try.ntmps27
        go_wp2_with (first
          | (go_at_call 16; refine (E.out).mono ?_; rintro e w1 ⟨rfl, hs1⟩; have HS1 := Lib.hid hs1; clear hs1)
          | (go_at_call 70; ((with_reducible refine (E1.out _).mono ?_); rintro e w2 ⟨rfl, rfl⟩))
          | (go_at_call 70; ((with_reducible refine (E2.out _).mono ?_); rintro e w2 ⟨rfl, rfl⟩)))
        go_ret2
        exact ⟨rfl, HS1.out⟩

end Go.Proofs.Ytdodchmelepkeaa
end

section
namespace Go.Proofs.Ytdodchmelepkeaa
open Go.RowKit Go.Deep

theorem lawNetFamilies (x0 : Int) (a : Option Addr) (cap n : Nat) (l : List RC) (x2 x3 : Int) (w : World) (hn : l.length = n) (h63 : n ≤ 9223372036854775807) (hs : ShortL l) (hm : ChipsR w a l) :
    Calls Try.prog 6 #[.int .i64 x0, .slice a n cap, .int .i64 x2, .int .i64 x3] w fun e w' => e = .returned (.bool true) ∧ w.Since w.heap.size w' :=
  lawNetFamilies_aux x0 a cap n l x2 x3 (famsV x0 l x2 x3) (famsB x0 l x2 x3) w hn h63 hs hm (fun _ W b c h1 h2 _ hb => specNetFamilies_any b c n x0 x2 x3 l W hn h1 h2 hb) (fun _ W b c h1 h2 _ hb => implNetFamilies_any b c n x0 x2 x3 l W hn h1 h2 hb)

end Go.Proofs.Ytdodchmelepkeaa
end

section
namespace Go.Proofs.Ytdodchmelepkeaa
open Go.ChangeShapes Go.WideShapes Go.ChangeAt Go.RowKit Go.Deep

theorem below_since' {B : Nat} {w w' : World} (h : Below B w w') : w.Since B w' := ⟨h.os, h.tape, h.output, h.size, h.block⟩
theorem since_below' {B : Nat} {w w' : World} (h : w.Since B w') : Below B w w' := ⟨h.os, h.tape, h.output, h.size, h.block⟩

section
variable {H : Type} {enc : TypeId × Value → H} {P : Program}
theorem post_of_below {f : Func} {s : ChangeSpec} {apart fresh handsOn again : Bool} {W W' : World} {args : Array Value} {v : Value} {ds gs : List (DataW H)} {before pa pv : List MemPlace}
    (hW : DataW.Whole enc P f.params.toList s.vars apart W args.toList ds gs before)
    (hres : ∀ (b : Nat) (sp : Nat → Bool) (hd : Bool), DataW.TrodAll enc P W' b sp hd f.resultTypes.toList (v.resultList f.resultTypes.size) (s.fn H (ds ++ gs)).results [])
    (hargs : ∀ sp : Nat → Bool, (∀ p ∈ before, sp p.block = true) → DataW.TrodAll enc P W' 0 sp true f.params.toList args.toList (s.fn H (ds ++ gs)).args pa)
    (hvars : ∀ sp : Nat → Bool, (∀ p ∈ before, sp p.block = true) → DataW.TrodVars enc P W' sp s.vars (s.fn H (ds ++ gs)).vars pv)
    (hps : before = pa ++ pv) (hb : Below W.heap.size W W') (hag : again = false) :
    s.post enc P f apart fresh handsOn again W args v W' := by
  have hlt : ∀ p ∈ before, p.block < W.heap.size := fun p hp => hW.lt p hp
  have hold : ∀ p ∈ before, (fun b => decide (b < W.heap.size)) p.block = true := fun p hp => by simpa using hlt p hp
  refine ⟨ds, gs, before, [], pa, pv, hW, hres _ _ _, hargs _ hold, hvars _ hold, World.keptBut_mono (fun p hp => ⟨hp, ?_⟩) (hb.frame (· ∈ before)), fun h => ?_⟩
  · rw [hps, List.mem_append] at hp
    exact Or.inr hp
  · rw [hag] at h; cases h

theorem open_mat {W : World} {t e q : TypeId} {a : Option Addr} {n cap : Nat} {d : DataW H} {p : List MemPlace} (ht : P.underlying t = some (.slice e)) (he : P.underlying e = some (.slice q)) (hq : P.underlying q = some (.int .i64))
    (ce : P.cellsOf e = 1) (cq : P.cellsOf q = 1) (h : DataW.Trod enc P W 0 (fun _ => true) true t (.slice a n cap) d p) :
    ∃ l : List (List Int), l.length = n ∧ MatR W a l ∧ n ≤ 9223372036854775807 ∧ ∀ r, r < l.length → (l.getD r []).length ≤ 9223372036854775807 := by
  obtain ⟨fuel, hf⟩ := h
  rcases open_int_rows ht he hq ce cq hf with ⟨hcs, _⟩ | ⟨a', len', cap', A, L, C, Z, hcs, _, hl, hm, _, hrows⟩
  · simp [Value.cells] at hcs
    obtain ⟨rfl, rfl, rfl⟩ := hcs
    exact ⟨[], rfl, (fun h => by simp at h), by omega, fun r hr => by simp at hr⟩
  · simp [Value.cells] at hcs
    obtain ⟨rfl, rfl, rfl⟩ := hcs
    have hmx : maxLen = 9223372036854775807 := rfl
    have hlen : ∀ r, r < n → ((Z r).take (L r)).length = L r := fun r hr => by
      obtain ⟨_, h1, _, h2, _⟩ := hrows r (by omega)
      rw [List.length_take]; omega
    have hget : ∀ r, r < n → ((List.range n).map fun r => (Z r).take (L r)).getD r [] = (Z r).take (L r) := fun r hr => by simp [List.getD, hr]
    refine ⟨(List.range n).map fun r => (Z r).take (L r), by simp, fun h => ?_, by omega, fun r hr => ?_⟩
    · obtain ⟨b, o, spot⟩ := a'
      simp at h
      have hspot : spot = none := by simpa [Addr.add] using World.cell?_spot (hrows 0 (by omega)).1
      subst hspot
      refine ⟨b, o, A, C, rfl, fun r hr => ?_⟩
      simp at hr
      rw [hget r hr, hlen r hr]
      obtain ⟨g1, g2, g3, g4, g5, g6, g7⟩ := hrows r (by omega)
      refine ⟨by rw [← add_plain]; exact g1, fun h0 => ?_⟩
      rw [hlen r hr] at h0
      cases hA : A r with
      | none => have := g6 hA; omega
      | some a'' =>
        obtain ⟨_, hcell⟩ := g7 a'' hA
        obtain ⟨b', o', sp⟩ := a''
        have hs : sp = none := by simpa [Addr.add] using World.cell?_spot (hcell 0 (by omega))
        subst hs
        refine ⟨b', o', rfl, fun i hi => ?_⟩
        rw [hlen r hr] at hi
        rw [← add_plain, hcell i (by omega)]
        congr 2
        simp [List.getD, hi]
    · simp at hr
      rw [hget r hr, hlen r hr]
      obtain ⟨_, h1, h2, _⟩ := hrows r (by omega)
      omega
end

theorem Try.own : ownKnob Try.prog.godebug = none := by kernel_rfl
theorem Try.laidOut : laidOutB Try.prog = true := by kernel_rfl
theorem Try.cellsR : Try.prog.cellsOf 65 = 1 := by kernel_rfl
theorem Try.cellsI : Try.prog.cellsOf 3 = 1 := by kernel_rfl

end Go.Proofs.Ytdodchmelepkeaa
end

section
namespace Go.Proofs.Ytdodchmelepkeaa
open Go.ChangeShapes Go.WideShapes Go.ChangeAt Go.RowKit Go.Deep

theorem addr_add0 (a : Addr) : a.add 0 = a := by
  cases a
  unfold Addr.add
  split <;> simp_all
theorem take_one {l : List Value} {i : Nat} (h : i < l.length) : ∃ v, l[i]? = some v ∧ (l.drop i).take 1 = [v] :=
  ⟨l[i], List.getElem?_eq_getElem h, by rw [List.drop_eq_getElem_cons h]; rfl⟩

theorem open_chips {H : Type} {enc : TypeId × Value → H} {P : Program} {W : World} {t e : TypeId} {f0 f1 f2 : Field} {a : Option Addr} {n cap : Nat} {d : DataW H} {p : List MemPlace} (ht : P.underlying t = some (.slice e)) (he : P.underlying e = some (.struct #[f0, f1, f2])) (ce : P.cellsOf e = 3)
    (u0 : P.underlying f0.type = some .string) (u1 : P.underlying f1.type = some (.int .i64)) (u2 : P.underlying f2.type = some (.int .i64)) (k0 : P.cellsOf f0.type = 1) (k1 : P.cellsOf f1.type = 1) (k2 : P.cellsOf f2.type = 1) (o0 : f0.offset = 0) (o1 : f1.offset = 1) (o2 : f2.offset = 2)
    (h : DataW.Trod enc P W 0 (fun _ => true) true t (.slice a n cap) d p) : ∃ cs : List RC, cs.length = n ∧ ChipsR W a cs ∧ n ≤ 9223372036854775807 ∧ ShortL cs := by
  have hmx : maxLen = 9223372036854775807 := rfl
  obtain ⟨fuel, hf⟩ := h
  rcases open_slice ht hf with ⟨hcs, _⟩ | ⟨a', len, cap', m, q, D, Pl, hcs, _, hl, hm, hmm, _, hi⟩
  · simp [Value.cells] at hcs
    obtain ⟨rfl, rfl, rfl⟩ := hcs
    exact ⟨[], rfl, (fun h => by simp at h), by omega, fun i hi => by simp at hi⟩
  · simp [Value.cells] at hcs
    obtain ⟨rfl, rfl, rfl⟩ := hcs
    have hnm : n ≤ m := by rw [hmm]; simp; exact hl
    -- one chip
    have hone : ∀ i, i < n → ∃ c : RC, (W.cell? (a'.add (i * 3)) = some (.string c.k) ∧ W.cell? ((a'.add (i * 3)).add 1) = some (.int .i64 c.l) ∧ W.cell? ((a'.add (i * 3)).add 2) = some (.int .i64 c.w)) ∧ c.k.size ≤ 9223372036854775807 := fun i hin => by
      obtain ⟨cs', hc, htr⟩ := hi i (by omega)
      rw [ce] at hc
      obtain ⟨_, hlen, hat⟩ := World.cells?_some hc
      obtain ⟨xs, q', _, _, _, hxl, hg⟩ := DataW.trod_struct he htr
      have g : ∀ j, j < 3 → ∃ x, xs[j]? = some x := fun j hj => ⟨xs[j]'(by rw [hxl]; exact hj), List.getElem?_eq_getElem _⟩
      obtain ⟨x0, y0⟩ := g 0 (by omega)
      obtain ⟨x1, y1⟩ := g 1 (by omega)
      obtain ⟨x2, y2⟩ := g 2 (by omega)
      have h0 := hg 0 f0 rfl
      have h1 := hg 1 f1 rfl
      have h2 := hg 2 f2 rfl
      obtain ⟨v0, e0, t0⟩ := take_one (show 0 < cs'.length by omega)
      obtain ⟨v1, e1, t1⟩ := take_one (show 1 < cs'.length by omega)
      obtain ⟨v2, e2, t2⟩ := take_one (show 2 < cs'.length by omega)
      rw [o0, k0, t0, y0] at h0
      rw [o1, k1, t1, y1] at h1
      rw [o2, k2, t2, y2] at h2
      obtain ⟨s, r0, _, hs⟩ := DataW.trod_string u0 h0
      obtain ⟨L, r1, _, _⟩ := DataW.trod_int u1 h1
      obtain ⟨V, r2, _, _⟩ := DataW.trod_int u2 h2
      cases r0; cases r1; cases r2
      refine ⟨⟨s, L, V⟩, ⟨?_, ?_, ?_⟩, by show s.size ≤ _; rw [← hmx]; exact hs⟩
      · have := hat 0 (by omega)
        rw [e0] at this
        rwa [addr_add0] at this
      · rw [hat 1 (by omega), e1]
      · rw [hat 2 (by omega), e2]
    refine ⟨(List.range n).map fun i => if hi : i < n then Classical.choose (hone i hi) else rc0, by simp, fun h0 => ?_, by omega, fun i hi => ?_⟩
    · have h0' : 0 < n := by simpa using h0
      obtain ⟨b, o, spot⟩ := a'
      obtain ⟨c, ⟨g0, _⟩, _⟩ := hone 0 h0'
      have hspot : spot = none := by simpa [Addr.add] using World.cell?_spot g0
      subst hspot
      refine ⟨b, o, rfl, fun i hi => ?_⟩
      have hi' : i < n := by simpa using hi
      have hget : ((List.range n).map fun i => if hi : i < n then Classical.choose (hone i hi) else rc0).getD i rc0 = Classical.choose (hone i hi') := by simp [List.getD, hi']
      rw [hget]
      have := (Classical.choose_spec (hone i hi')).1
      simpa [addr_add, Nat.add_assoc] using this
    · have hi' : i < n := by simpa using hi
      have hget : ((List.range n).map fun i => if hi : i < n then Classical.choose (hone i hi) else rc0).getD i rc0 = Classical.choose (hone i hi') := by simp [List.getD, hi']
      rw [hget]
      exact (Classical.choose_spec (hone i hi')).2

end Go.Proofs.Ytdodchmelepkeaa
end

section
namespace Go.Proofs.Ytdodchmelepkeaa
open Go.ChangeShapes Go.WideShapes Go.ChangeAt Go.RowKit Go.Deep

set_option maxRecDepth 100000 in
theorem lifted_NetFamilies (os : Os) (started : os.Started) (H : Type) (enc : TypeId × Value → H) :
    ReturnsInHanded {} Try.checked os 6 .any (Rows.fnExactNetFamiliesSpec.pre6 enc Try.prog Try.f6 Rows.fnExactNetFamiliesRow.domain false) (Rows.fnExactNetFamiliesSpec.post enc Try.prog Try.f6 false true false false) := by
  refine returnsInHanded_of_change (C := Try.checked) Try.own started (by kernel_rfl) Try.func6
    (ChangeSpec.witness6 (enc := enc) (C := Try.checked) false ⟨#[], #[.int .i64 0, .slice none 0 0, .int .i64 0, .int .i64 0], []⟩ 8 (by kernel_rfl) (by kernel_rfl) (by kernel_rfl) (by kernel_rfl)) ?_
  intro W base args ds gs before hval0 hW _ _
  have hval : ∀ (j : Nat) t v, Try.f6.params[j]? = some t → args[j]? = some v → Value.okWide Try.prog W .any base t v := hval0
  have hW' := hW
  obtain ⟨p, q, hA0, hV, rfl, hfz, hnd⟩ := hW
  have hA : DataW.TrodAll enc Try.prog W 0 (fun _ => true) true Try.f6.params.toList args.toList ds p := hA0
  rw [Try.params6] at hA hval
  obtain ⟨v0, v1, v2, v3, d0, d1, d2, d3, p0, p1, p2, p3, rfl, rfl, rfl, h0, h1, h2, h3⟩ := trodAll_four hA
  obtain ⟨rfl, rfl⟩ := trodVars_none hV
  obtain ⟨x0, rfl, rfl, rfl, wx0⟩ := open_int Try.underlying3 (hval 0 3 v0 rfl rfl) h0
  obtain ⟨a1, n1, cap1, rfl⟩ := okWide_slice Try.underlying22 (hval 1 22 v1 rfl rfl)
  obtain ⟨l1, hl1, hm1, h631, hs1⟩ := open_chips Try.underlying22 Try.underlying50 (by kernel_rfl) Try.underlying9 Try.underlying3 Try.underlying3 (by kernel_rfl) (by kernel_rfl) (by kernel_rfl) rfl rfl rfl h1
  obtain ⟨x2, rfl, rfl, rfl, wx2⟩ := open_int Try.underlying3 (hval 2 3 v2 rfl rfl) h2
  obtain ⟨x3, rfl, rfl, rfl, wx3⟩ := open_int Try.underlying3 (hval 3 3 v3 rfl rfl) h3
  clear hA0 hval0
  simp only [List.append_nil, List.nil_append] at hW'
  have hlt1 : ∀ x ∈ p1, x.block < W.heap.size := fun x hx => hW'.lt x (by simp [hx])
  refine (lawNetFamilies x0 a1 cap1 n1 l1 x2 x3 W hl1 h631 hs1 hm1).mono fun e W' ⟨he, hs⟩ => ?_
  subst he
  have hb := since_below' hs
  have ht1 : ∀ sp : Nat → Bool, (∀ x ∈ p1, sp x.block = true) → DataW.Trod enc Try.prog W' 0 sp true 22 (.slice a1 n1 cap1) d1 p1 := fun sp hsp =>
    WideElems.Trod_stays Try.laidOut (by kernel_rfl) (of_decide_eq_true (by kernel_rfl)) h1 (fun x hx => hb.same (hlt1 x hx)) hsp
  have hargs : ∀ sp : Nat → Bool, (∀ x ∈ (p1), sp x.block = true) → DataW.TrodAll enc Try.prog W' 0 sp true [3, 22, 3, 3] [.int .i64 x0, .slice a1 n1 cap1, .int .i64 x2, .int .i64 x3] [.lit (.int .i64 x0), d1, .lit (.int .i64 x2), .lit (.int .i64 x3)] (p1) := fun sp hsp => by
    have := trodAll_mk4 (enc := enc) (P := Try.prog) (w := W') (base := 0) (spare := sp) (held := true) (shut_int Try.underlying3 wx0) (ht1 sp (fun x hx => hsp x (by simp [hx]))) (shut_int Try.underlying3 wx2) (shut_int Try.underlying3 wx3)
    simpa using this
  exact ⟨_, rfl, post_of_below (pa := p1) (pv := []) hW' (fun _ _ _ => trodAll_mk1 (shut_bool Try.underlying4 true)) (fun sp hsp => hargs sp (fun x hx => hsp x (by simpa using hx))) (fun _ _ => rfl) (by simp) hb rfl⟩

theorem FnExactNetFamilies_holds : Rows.FnExactNetFamiliesSaid :=
  OpenClaim.holds_of_wide 6 Try.f6 rfl rfl rfl rfl rfl rfl rfl ⟨rfl, rfl, rfl, rfl, rfl⟩ rfl rfl rfl rfl rfl (by kernel_rfl) Try.func6 (by kernel_rfl)
    (of_decide_eq_true (by kernel_rfl)) (by unfold Func.isWrapper; first | (rw [if_pos (by decide +kernel)]; kernel_rfl) | (rw [if_neg (by decide +kernel)]; exact ⟨rfl, rfl⟩))
    (fun os started H enc _ => lifted_NetFamilies os started H enc)

end Go.Proofs.Ytdodchmelepkeaa
end
