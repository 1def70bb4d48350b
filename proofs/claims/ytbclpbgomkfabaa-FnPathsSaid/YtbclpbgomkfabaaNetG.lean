/- Families of paths: of one line, of weights that are not negative: the pure side. -/
import Derived.Test.YtbclpbgomkfabaaNetF
namespace Go.Proofs.Ytbclpbgomkfabaa

/-- The sum over families, along all chips; sets are numbers. -/
def famN : List CH → Nat → Nat → Int
  | [], s, t => if s = t then 1 else 0
  | c :: cs, s, t => if c.1 = 2 then (if s.testBit c.2.1 = true then c.2.2 * famN cs s t else famN cs s t)
    else famN cs s t + (if s.testBit (cFrom c) = true ∧ s.testBit (cTo c) = false then c.2.2 * famN cs (s ^^^ 2 ^ cFrom c ^^^ 2 ^ cTo c) t else 0)

theorem c_ne (c : CH) : cFrom c ≠ cTo c := by unfold cFrom cTo; split <;> omega
theorem bit_one (i j : Nat) : (2 ^ i).testBit j = decide (i = j) := Nat.testBit_two_pow
/-- Families of one line are paths. -/
theorem fam_one : ∀ (cs : List CH) (i k : Nat), famN cs (2 ^ i) (2 ^ k) = pathN cs i k
  | [], i, k => by
    unfold famN pathN
    by_cases e : i = k
    · subst e; simp
    · rw [if_neg e, if_neg (fun h => e (by
        have h1 := congrArg (fun x => Nat.testBit x i) h
        simp only [bit_one, decide_true] at h1
        exact (of_decide_eq_true h1.symm).symm))]
  | c :: cs, i, k => by
    unfold famN pathN
    rw [fam_one cs i k, bit_one, bit_one, bit_one]
    by_cases h2 : c.1 = 2
    · rw [if_pos h2, if_pos h2]
      by_cases e : i = c.2.1 <;> simp [e]
    · rw [if_neg h2, if_neg h2]
      by_cases e : i = cFrom c
      · subst e
        rw [if_pos ⟨by simp, by simp [c_ne c]⟩, if_pos rfl, Nat.xor_self, Nat.zero_xor, fam_one cs (cTo c) k]
      · rw [if_neg (fun h => e (by simpa using h.1)), if_neg e]
theorem fam_nn : ∀ (cs : List CH), (∀ c ∈ cs, 0 ≤ c.2.2) → ∀ s t, 0 ≤ famN cs s t
  | [], _, s, t => by unfold famN; split <;> omega
  | c :: cs, h, s, t => by
    have hc := h c (by simp)
    have ih := fam_nn cs (fun c hc => h c (by simp [hc]))
    unfold famN
    split
    · split
      · exact Int.mul_nonneg hc (ih _ _)
      · exact ih _ _
    · have h1 := ih s t
      split
      · have := Int.mul_nonneg hc (ih (s ^^^ 2 ^ cFrom c ^^^ 2 ^ cTo c) t)
        omega
      · omega
theorem path_nn (cs : List CH) (h : ∀ c ∈ cs, 0 ≤ c.2.2) (i k : Nat) : 0 ≤ pathN cs i k := by
  rw [← fam_one]; exact fam_nn cs h _ _
/-- One path stays on its line. -/
theorem path_stay : ∀ (cs : List CH), (∀ c ∈ cs, 1 ≤ c.2.2) → ∀ i, 1 ≤ pathN cs i i
  | [], _, i => by unfold pathN; simp
  | c :: cs, h, i => by
    have hc := h c (by simp)
    have ih := path_stay cs (fun c hc => h c (by simp [hc])) i
    have hn : ∀ a, 0 ≤ pathN cs a i := fun a => path_nn cs (fun c hc => by have := h c (by simp [hc]); omega) a i
    unfold pathN
    split
    · split
      · have := Int.mul_le_mul hc ih (by omega) (by omega : (0 : Int) ≤ c.2.2)
        omega
      · exact ih
    · split
      · have := Int.mul_nonneg (by omega : (0 : Int) ≤ c.2.2) (hn (cTo c))
        omega
      · omega

/-- How large they are. -/
def p10 : Nat → Int
  | 0 => 1
  | k + 1 => 10 * p10 k
theorem p10_pos : ∀ k, 1 ≤ p10 k
  | 0 => by decide
  | k + 1 => by have := p10_pos k; show 1 ≤ 10 * p10 k; omega
theorem p10_le {k : Nat} (h : k ≤ 10) : p10 k ≤ 10000000000 := by
  have : ∀ j : Fin 11, p10 j.val ≤ 10000000000 := by decide
  exact this ⟨k, by omega⟩
theorem mul_bd9 {a b B : Int} (h1 : -9 ≤ a) (h2 : a ≤ 9) (h3 : -B ≤ b) (h4 : b ≤ B) : -(9 * B) ≤ a * b ∧ a * b ≤ 9 * B := by
  have k1 : 0 ≤ (9 - a) * (B + b) := Int.mul_nonneg (by omega) (by omega)
  have k2 : 0 ≤ (9 + a) * (B - b) := Int.mul_nonneg (by omega) (by omega)
  have k3 : 0 ≤ (9 - a) * (B - b) := Int.mul_nonneg (by omega) (by omega)
  have k4 : 0 ≤ (9 + a) * (B + b) := Int.mul_nonneg (by omega) (by omega)
  simp only [Int.add_mul, Int.sub_mul, Int.mul_add, Int.mul_sub] at k1 k2 k3 k4
  omega
theorem fam_bd : ∀ (cs : List CH), (∀ c ∈ cs, -9 ≤ c.2.2 ∧ c.2.2 ≤ 9) → ∀ s t, -(p10 cs.length) ≤ famN cs s t ∧ famN cs s t ≤ p10 cs.length
  | [], _, s, t => by unfold famN; split <;> simp [p10]
  | c :: cs, h, s, t => by
    have hc := h c (by simp)
    have ih := fam_bd cs (fun c hc => h c (by simp [hc]))
    have hp := p10_pos cs.length
    have e : p10 (c :: cs).length = 10 * p10 cs.length := rfl
    rw [e]
    have h1 := ih s t
    have m1 := mul_bd9 hc.1 hc.2 h1.1 h1.2
    have h2 := ih (s ^^^ 2 ^ cFrom c ^^^ 2 ^ cTo c) t
    have m2 := mul_bd9 hc.1 hc.2 h2.1 h2.2
    unfold famN
    split
    · split <;> omega
    · split <;> omega
theorem path_bd (cs : List CH) (h : ∀ c ∈ cs, -9 ≤ c.2.2 ∧ c.2.2 ≤ 9) (i k : Nat) : -(p10 cs.length) ≤ pathN cs i k ∧ pathN cs i k ≤ p10 cs.length := by
  rw [← fam_one]; exact fam_bd cs h _ _

end Go.Proofs.Ytbclpbgomkfabaa
