/- Sums over the numbers that an iterator has told; what a round leaves alone. -/
import Derived.Test.YtdbomnhlgaohaaaSumN
import Derived.Test.YtdbomnhlgaohaaaRound
import Derived.Test.YtdbomnhlgaohaaaIter
import Derived.RangeFuncFrom
namespace Go.Proofs.Ytdbomnhlgaohaaa
open Go.RowKit Go.Deep Go.Shelf
attribute [local go_sem] Oper.semAt_some

/-- The sum of f at the numbers that have come. -/
def lsum {n : Nat} (f : Nat → Int) (pre : List {i : Nat // i < n}) : Int := pre.foldl (fun s x => s + f x.1) 0
theorem lsum_snoc {n : Nat} (f : Nat → Int) (pre : List {i : Nat // i < n}) (x : {i : Nat // i < n}) : lsum f (pre ++ [x]) = lsum f pre + f x.1 := by simp [lsum]
theorem lsum_sel (f : Nat → Int) (s n : Nat) (hs : ∀ i, i < n → s.testBit i = true) : ∀ k, k ≤ n → lsum f (sel s n k) = sumN f k
  | 0, _ => rfl
  | k + 1, hk => by
    rw [sel_yes s n k (by omega) (hs k (by omega)), lsum_snoc, lsum_sel f s n hs k (by omega)]; rfl

theorem mul_bd2 (x y : Int) (hx : -30 ≤ x ∧ x ≤ 30) (hy : -30 ≤ y ∧ y ≤ 30) : -900 ≤ x * y ∧ x * y ≤ 900 := by
  obtain ⟨a, b⟩ := hx
  obtain ⟨c, d⟩ := hy
  have h1 : x * y = x * (y + 30) - 30 * x := by rw [Int.mul_add]; omega
  have h2 : 0 ≤ (x + 30) * (y + 30) := Int.mul_nonneg (by omega) (by omega)
  have h3 : 0 ≤ (30 - x) * (30 - y) := Int.mul_nonneg (by omega) (by omega)
  have h4 : 0 ≤ (x + 30) * (30 - y) := Int.mul_nonneg (by omega) (by omega)
  have h5 : 0 ≤ (30 - x) * (y + 30) := Int.mul_nonneg (by omega) (by omega)
  simp only [Int.add_mul, Int.sub_mul, Int.mul_add, Int.mul_sub] at h2 h3 h4 h5
  omega
theorem lsum_bd {n : Nat} (f : Nat → Int) (hf : ∀ j, j < n → -900 ≤ f j ∧ f j ≤ 900) (pre : List {i : Nat // i < n}) : -(900 * (pre.length : Int)) ≤ lsum f pre ∧ lsum f pre ≤ 900 * (pre.length : Int) := by
  have H : ∀ (pre : List {i : Nat // i < n}) (s : Int), s - 900 * (pre.length : Int) ≤ pre.foldl (fun s x => s + f x.1) s ∧ pre.foldl (fun s x => s + f x.1) s ≤ s + 900 * (pre.length : Int) := by
    intro pre
    induction pre with
    | nil => intro s; simp
    | cons x xs ih =>
      intro s
      have h1 := ih (s + f x.1)
      have h2 := hf x.1 x.2
      simp only [List.foldl_cons, List.length_cons]
      omega
  have := H pre 0
  unfold lsum
  omega

/-- A round turns one block alone of those below N. -/
def KpB (g N : Nat) (X Y : World) : Prop := X.heap.size ≤ Y.heap.size ∧ ∀ b, b ≠ g → b < N → Y.heap[b]? = X.heap[b]?
theorem kpB_t {g N : Nat} {A B C : World} (h : KpB g N A B) (k : KpB g N B C) : KpB g N A C := ⟨Nat.le_trans h.1 k.1, fun b h1 h2 => (k.2 b h1 h2).trans (h.2 b h1 h2)⟩
theorem kpB_b {g N : Nat} {w : World} (hN : N ≤ w.heap.size) (W : World) (l : Nat) (o o' : Obj) (hl : w.heap.size ≤ l) (h : W.heap[l]? = some o) (_ : o.isCells = false) (_ : o.isWalk = false) : KpB g N W (W.putObj l o') := by
  have hg := grownBy_putObj' W l o'
  have hlt := (Array.getElem?_eq_some_iff.1 h).1
  exact ⟨hg.size, fun b _ hb => hg.block b (by omega) (fun e => by injection e with e; omega)⟩

theorem rows_stopsB (n : Nat) (hn : 2 ≤ n) (g N Bt Bs b o m cap s : Nat) (hm : m ≤ 7) (hs : s ≤ 63) (A : Nat → Option Addr) (L C : Nat → Nat) (w : World) (h0 : N ≤ w.heap.size) (h1 : Bt < N) (h2 : Bs < N) (h3 : b < N) (g2 : Bs ≠ g) (g3 : b ≠ g)
    (hBt : w.cell? ⟨Bt, 0, none⟩ = some (.slice (some ⟨b, o, none⟩) m cap)) (hBs : w.cell? ⟨Bs, 0, none⟩ = some (.int .i64 s))
    (hc : ∀ k, k < m → w.cell? ⟨b, o + k, none⟩ = some (.slice (A k) (L k) (C k))) :
    SeqStopsK Fence.wide n Try.prog 96 #[.pointer (some ⟨Bt, 0, none⟩), .pointer (some ⟨Bs, 0, none⟩)] (fun x : {i : Nat // i < m} => #[.int .i64 (x.1 : Int), .slice (A x.1) (L x.1) (C x.1)])
      (KpB g N) (fun ys => ys = sel s m m) (fun pre => ∃ k, k ≤ m ∧ pre = sel s m k) m w := fun l J Jx W hW _ _ hY hJ =>
  rows1_in n hn l Bt Bs b o m cap s hm hs A L C (KpB g N) (fun X Y h => ⟨World.cell?_of_block (h.2 Bs g2 h2), fun k _ => World.cell?_of_block (h.2 b g3 h3)⟩) J Jx hY W
    ((hW.cell (p := ⟨Bt, 0, none⟩) (by show Bt < _; omega)).trans hBt) ((hW.cell (p := ⟨Bs, 0, none⟩) (by show Bs < _; omega)).trans hBs)
    (fun k hk => (hW.cell (p := ⟨b, o + k, none⟩) (by show b < _; omega)).trans (hc k hk)) hJ

theorem prod_world (w : World) (v0 v1 v2 v3 v4 : Value) (t : TypeId) (W0 : World) (h : W0 = (((((w.alloc (.cells #[v0] 3)).alloc (.cells #[v1] 3)).alloc (.cells #[v2] 3)).alloc (.cells #[v3] t)).alloc (.cells #[v4] 3)).drew) :
    W0.heap.size = w.heap.size + 1 + 1 + 1 + 1 + 1 ∧ Below w.heap.size w W0 ∧ W0.cell? ⟨w.heap.size, 0, none⟩ = some v0 ∧ W0.cell? ⟨w.heap.size + 1, 0, none⟩ = some v1 ∧ W0.cell? ⟨w.heap.size + 1 + 1, 0, none⟩ = some v2 ∧ W0.frozen? ⟨w.heap.size + 1 + 1, 0, none⟩ = false ∧
      W0.cell? ⟨w.heap.size + 1 + 1 + 1, 0, none⟩ = some v3 ∧ W0.cell? ⟨w.heap.size + 1 + 1 + 1 + 1, 0, none⟩ = some v4 := by
  have c0 := cell_new_l w v0 3
  have c1 := cell_new_l (w.alloc (.cells #[v0] 3)) v1 3
  have c2 := cell_new_l ((w.alloc (.cells #[v0] 3)).alloc (.cells #[v1] 3)) v2 3
  have c3 := cell_new_l (((w.alloc (.cells #[v0] 3)).alloc (.cells #[v1] 3)).alloc (.cells #[v2] 3)) v3 t
  have c4 := cell_new_l ((((w.alloc (.cells #[v0] 3)).alloc (.cells #[v1] 3)).alloc (.cells #[v2] 3)).alloc (.cells #[v3] t)) v4 3
  simp only [World.size_alloc] at c1 c2 c3 c4
  refine ⟨by rw [h]; simp, ?_, ?_, ?_, ?_, ?_, ?_, ?_⟩
  · rw [h]; exact ((((((Below.refl _ w).alloc (Nat.le_refl _) _).alloc (by simp) _).alloc (by simp; omega) _).alloc (by simp; omega) _).alloc (by simp; omega) _).drew
  · rw [h]; exact cell_alloc_l _ (cell_alloc_l _ (cell_alloc_l _ (cell_alloc_l _ c0.1)))
  · rw [h]; exact cell_alloc_l _ (cell_alloc_l _ (cell_alloc_l _ c1.1))
  · rw [h]; exact cell_alloc_l _ (cell_alloc_l _ c2.1)
  · rw [h]; exact frozen_alloc_l _ (cell_alloc_l _ c2.1) (frozen_alloc_l _ c2.1 c2.2)
  · rw [h]; exact cell_alloc_l _ c3.1
  · rw [h]; exact c4.1

end Go.Proofs.Ytdbomnhlgaohaaa
