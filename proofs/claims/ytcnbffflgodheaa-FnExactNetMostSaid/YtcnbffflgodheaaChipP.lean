/- The contract of spec.l6cPaths. -/
import Derived.Test.YtcnbffflgodheaaChipF
import Derived.Test.YtcnbffflgodheaaNetG
import Derived.Test.YtcnbffflgodheaaUnitSpec
import Derived.Deep.RegionHeld3
namespace Go.Proofs.Ytcnbffflgodheaa
open Go.RowKit Go.Deep

/-- A chip as three numbers. -/
def toC (c : RC) : CH := (if c.k.toList = [117] then 0 else if c.k.toList = [100] then 1 else 2, c.l.toNat, c.w)
def RCok (c : RC) : Prop := (c.k.toList = [104] ∨ c.k.toList = [117] ∨ c.k.toList = [100]) ∧ (0 ≤ c.l ∧ c.l ≤ 10) ∧ -9 ≤ c.w ∧ c.w ≤ 9
theorem ChipsR.tail {W : World} {b o : Nat} {c : RC} {cs : List RC} (h : ∀ i, i < (c :: cs).length → W.cell? ⟨b, o + i * 3, none⟩ = some (.string ((c :: cs).getD i rc0).k) ∧ W.cell? ⟨b, o + i * 3 + 1, none⟩ = some (.int .i64 ((c :: cs).getD i rc0).l) ∧ W.cell? ⟨b, o + i * 3 + 2, none⟩ = some (.int .i64 ((c :: cs).getD i rc0).w)) :
    ChipsR W (some ⟨b, o + 3, none⟩) cs := fun h0 => ⟨b, o + 3, rfl, fun i hi => by
  have := h (i + 1) (by simp; omega)
  rw [show o + 3 + i * 3 = o + (i + 1) * 3 by omega]
  simpa using this⟩
/-- The first chip's cells, and the others behind it, wherever the slice of them begins. -/
theorem ChipsR.split {W : World} {a : Option Addr} {c : RC} {cs : List RC} (h : ChipsR W a (c :: cs)) : ∃ b o, a = some ⟨b, o, none⟩ ∧ (W.cell? ⟨b, o, none⟩ = some (.string c.k) ∧ W.cell? ⟨b, o + 1, none⟩ = some (.int .i64 c.l) ∧ W.cell? ⟨b, o + 2, none⟩ = some (.int .i64 c.w)) ∧
    ∀ (V : World) (q cap : Nat), W.Since W.heap.size V → cs.length + 1 ≤ cap → (q = o + 3 ∨ cap = 1) → ChipsR V (some ⟨b, q, none⟩) cs := by
  obtain ⟨b, o, rfl, hc⟩ := h (by simp)
  have hc0 := hc 0 (by simp)
  simp only [Nat.zero_mul, Nat.add_zero, List.getD_cons_zero] at hc0
  refine ⟨b, o, rfl, hc0, fun V q cap hs hcap hq => ?_⟩
  by_cases h0 : 0 < cs.length
  · obtain rfl : q = o + 3 := by omega
    exact (ChipsR.tail hc).since hs
  · exact fun h => absurd h h0
theorem chip_box (w : World) (K : ByteArray) (L V : Int) (T : TypeId) :
    (w.alloc (.cells #[.string K, .int .i64 L, .int .i64 V] T)).cell? ⟨w.heap.size, 0, none⟩ = some (.string K) ∧ (w.alloc (.cells #[.string K, .int .i64 L, .int .i64 V] T)).cell? ⟨w.heap.size, 1, none⟩ = some (.int .i64 L) ∧ (w.alloc (.cells #[.string K, .int .i64 L, .int .i64 V] T)).cell? ⟨w.heap.size, 2, none⟩ = some (.int .i64 V) := by
  have hb := World.alloc_heap_new w (.cells #[.string K, .int .i64 L, .int .i64 V] T)
  refine ⟨?_, ?_, ?_⟩ <;> (unfold World.cell?; rw [hb]; rfl)
/-- A chip's kind, of three. -/
theorem toC_h {K : ByteArray} {L : Nat} {V : Int} (h : K.toList = [104]) : toC ⟨K, (L : Int), V⟩ = (2, L, V) := by unfold toC; simp [h]
theorem toC_n {K : ByteArray} {L : Nat} {V : Int} (h : ¬ K.toList = [104]) (hk : K.toList = [104] ∨ K.toList = [117] ∨ K.toList = [100]) : ∃ k, k ≤ 1 ∧ toC ⟨K, (L : Int), V⟩ = (k, L, V) ∧
    (if K.toList = [117] then Value.tuple #[.int .i64 (L : Int), .int .i64 ((L + 1 : Nat) : Int)] else .tuple #[.int .i64 ((L + 1 : Nat) : Int), .int .i64 (L : Int)]) = .tuple #[.int .i64 (cFrom (k, L, V) : Nat), .int .i64 (cTo (k, L, V) : Nat)] := by
  rcases hk with e | e | e
  · exact absurd e h
  · exact ⟨0, by omega, by unfold toC; simp [e], by unfold cFrom cTo; simp [e]⟩
  · exact ⟨1, by omega, by unfold toC; simp [e], by unfold cFrom cTo; simp [e]⟩
theorem wrap_mul9 {V P : Int} (h : -9 ≤ V ∧ V ≤ 9) (hp : -10000000000 ≤ P ∧ P ≤ 10000000000) : IntKind.i64.wrap (V * P) = V * P ∧ -90000000000 ≤ V * P ∧ V * P ≤ 90000000000 := by
  have := mul_bd9 h.1 h.2 hp.1 hp.2
  exact ⟨IntWalk.i64_in _ ⟨by omega, by omega⟩, by omega, by omega⟩

end Go.Proofs.Ytcnbffflgodheaa
