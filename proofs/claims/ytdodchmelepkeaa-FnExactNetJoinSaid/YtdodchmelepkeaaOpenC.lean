/- An argument of chips reads as a list of chips. -/
import Derived.Test.YtdodchmelepkeaaOpen
import Derived.Test.YtdodchmelepkeaaChipL
import Derived.Deep.Slices
namespace Go.Proofs.Ytdodchmelepkeaa
open Go.ChangeShapes Go.WideShapes Go.ChangeAt Go.RowKit Go.Deep

theorem addr_add0 (a : Addr) : a.add 0 = a := by
  cases a
  unfold Addr.add
  split <;> simp_all
theorem take_one {l : List Value} {i : Nat} (h : i < l.length) : ∃ v, l[i]? = some v ∧ (l.drop i).take 1 = [v] :=
  ⟨l[i], List.getElem?_eq_getElem h, by rw [List.drop_eq_getElem_cons h]; rfl⟩

theorem open_chips {H : Type} {enc : TypeId × Value → H} {P : Program} {W : World} {t e : TypeId} {f0 f1 f2 : Field} {a : Option Addr} {n cap : Nat} {d : DataW H} {p : List MemPlace} (ht : P.underlying t = some (.slice e)) (he : P.underlying e = some (.struct #[f0, f1, f2])) (ce : P.cellsOf e = 3)
    (u0 : P.underlying f0.type = some .string) (u1 : P.underlying f1.type = some (.int .i64)) (u2 : P.underlying f2.type = some (.int .i64)) (k0 : P.cellsOf f0.type = 1) (k1 : P.cellsOf f1.type = 1) (k2 : P.cellsOf f2.type = 1) (o0 : f0.offset = 0) (o1 : f1.offset = 1) (o2 : f2.offset = 2)
    (h : DataW.Trod enc P W 0 (fun _ => true) true t (.slice a n cap) d p) : ∃ cs : List RC, cs.length = n ∧ ChipsR W a cs ∧ n ≤ 9223372036854775807 ∧ ShortL cs := by
  have hmx : maxLen = 9223372036854775807 := rfl
  obtain ⟨fuel, hf⟩ := h
  rcases open_slice ht hf with ⟨hcs, _⟩ | ⟨a', len, cap', m, q, D, Pl, hcs, _, hl, hm, hmm, _, hi⟩
  · simp [Value.cells] at hcs
    obtain ⟨rfl, rfl, rfl⟩ := hcs
    exact ⟨[], rfl, (fun h => by simp at h), by omega, fun i hi => by simp at hi⟩
  · simp [Value.cells] at hcs
    obtain ⟨rfl, rfl, rfl⟩ := hcs
    have hnm : n ≤ m := by rw [hmm]; simp; exact hl
    -- one chip
    have hone : ∀ i, i < n → ∃ c : RC, (W.cell? (a'.add (i * 3)) = some (.string c.k) ∧ W.cell? ((a'.add (i * 3)).add 1) = some (.int .i64 c.l) ∧ W.cell? ((a'.add (i * 3)).add 2) = some (.int .i64 c.w)) ∧ c.k.size ≤ 9223372036854775807 := fun i hin => by
      obtain ⟨cs', hc, htr⟩ := hi i (by omega)
      rw [ce] at hc
      obtain ⟨_, hlen, hat⟩ := World.cells?_some hc
      obtain ⟨xs, q', _, _, _, hxl, hg⟩ := DataW.trod_struct he htr
      have g : ∀ j, j < 3 → ∃ x, xs[j]? = some x := fun j hj => ⟨xs[j]'(by rw [hxl]; exact hj), List.getElem?_eq_getElem _⟩
      obtain ⟨x0, y0⟩ := g 0 (by omega)
      obtain ⟨x1, y1⟩ := g 1 (by omega)
      obtain ⟨x2, y2⟩ := g 2 (by omega)
      have h0 := hg 0 f0 rfl
      have h1 := hg 1 f1 rfl
      have h2 := hg 2 f2 rfl
      obtain ⟨v0, e0, t0⟩ := take_one (show 0 < cs'.length by omega)
      obtain ⟨v1, e1, t1⟩ := take_one (show 1 < cs'.length by omega)
      obtain ⟨v2, e2, t2⟩ := take_one (show 2 < cs'.length by omega)
      rw [o0, k0, t0, y0] at h0
      rw [o1, k1, t1, y1] at h1
      rw [o2, k2, t2, y2] at h2
      obtain ⟨s, r0, _, hs⟩ := DataW.trod_string u0 h0
      obtain ⟨L, r1, _, _⟩ := DataW.trod_int u1 h1
      obtain ⟨V, r2, _, _⟩ := DataW.trod_int u2 h2
      cases r0; cases r1; cases r2
      refine ⟨⟨s, L, V⟩, ⟨?_, ?_, ?_⟩, by show s.size ≤ _; rw [← hmx]; exact hs⟩
      · have := hat 0 (by omega)
        rw [e0] at this
        rwa [addr_add0] at this
      · rw [hat 1 (by omega), e1]
      · rw [hat 2 (by omega), e2]
    refine ⟨(List.range n).map fun i => if hi : i < n then Classical.choose (hone i hi) else rc0, by simp, fun h0 => ?_, by omega, fun i hi => ?_⟩
    · have h0' : 0 < n := by simpa using h0
      obtain ⟨b, o, spot⟩ := a'
      obtain ⟨c, ⟨g0, _⟩, _⟩ := hone 0 h0'
      have hspot : spot = none := by simpa [Addr.add] using World.cell?_spot g0
      subst hspot
      refine ⟨b, o, rfl, fun i hi => ?_⟩
      have hi' : i < n := by simpa using hi
      have hget : ((List.range n).map fun i => if hi : i < n then Classical.choose (hone i hi) else rc0).getD i rc0 = Classical.choose (hone i hi') := by simp [List.getD, hi']
      rw [hget]
      have := (Classical.choose_spec (hone i hi')).1
      simpa [addr_add, Nat.add_assoc] using this
    · have hi' : i < n := by simpa using hi
      have hget : ((List.range n).map fun i => if hi : i < n then Classical.choose (hone i hi) else rc0).getD i rc0 = Classical.choose (hone i hi') := by simp [List.getD, hi']
      rw [hget]
      exact (Classical.choose_spec (hone i hi')).2

end Go.Proofs.Ytdodchmelepkeaa
