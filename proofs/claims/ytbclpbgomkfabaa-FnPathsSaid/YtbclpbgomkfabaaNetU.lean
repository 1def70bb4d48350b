/- Contracts of spec.NetTurn and spec.NetJoin. -/
import Derived.Test.YtbclpbgomkfabaaNetO
namespace Go.Proofs.Ytbclpbgomkfabaa
open Go.RowKit Go.Deep

abbrev kU : ByteArray := ⟨#[117]⟩
abbrev kD : ByteArray := ⟨#[100]⟩
noncomputable def trC (c : RC) : RC := ⟨if c.k.toList = [117] then kD else if c.k.toList = [100] then kU else c.k, c.l, c.w⟩
noncomputable def turnC (cs : List RC) : List RC := cs.reverse.map trC
theorem drop_rev (f : RC → RC) (cs : List RC) (j : Nat) (h : j < cs.length) : (cs.drop j).reverse.map f = (cs.drop (j + 1)).reverse.map f ++ [f (cs.getD j rc0)] := by
  rw [List.drop_eq_getElem_cons h, List.reverse_cons, List.map_append]
  congr 2
  simp [List.getD, h]
/-- What a function that makes chips gives back. -/
def resC (ok : Bool) (cs : List RC) : List RC := if ok = true then cs else []

theorem addr_add (b o i : Nat) : (⟨b, o, none⟩ : Addr).add i = ⟨b, o + i, none⟩ := by unfold Addr.add; split <;> simp_all
theorem cells_ch3 {W : World} {b o : Nat} {cs : List RC} (h : ∀ i, i < cs.length → W.cell? ⟨b, o + i * 3, none⟩ = some (.string (cs.getD i rc0).k) ∧ W.cell? ⟨b, o + i * 3 + 1, none⟩ = some (.int .i64 (cs.getD i rc0).l) ∧ W.cell? ⟨b, o + i * 3 + 2, none⟩ = some (.int .i64 (cs.getD i rc0).w)) :
    ∀ j u, (ch3 cs)[j]? = some u → W.cell? ((⟨b, o, none⟩ : Addr).add j) = some u := fun j u hj => by
  have hl : j < cs.length * 3 := by
    have := (List.getElem?_eq_some_iff.1 hj).1
    rw [ch3_length] at this; exact this
  obtain ⟨e1, e2, e3⟩ := ch3_get cs (j / 3) (by omega)
  obtain ⟨h1, h2, h3⟩ := h (j / 3) (by omega)
  rw [addr_add]
  have hj3 : j = j / 3 * 3 ∨ j = j / 3 * 3 + 1 ∨ j = j / 3 * 3 + 2 := by omega
  rcases hj3 with e | e | e
  · rw [e] at hj ⊢
    rw [e1] at hj; cases hj
    exact h1
  · rw [e] at hj ⊢
    rw [e2] at hj; cases hj
    rw [← Nat.add_assoc]
    exact h2
  · rw [e] at hj ⊢
    rw [e3] at hj; cases hj
    rw [← Nat.add_assoc]
    exact h3
theorem ChipsR.cells {w W : World} {b o : Nat} {cs : List RC} (h : ChipsR w (some ⟨b, o, none⟩) cs) (hs : w.Since w.heap.size W) : ∀ j u, (ch3 cs)[j]? = some u → W.cell? ((⟨b, o, none⟩ : Addr).add j) = some u := fun j u hj => by
  by_cases h0 : 0 < cs.length
  · obtain ⟨b', o', e, hc⟩ := h.since hs h0
    simp only [Option.some.injEq, Addr.mk.injEq, and_true] at e
    obtain ⟨rfl, rfl⟩ := e
    exact cells_ch3 hc j u hj
  · have := (List.getElem?_eq_some_iff.1 hj).1
    rw [ch3_length] at this
    omega

noncomputable def joinB (n : Int) (cs ds : List RC) : Bool := netB n cs && (netB n ds && decide (cs.length + ds.length ≤ 10))

end Go.Proofs.Ytbclpbgomkfabaa
