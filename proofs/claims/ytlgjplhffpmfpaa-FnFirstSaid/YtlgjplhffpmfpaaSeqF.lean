/- Loops over an iterator that keeps cells of its own: what comes may be laid into a box, the body is told of its own loop's record; and such a loop within a round. -/
import Derived.Test.YtlgjplhffpmfpaaSeqE
import Derived.RangeFuncNested
namespace Go.Proofs.Ytlgjplhffpmfpaa
open Go.RowKit Go.Deep Go.Shelf

theorem SeqE.inRound {α : Type} {F : Fence} {n : Nat} {P : Program} {g : Nat} {lb : Array Value} {encs : α → Array Value} {Px : α → World → Prop} {need : Nat → Prop} {S Sp : List α → Prop} {N : Nat} {w : World} (l : Nat) (h : SeqE F n P g lb encs Px need S Sp N w) : SeqE (F.inRound l) n P g lb encs Px need S Sp N w := h

set_option maxHeartbeats 1000000 in
/-- The law for a loop over such an iterator, whose round may lay a box and whose body is told of the loop's record. -/
theorem rangeF {F : Fence} {n : Nat} {P : Program} {w : World} {α : Type} {g : Operand} {ps : Array Tmp} {assign body : Code} {Q : Exit → Act → World → Prop} {a : Act}
    (hro : F.round = none) (h1 : 1 ≤ n) {gf : Nat} {lb : Array Value} (hg : a.eval g = .func (.func gf) #[] lb) (hFg : F.fn gf) (eg : ∀ args w, (callFunc gf args).run P w = .ok (.enter gf args) w)
    {encs : α → Array Value} {Px : α → Prop} {need : Nat → Prop} {S Sp : List α → Prop} {N : Nat} (hseq : SeqE F (n - 1) P gf lb encs (fun x _ => Px x) need S Sp N w) (hps : ∀ x, (encs x).size = ps.size)
    (own : Nat → Prop) (hown : ∀ k, own k → k < w.heap.size ∧ ¬ need k) (hneed : ∀ k, need k → k < w.heap.size)
    (I : List α → World → Prop) (Ix : Code → List α → World → Prop) (hI : FromB w.heap.size I) (hIx : ∀ c, FromB w.heap.size (Ix c)) (h0 : I [] w)
    (Ax : α → Act → World → Prop) (hAx : ∀ x a' W l o o', Ax x a' W → W.heap[l]? = some o → o.isCells = false → Ax x a' (W.putObj l o'))
    (hassign : ∀ (l : Nat) (pre : List α) (x : α) (W : World) (K : Act → World → Prop), w.heap.size ≤ W.heap.size → I pre W → Px x → (∀ a' W', Keeps own W W' → I pre W' → Ax x a' W' → K a' W') →
      assign.wpIn (F.inRound l) (n - 1 - 1) P (Exit.then K (fun _ _ _ => False)) { tmps := (ps.zip (encs x)).foldl (fun t (p, v) => t.setIfInBounds p v) a.tmps, defers := [] } W)
    (hbody : ∀ (l : Nat) (pre : List α) (x : α) (a' : Act) (W : World), w.heap.size ≤ l → w.heap.size ≤ W.heap.size → (∃ r, W.heap[l]? = some (.loop r)) → I pre W → Px x → Ax x a' W → pre.length < N → body.wpIn (F.inRound l) (n - 1 - 1) P (roundE own I Ix (pre ++ [x]) W) a' W)
    (hdone : ∀ (D : Nat) (xs : List α) (W : World), w.heap.size ≤ D → S xs → I xs W → W.heap[D]? = some (.deferred (some [])) → Q .normal { a with defers := { target := .collected D, args := #[] } :: a.defers } W)
    (hstop : ∀ (D : Nat) (c : Code) (pre : List α) (W : World), w.heap.size ≤ D → Sp pre → Ix c pre W → W.heap[D]? = some (.deferred (some [])) → c.wpIn F n P Q { a with defers := { target := .collected D, args := #[] } :: a.defers } W) :
    (Code.rangeFunc g ps assign body).wpIn F n P Q a w := by
  refine wpIn_rangeFunc fun fn hfn => ?_
  rw [hro]
  obtain ⟨L, hL⟩ : ∃ L, L = w.heap.size + 1 := ⟨_, rfl⟩
  let R : LoopState → Option Code → Obj := fun st pe => .loop { state := st, pending := pe, fn := fn, tmps := a.tmps, params := ps, assign := assign, body := body, defers := w.heap.size }
  obtain ⟨V, hV⟩ : ∃ V, V = (w.alloc (.deferred (some []))).alloc (R .ready none) := ⟨_, rfl⟩
  have sV : V.heap.size = L + 1 := by rw [hV, hL]; simp
  have lV : V.heap[L]? = some (R .ready none) := by
    have := World.alloc_heap_new (w.alloc (.deferred (some []))) (R .ready none)
    rw [World.size_alloc] at this
    rw [hV, hL]; exact this
  have dV : V.heap[w.heap.size]? = some (.deferred (some [])) := by
    rw [hV]; exact (Below.heap_alloc _ _ _ (by simp)).trans (World.alloc_heap_new w _)
  have bV : Below w.heap.size w V := by rw [hV]; exact ((Below.refl _ w).alloc (Nat.le_refl _) _).alloc (by simp) _
  have iV : I [] V := by rw [hV]; exact hI.alloc _ (hI.alloc _ h0)
  have hen : (Instr.enterLoop fn a.tmps ps assign body none).run P w = .ok (L, [{ target := .collected w.heap.size, args := #[] }]) V := by
    rw [hV, hL]; exact run_enterLoop_outer _ _ _ _ _
  clear hV
  have hrec : FromB V.heap.size (fun (_ : Unit) W => W.heap[L]? = some (R .ready none) ∧ W.heap[w.heap.size]? = some (.deferred (some []))) := fun _ A B row hs hgr hr =>
    ⟨(hgr.block L (Array.getElem?_eq_some_iff.1 hs.1).1 (fun e => by have := hr L e.symm; omega)).trans hs.1, (hgr.block _ (Array.getElem?_eq_some_iff.1 hs.2).1 (fun e => by have := hr _ e.symm; omega)).trans hs.2⟩
  refine ⟨L, _, V, { target := .fn (.func gf) lb, args := #[.func (.yield L) #[] #[]] }, V, gf, #[.func (.yield L) #[] #[]] ++ lb, V, hen, ?_, ?_, ?_, fun _ => h1, ?_⟩
  · simp only [resolve, hg]
    simp [go_sem]
  · intro f' hf'
    simp [Target.leads] at hf'
    subst hf'
    exact hFg
  · simp [invoke, go_sem, eg]
  refine (hseq L (fun pre W => I pre W ∧ W.heap[L]? = some (R .ready none) ∧ W.heap[w.heap.size]? = some (.deferred (some [])))
    (fun pre W => Ix .ret pre W ∧ W.heap[L]? = some (R .done (some .ret)) ∧ W.heap[w.heap.size]? = some (.deferred (some [])))
    (fun k => own k ∨ k = L) V bV ?_ ?_ ?_ ?_ ⟨iV, lV, dV⟩).mono ?_
  · rintro k (hk | rfl)
    · exact ⟨by have := (hown k hk).1; omega, (hown k hk).2⟩
    · exact ⟨by omega, fun h => by have := hneed _ h; omega⟩
  · intro s A B row hs hgr hr
    exact ⟨hI s A B row hs.1 hgr (fun r e => by have := hr r e; omega), hrec () A B row hs.2 hgr hr⟩
  · intro s A B row hs hgr hr
    exact ⟨hIx _ s A B row hs.1 hgr (fun r e => by have := hr r e; omega), (hgr.block L (Array.getElem?_eq_some_iff.1 hs.2.1).1 (fun e => by have := hr L e.symm; omega)).trans hs.2.1, (hgr.block _ (Array.getElem?_eq_some_iff.1 hs.2.2).1 (fun e => by have := hr _ e.symm; omega)).trans hs.2.2⟩
  · rintro pre x Wb ⟨hi, hl, hd⟩ hpx hlen
    have hno : ¬ own L := fun h => by have := (hown _ h).1; omega
    have hno2 : ¬ own w.heap.size := fun h => by have := (hown _ h).1; omega
    have ltb : L < Wb.heap.size := (Array.getElem?_eq_some_iff.1 hl).1
    refine ⟨fn, _, assign, body, run_yield hl (hps x), roundIn_of_wpIn hfn (hassign L pre x Wb _ (by omega) hi hpx ?_)⟩
    intro a' W hka hia hax
    replace hl := hka.same _ _ hno hl
    replace hd := hka.same _ _ hno2 hd
    have lt : L < W.heap.size := (Array.getElem?_eq_some_iff.1 hl).1
    refine ⟨_, run_beginRound hl rfl, ?_⟩
    obtain ⟨X, hX⟩ : ∃ X, X = W.putObj L (R .busy none) := ⟨_, rfl⟩
    have lX : X.heap[L]? = some (R .busy none) := by rw [hX]; exact World.putObj_heap_same lt
    have dX : X.heap[w.heap.size]? = some (.deferred (some [])) := by rw [hX]; exact (World.putObj_heap_other (by omega)).trans hd
    have iX : I pre X := by rw [hX]; exact hI.put _ hia (by omega)
    have aX : Ax x a' X := by rw [hX]; exact hAx x a' W L _ _ hax hl rfl
    have kX : Keeps (fun k => own k ∨ k = L) Wb X := by rw [hX]; exact (hka.mono fun _ h => .inl h).trans (Keeps.put _ W _ (.inr rfl))
    have zX : w.heap.size ≤ X.heap.size := by have := (Array.getElem?_eq_some_iff.1 lX).1; omega
    refine wpIn_mono (by rw [← hX]; exact hbody L pre x a' X (by omega) zX ⟨_, lX⟩ iX hpx aX hlen) ?_
    rintro e b Y hp
    cases e with
    | normal =>
      have lY := hp.1.same _ _ hno lX
      have dY := hp.1.same _ _ hno2 dX
      exact ⟨_, _, run_endRound none lY, .inl ⟨rfl, ⟨hI.put _ hp.2 (by omega), World.putObj_heap_same (Array.getElem?_eq_some_iff.1 lY).1, (World.putObj_heap_other (by omega)).trans dY⟩, (kX.trans (hp.1.mono fun _ h => .inl h)).trans (Keeps.put _ Y _ (.inr rfl))⟩⟩
    | ret =>
      have lY := hp.1.same _ _ hno lX
      have dY := hp.1.same _ _ hno2 dX
      exact ⟨_, _, run_endRound (some .ret) lY, .inr ⟨rfl, ⟨(hIx _).put _ hp.2 (by omega), World.putObj_heap_same (Array.getElem?_eq_some_iff.1 lY).1, (World.putObj_heap_other (by omega)).trans dY⟩, (kX.trans (hp.1.mono fun _ h => .inl h)).trans (Keeps.put _ Y _ (.inr rfl))⟩⟩
    | exit id => exact hp.elim
    | goto t => exact hp.elim
    | panic ch => exact hp.elim
    | outgrown => exact hp.elim
  · rintro e Y ⟨⟨v, rfl⟩, (⟨xs, hS, hi, hl, hd⟩ | ⟨pre, hSp, hi, hl, hd⟩)⟩
    · exact ⟨none, _, run_endLoop hl (by simp), hdone _ xs _ (Nat.le_refl _) hS (hI.put _ hi (by omega)) ((World.putObj_heap_other (by omega)).trans hd)⟩
    · exact ⟨some .ret, _, run_endLoop hl (by simp), hstop _ .ret pre _ (Nat.le_refl _) hSp ((hIx _).put _ hi (by omega)) ((World.putObj_heap_other (by omega)).trans hd)⟩

set_option maxHeartbeats 1000000 in
/-- The same within a round of loop l₀. -/
theorem rangeN {F : Fence} {n : Nat} {P : Program} {w : World} {α : Type} {g : Operand} {ps : Array Tmp} {assign body : Code} {Q : Exit → Act → World → Prop} {a : Act}
    {l₀ : Nat} {r₀ : Loop} (hro : F.round = some l₀) (hl₀ : w.heap[l₀]? = some (.loop r₀)) (h1 : 1 ≤ n) {gf : Nat} {lb : Array Value} (hg : a.eval g = .func (.func gf) #[] lb) (hFg : F.fn gf) (eg : ∀ args w, (callFunc gf args).run P w = .ok (.enter gf args) w)
    {encs : α → Array Value} {Px : α → Prop} {need : Nat → Prop} {S Sp : List α → Prop} {N : Nat} (hseq : SeqE F (n - 1) P gf lb encs (fun x _ => Px x) need S Sp N w) (hps : ∀ x, (encs x).size = ps.size)
    (own : Nat → Prop) (hown : ∀ k, own k → k < w.heap.size ∧ ¬ need k) (hneed : ∀ k, need k → k < w.heap.size)
    (I : List α → World → Prop) (Ix : Code → List α → World → Prop) (hI : FromB w.heap.size I) (hIx : ∀ c, FromB w.heap.size (Ix c)) (h0 : I [] w)
    (Ax : α → Act → World → Prop) (hAx : ∀ x a' W l o o', Ax x a' W → W.heap[l]? = some o → o.isCells = false → Ax x a' (W.putObj l o'))
    (hassign : ∀ (l : Nat) (pre : List α) (x : α) (W : World) (K : Act → World → Prop), w.heap.size ≤ W.heap.size → I pre W → Px x → (∀ a' W', Keeps own W W' → I pre W' → Ax x a' W' → K a' W') →
      assign.wpIn (F.inRound l) (n - 1 - 1) P (Exit.then K (fun _ _ _ => False)) { tmps := (ps.zip (encs x)).foldl (fun t (p, v) => t.setIfInBounds p v) a.tmps, defers := [] } W)
    (hbody : ∀ (l : Nat) (pre : List α) (x : α) (a' : Act) (W : World), w.heap.size ≤ l → w.heap.size ≤ W.heap.size → (∃ r, W.heap[l]? = some (.loop r)) → I pre W → Px x → Ax x a' W → pre.length < N → body.wpIn (F.inRound l) (n - 1 - 1) P (roundE own I Ix (pre ++ [x]) W) a' W)
    (hdone : ∀ (xs : List α) (W : World), S xs → I xs W → Q .normal a W)
    (hstop : ∀ (c : Code) (pre : List α) (W : World), Sp pre → Ix c pre W → c.wpIn F n P Q a W) :
    (Code.rangeFunc g ps assign body).wpIn F n P Q a w := by
  refine wpIn_rangeFunc fun fn hfn => ?_
  rw [hro]
  obtain ⟨L, hL⟩ : ∃ L, L = w.heap.size := ⟨_, rfl⟩
  let R : LoopState → Option Code → Obj := fun st pe => .loop { state := st, pending := pe, fn := fn, tmps := a.tmps, params := ps, assign := assign, body := body, defers := r₀.defers }
  obtain ⟨V, hV⟩ : ∃ V, V = w.alloc (R .ready none) := ⟨_, rfl⟩
  have sV : V.heap.size = L + 1 := by rw [hV, hL]; simp
  have lV : V.heap[L]? = some (R .ready none) := by rw [hV, hL]; exact World.alloc_heap_new w _
  have bV : Below w.heap.size w V := by rw [hV]; exact (Below.refl _ w).alloc (Nat.le_refl _) _
  have iV : I [] V := by rw [hV]; exact hI.alloc _ h0
  have hen : (Instr.enterLoop fn a.tmps ps assign body (some l₀)).run P w = .ok (L, []) V := by
    rw [hV, hL]; exact run_enterLoop_inner hl₀ _ _ _ _ _
  clear hV
  refine ⟨L, _, V, { target := .fn (.func gf) lb, args := #[.func (.yield L) #[] #[]] }, V, gf, #[.func (.yield L) #[] #[]] ++ lb, V, hen, ?_, ?_, ?_, fun _ => h1, ?_⟩
  · simp only [resolve, hg]
    simp [go_sem]
  · intro f' hf'
    simp [Target.leads] at hf'
    subst hf'
    exact hFg
  · simp [invoke, go_sem, eg]
  refine (hseq L (fun pre W => I pre W ∧ W.heap[L]? = some (R .ready none))
    (fun pre W => Ix .ret pre W ∧ W.heap[L]? = some (R .done (some .ret)))
    (fun k => own k ∨ k = L) V bV ?_ ?_ ?_ ?_ ⟨iV, lV⟩).mono ?_
  · rintro k (hk | rfl)
    · exact ⟨by have := (hown k hk).1; omega, (hown k hk).2⟩
    · exact ⟨by omega, fun h => by have := hneed _ h; omega⟩
  · intro s A B row hs hgr hr
    exact ⟨hI s A B row hs.1 hgr (fun r e => by have := hr r e; omega), (hgr.block L (Array.getElem?_eq_some_iff.1 hs.2).1 (fun e => by have := hr L e.symm; omega)).trans hs.2⟩
  · intro s A B row hs hgr hr
    exact ⟨hIx _ s A B row hs.1 hgr (fun r e => by have := hr r e; omega), (hgr.block L (Array.getElem?_eq_some_iff.1 hs.2).1 (fun e => by have := hr L e.symm; omega)).trans hs.2⟩
  · rintro pre x Wb ⟨hi, hl⟩ hpx hlen
    have hno : ¬ own L := fun h => by have := (hown _ h).1; omega
    have ltb : L < Wb.heap.size := (Array.getElem?_eq_some_iff.1 hl).1
    refine ⟨fn, _, assign, body, run_yield hl (hps x), roundIn_of_wpIn hfn (hassign L pre x Wb _ (by omega) hi hpx ?_)⟩
    intro a' W hka hia hax
    replace hl := hka.same _ _ hno hl
    have lt : L < W.heap.size := (Array.getElem?_eq_some_iff.1 hl).1
    refine ⟨_, run_beginRound hl rfl, ?_⟩
    obtain ⟨X, hX⟩ : ∃ X, X = W.putObj L (R .busy none) := ⟨_, rfl⟩
    have lX : X.heap[L]? = some (R .busy none) := by rw [hX]; exact World.putObj_heap_same lt
    have iX : I pre X := by rw [hX]; exact hI.put _ hia (by omega)
    have aX : Ax x a' X := by rw [hX]; exact hAx x a' W L _ _ hax hl rfl
    have kX : Keeps (fun k => own k ∨ k = L) Wb X := by rw [hX]; exact (hka.mono fun _ h => .inl h).trans (Keeps.put _ W _ (.inr rfl))
    have zX : w.heap.size ≤ X.heap.size := by have := (Array.getElem?_eq_some_iff.1 lX).1; omega
    refine wpIn_mono (by rw [← hX]; exact hbody L pre x a' X (by omega) zX ⟨_, lX⟩ iX hpx aX hlen) ?_
    rintro e b Y hp
    cases e with
    | normal =>
      have lY := hp.1.same _ _ hno lX
      exact ⟨_, _, run_endRound none lY, .inl ⟨rfl, ⟨hI.put _ hp.2 (by omega), World.putObj_heap_same (Array.getElem?_eq_some_iff.1 lY).1⟩, (kX.trans (hp.1.mono fun _ h => .inl h)).trans (Keeps.put _ Y _ (.inr rfl))⟩⟩
    | ret =>
      have lY := hp.1.same _ _ hno lX
      exact ⟨_, _, run_endRound (some .ret) lY, .inr ⟨rfl, ⟨(hIx _).put _ hp.2 (by omega), World.putObj_heap_same (Array.getElem?_eq_some_iff.1 lY).1⟩, (kX.trans (hp.1.mono fun _ h => .inl h)).trans (Keeps.put _ Y _ (.inr rfl))⟩⟩
    | exit id => exact hp.elim
    | goto t => exact hp.elim
    | panic ch => exact hp.elim
    | outgrown => exact hp.elim
  · rintro e Y ⟨⟨v, rfl⟩, (⟨xs, hS, hi, hl⟩ | ⟨pre, hSp, hi, hl⟩)⟩
    · exact ⟨none, _, run_endLoop hl (by simp), hdone xs _ hS (hI.put _ hi (by omega))⟩
    · exact ⟨some .ret, _, run_endLoop hl (by simp), hstop .ret pre _ hSp ((hIx _).put _ hi (by omega))⟩

end Go.Proofs.Ytlgjplhffpmfpaa
