import Derived.Test.YtcnbffflgodheaaFinNetMostLa
import Derived.RangeFuncBox
import Derived.RangeFuncNested
import Derived.Test.YtcnbffflgodheaaSetsK
import Derived.Test.YtcnbffflgodheaaRoads
import Derived.Test.YtcnbffflgodheaaSig
import Derived.Test.YtcnbffflgodheaaMembers
import Derived.Test.YtcnbffflgodheaaPivotsI
import Derived.Test.YtcnbffflgodheaaOrdDet
import Derived.Test.YtcnbffflgodheaaMinorV
import Derived.Test.YtcnbffflgodheaaSets
import Derived.Laws.EntriesVeiled
import Derived.WalkHide
import Derived.Test.YtcnbffflgodheaaRankV
import Derived.Test.YtcnbffflgodheaaTurnSpec
import Derived.Deep.QuietTactic
import Derived.Deep.AppendLies
import Derived.Deep.RegionHeld3
import Derived.Test.YtcnbffflgodheaaHarn2
import Derived.Test.YtcnbffflgodheaaSwapped
import Derived.Test.YtcnbffflgodheaaDetMul
import Derived.Test.YtcnbffflgodheaaL2Square
import Derived.Test.YtcnbffflgodheaaBar
import Derived.Test.YtcnbffflgodheaaOrdF
import Derived.Test.YtcnbffflgodheaaPartImpl
import Derived.Test.YtcnbffflgodheaaNetG
import Derived.Test.YtcnbffflgodheaaRows
import Derived.Test.YtcnbffflgodheaaData
import Derived.ProofKit
import Derived.Deep.Matrix
import Derived.Deep.Slices

section
namespace Go.Proofs.Ytcnbffflgodheaa
open Go.RowKit Go.Deep Go.Shelf
attribute [local go_sem] Oper.semAt_some

structure SBF (w : World) (y : Int) (W : World) : Prop where
  bs : Boxed W w.heap.size 3 (.int .i64 y)
  sn : w.Since w.heap.size W
theorem SBF.kept {w W W' : World} {y : Int} {row : Option Nat} (h : SBF w y W) (hg : W.grownBy W' row) (hr : ∀ r, row = some r → w.heap.size + 1 ≤ r) : SBF w y W' :=
  ⟨h.bs.kept hg (fun e => by have := hr _ e.symm; omega), h.sn.grown hg h.sn.size (fun k e => by have := hr k e; omega)⟩
theorem SBF.set {w W : World} {y : Int} (h : SBF w y W) (z : Int) : SBF w z (W.setCell ⟨w.heap.size, 0, none⟩ (.int .i64 z)) :=
  ⟨h.bs.set _, h.sn.setCell (Nat.le_refl _) _⟩
theorem sbf_start (w : World) (y : Int) : SBF w y (w.alloc (.cells #[.int .i64 y] 3)) := ⟨Boxed.new w 3 (.int .i64 y), (World.Since.refl _ w).alloc (Nat.le_refl _) _⟩
theorem sumTo2_snoc (t : Nat) (l : List (Nat × Int)) (x : Nat × Int) : sumTo2 t (l ++ [x]) = if x.1 = t then sumTo2 t l + x.2 else sumTo2 t l := by
  rw [sumTo2_app]
  unfold sumTo2
  simp only [List.foldl_cons, List.foldl_nil]
  split <;> simp

end Go.Proofs.Ytcnbffflgodheaa
end

section
namespace Go.Proofs.Ytcnbffflgodheaa
open Go.RowKit Go.Deep Go.Shelf

theorem SeqE.inRound {α : Type} {F : Fence} {n : Nat} {P : Program} {g : Nat} {lb : Array Value} {encs : α → Array Value} {Px : α → World → Prop} {need : Nat → Prop} {S Sp : List α → Prop} {N : Nat} {w : World} (l : Nat) (h : SeqE F n P g lb encs Px need S Sp N w) : SeqE (F.inRound l) n P g lb encs Px need S Sp N w := h

set_option maxHeartbeats 1000000 in
theorem rangeF {F : Fence} {n : Nat} {P : Program} {w : World} {α : Type} {g : Operand} {ps : Array Tmp} {assign body : Code} {Q : Exit → Act → World → Prop} {a : Act}
    (hro : F.round = none) (h1 : 1 ≤ n) {gf : Nat} {lb : Array Value} (hg : a.eval g = .func (.func gf) #[] lb) (hFg : F.fn gf) (eg : ∀ args w, (callFunc gf args).run P w = .ok (.enter gf args) w)
    {encs : α → Array Value} {Px : α → Prop} {need : Nat → Prop} {S Sp : List α → Prop} {N : Nat} (hseq : SeqE F (n - 1) P gf lb encs (fun x _ => Px x) need S Sp N w) (hps : ∀ x, (encs x).size = ps.size)
    (own : Nat → Prop) (hown : ∀ k, own k → k < w.heap.size ∧ ¬ need k) (hneed : ∀ k, need k → k < w.heap.size)
    (I : List α → World → Prop) (Ix : Code → List α → World → Prop) (hI : FromB w.heap.size I) (hIx : ∀ c, FromB w.heap.size (Ix c)) (h0 : I [] w)
    (Ax : α → Act → World → Prop) (hAx : ∀ x a' W l o o', Ax x a' W → W.heap[l]? = some o → o.isCells = false → Ax x a' (W.putObj l o'))
    (hassign : ∀ (l : Nat) (pre : List α) (x : α) (W : World) (K : Act → World → Prop), w.heap.size ≤ W.heap.size → I pre W → Px x → (∀ a' W', Keeps own W W' → I pre W' → Ax x a' W' → K a' W') →
      assign.wpIn (F.inRound l) (n - 1 - 1) P (Exit.then K (fun _ _ _ => False)) { tmps := (ps.zip (encs x)).foldl (fun t (p, v) => t.setIfInBounds p v) a.tmps, defers := [] } W)
    (hbody : ∀ (l : Nat) (pre : List α) (x : α) (a' : Act) (W : World), w.heap.size ≤ l → w.heap.size ≤ W.heap.size → (∃ r, W.heap[l]? = some (.loop r)) → I pre W → Px x → Ax x a' W → pre.length < N → body.wpIn (F.inRound l) (n - 1 - 1) P (roundE own I Ix (pre ++ [x]) W) a' W)
    (hdone : ∀ (D : Nat) (xs : List α) (W : World), w.heap.size ≤ D → S xs → I xs W → W.heap[D]? = some (.deferred (some [])) → Q .normal { a with defers := { target := .collected D, args := #[] } :: a.defers } W)
    (hstop : ∀ (D : Nat) (c : Code) (pre : List α) (W : World), w.heap.size ≤ D → Sp pre → Ix c pre W → W.heap[D]? = some (.deferred (some [])) → c.wpIn F n P Q { a with defers := { target := .collected D, args := #[] } :: a.defers } W) :
    (Code.rangeFunc g ps assign body).wpIn F n P Q a w := by
  refine wpIn_rangeFunc fun fn hfn => ?_
  rw [hro]
  obtain ⟨L, hL⟩ : ∃ L, L = w.heap.size + 1 := ⟨_, rfl⟩
  let R : LoopState → Option Code → Obj := fun st pe => .loop { state := st, pending := pe, fn := fn, tmps := a.tmps, params := ps, assign := assign, body := body, defers := w.heap.size }
  obtain ⟨V, hV⟩ : ∃ V, V = (w.alloc (.deferred (some []))).alloc (R .ready none) := ⟨_, rfl⟩
  have sV : V.heap.size = L + 1 := by rw [hV, hL]; simp
  have lV : V.heap[L]? = some (R .ready none) := by
    have := World.alloc_heap_new (w.alloc (.deferred (some []))) (R .ready none)
    rw [World.size_alloc] at this
    rw [hV, hL]; exact this
  have dV : V.heap[w.heap.size]? = some (.deferred (some [])) := by
    rw [hV]; exact (Below.heap_alloc _ _ _ (by simp)).trans (World.alloc_heap_new w _)
  have bV : Below w.heap.size w V := by rw [hV]; exact ((Below.refl _ w).alloc (Nat.le_refl _) _).alloc (by simp) _
  have iV : I [] V := by rw [hV]; exact hI.alloc _ (hI.alloc _ h0)
  have hen : (Instr.enterLoop fn a.tmps ps assign body none).run P w = .ok (L, [{ target := .collected w.heap.size, args := #[] }]) V := by
    rw [hV, hL]; exact run_enterLoop_outer _ _ _ _ _
  clear hV
  have hrec : FromB V.heap.size (fun (_ : Unit) W => W.heap[L]? = some (R .ready none) ∧ W.heap[w.heap.size]? = some (.deferred (some []))) := fun _ A B row hs hgr hr =>
    ⟨(hgr.block L (Array.getElem?_eq_some_iff.1 hs.1).1 (fun e => by have := hr L e.symm; omega)).trans hs.1, (hgr.block _ (Array.getElem?_eq_some_iff.1 hs.2).1 (fun e => by have := hr _ e.symm; omega)).trans hs.2⟩
  refine ⟨L, _, V, { target := .fn (.func gf) lb, args := #[.func (.yield L) #[] #[]] }, V, gf, #[.func (.yield L) #[] #[]] ++ lb, V, hen, ?_, ?_, ?_, fun _ => h1, ?_⟩
  · simp only [resolve, hg]
    simp [go_sem]
  · intro f' hf'
    simp [Target.leads] at hf'
    subst hf'
    exact hFg
  · simp [invoke, go_sem, eg]
  refine (hseq L (fun pre W => I pre W ∧ W.heap[L]? = some (R .ready none) ∧ W.heap[w.heap.size]? = some (.deferred (some [])))
    (fun pre W => Ix .ret pre W ∧ W.heap[L]? = some (R .done (some .ret)) ∧ W.heap[w.heap.size]? = some (.deferred (some [])))
    (fun k => own k ∨ k = L) V bV ?_ ?_ ?_ ?_ ⟨iV, lV, dV⟩).mono ?_
  · rintro k (hk | rfl)
    · exact ⟨by have := (hown k hk).1; omega, (hown k hk).2⟩
    · exact ⟨by omega, fun h => by have := hneed _ h; omega⟩
  · intro s A B row hs hgr hr
    exact ⟨hI s A B row hs.1 hgr (fun r e => by have := hr r e; omega), hrec () A B row hs.2 hgr hr⟩
  · intro s A B row hs hgr hr
    exact ⟨hIx _ s A B row hs.1 hgr (fun r e => by have := hr r e; omega), (hgr.block L (Array.getElem?_eq_some_iff.1 hs.2.1).1 (fun e => by have := hr L e.symm; omega)).trans hs.2.1, (hgr.block _ (Array.getElem?_eq_some_iff.1 hs.2.2).1 (fun e => by have := hr _ e.symm; omega)).trans hs.2.2⟩
  · rintro pre x Wb ⟨hi, hl, hd⟩ hpx hlen
    have hno : ¬ own L := fun h => by have := (hown _ h).1; omega
    have hno2 : ¬ own w.heap.size := fun h => by have := (hown _ h).1; omega
    have ltb : L < Wb.heap.size := (Array.getElem?_eq_some_iff.1 hl).1
    refine ⟨fn, _, assign, body, run_yield hl (hps x), roundIn_of_wpIn hfn (hassign L pre x Wb _ (by omega) hi hpx ?_)⟩
    intro a' W hka hia hax
    replace hl := hka.same _ _ hno hl
    replace hd := hka.same _ _ hno2 hd
    have lt : L < W.heap.size := (Array.getElem?_eq_some_iff.1 hl).1
    refine ⟨_, run_beginRound hl rfl, ?_⟩
    obtain ⟨X, hX⟩ : ∃ X, X = W.putObj L (R .busy none) := ⟨_, rfl⟩
    have lX : X.heap[L]? = some (R .busy none) := by rw [hX]; exact World.putObj_heap_same lt
    have dX : X.heap[w.heap.size]? = some (.deferred (some [])) := by rw [hX]; exact (World.putObj_heap_other (by omega)).trans hd
    have iX : I pre X := by rw [hX]; exact hI.put _ hia (by omega)
    have aX : Ax x a' X := by rw [hX]; exact hAx x a' W L _ _ hax hl rfl
    have kX : Keeps (fun k => own k ∨ k = L) Wb X := by rw [hX]; exact (hka.mono fun _ h => .inl h).trans (Keeps.put _ W _ (.inr rfl))
    have zX : w.heap.size ≤ X.heap.size := by have := (Array.getElem?_eq_some_iff.1 lX).1; omega
    refine wpIn_mono (by rw [← hX]; exact hbody L pre x a' X (by omega) zX ⟨_, lX⟩ iX hpx aX hlen) ?_
    rintro e b Y hp
    cases e with
    | normal =>
      have lY := hp.1.same _ _ hno lX
      have dY := hp.1.same _ _ hno2 dX
      exact ⟨_, _, run_endRound none lY, .inl ⟨rfl, ⟨hI.put _ hp.2 (by omega), World.putObj_heap_same (Array.getElem?_eq_some_iff.1 lY).1, (World.putObj_heap_other (by omega)).trans dY⟩, (kX.trans (hp.1.mono fun _ h => .inl h)).trans (Keeps.put _ Y _ (.inr rfl))⟩⟩
    | ret =>
      have lY := hp.1.same _ _ hno lX
      have dY := hp.1.same _ _ hno2 dX
      exact ⟨_, _, run_endRound (some .ret) lY, .inr ⟨rfl, ⟨(hIx _).put _ hp.2 (by omega), World.putObj_heap_same (Array.getElem?_eq_some_iff.1 lY).1, (World.putObj_heap_other (by omega)).trans dY⟩, (kX.trans (hp.1.mono fun _ h => .inl h)).trans (Keeps.put _ Y _ (.inr rfl))⟩⟩
    | exit id => exact hp.elim
    | goto t => exact hp.elim
    | panic ch => exact hp.elim
    | outgrown => exact hp.elim
  · rintro e Y ⟨⟨v, rfl⟩, (⟨xs, hS, hi, hl, hd⟩ | ⟨pre, hSp, hi, hl, hd⟩)⟩
    · exact ⟨none, _, run_endLoop hl (by simp), hdone _ xs _ (Nat.le_refl _) hS (hI.put _ hi (by omega)) ((World.putObj_heap_other (by omega)).trans hd)⟩
    · exact ⟨some .ret, _, run_endLoop hl (by simp), hstop _ .ret pre _ (Nat.le_refl _) hSp ((hIx _).put _ hi (by omega)) ((World.putObj_heap_other (by omega)).trans hd)⟩

set_option maxHeartbeats 1000000 in
theorem rangeN {F : Fence} {n : Nat} {P : Program} {w : World} {α : Type} {g : Operand} {ps : Array Tmp} {assign body : Code} {Q : Exit → Act → World → Prop} {a : Act}
    {l₀ : Nat} {r₀ : Loop} (hro : F.round = some l₀) (hl₀ : w.heap[l₀]? = some (.loop r₀)) (h1 : 1 ≤ n) {gf : Nat} {lb : Array Value} (hg : a.eval g = .func (.func gf) #[] lb) (hFg : F.fn gf) (eg : ∀ args w, (callFunc gf args).run P w = .ok (.enter gf args) w)
    {encs : α → Array Value} {Px : α → Prop} {need : Nat → Prop} {S Sp : List α → Prop} {N : Nat} (hseq : SeqE F (n - 1) P gf lb encs (fun x _ => Px x) need S Sp N w) (hps : ∀ x, (encs x).size = ps.size)
    (own : Nat → Prop) (hown : ∀ k, own k → k < w.heap.size ∧ ¬ need k) (hneed : ∀ k, need k → k < w.heap.size)
    (I : List α → World → Prop) (Ix : Code → List α → World → Prop) (hI : FromB w.heap.size I) (hIx : ∀ c, FromB w.heap.size (Ix c)) (h0 : I [] w)
    (Ax : α → Act → World → Prop) (hAx : ∀ x a' W l o o', Ax x a' W → W.heap[l]? = some o → o.isCells = false → Ax x a' (W.putObj l o'))
    (hassign : ∀ (l : Nat) (pre : List α) (x : α) (W : World) (K : Act → World → Prop), w.heap.size ≤ W.heap.size → I pre W → Px x → (∀ a' W', Keeps own W W' → I pre W' → Ax x a' W' → K a' W') →
      assign.wpIn (F.inRound l) (n - 1 - 1) P (Exit.then K (fun _ _ _ => False)) { tmps := (ps.zip (encs x)).foldl (fun t (p, v) => t.setIfInBounds p v) a.tmps, defers := [] } W)
    (hbody : ∀ (l : Nat) (pre : List α) (x : α) (a' : Act) (W : World), w.heap.size ≤ l → w.heap.size ≤ W.heap.size → (∃ r, W.heap[l]? = some (.loop r)) → I pre W → Px x → Ax x a' W → pre.length < N → body.wpIn (F.inRound l) (n - 1 - 1) P (roundE own I Ix (pre ++ [x]) W) a' W)
    (hdone : ∀ (xs : List α) (W : World), S xs → I xs W → Q .normal a W)
    (hstop : ∀ (c : Code) (pre : List α) (W : World), Sp pre → Ix c pre W → c.wpIn F n P Q a W) :
    (Code.rangeFunc g ps assign body).wpIn F n P Q a w := by
  refine wpIn_rangeFunc fun fn hfn => ?_
  rw [hro]
  obtain ⟨L, hL⟩ : ∃ L, L = w.heap.size := ⟨_, rfl⟩
  let R : LoopState → Option Code → Obj := fun st pe => .loop { state := st, pending := pe, fn := fn, tmps := a.tmps, params := ps, assign := assign, body := body, defers := r₀.defers }
  obtain ⟨V, hV⟩ : ∃ V, V = w.alloc (R .ready none) := ⟨_, rfl⟩
  have sV : V.heap.size = L + 1 := by rw [hV, hL]; simp
  have lV : V.heap[L]? = some (R .ready none) := by rw [hV, hL]; exact World.alloc_heap_new w _
  have bV : Below w.heap.size w V := by rw [hV]; exact (Below.refl _ w).alloc (Nat.le_refl _) _
  have iV : I [] V := by rw [hV]; exact hI.alloc _ h0
  have hen : (Instr.enterLoop fn a.tmps ps assign body (some l₀)).run P w = .ok (L, []) V := by
    rw [hV, hL]; exact run_enterLoop_inner hl₀ _ _ _ _ _
  clear hV
  refine ⟨L, _, V, { target := .fn (.func gf) lb, args := #[.func (.yield L) #[] #[]] }, V, gf, #[.func (.yield L) #[] #[]] ++ lb, V, hen, ?_, ?_, ?_, fun _ => h1, ?_⟩
  · simp only [resolve, hg]
    simp [go_sem]
  · intro f' hf'
    simp [Target.leads] at hf'
    subst hf'
    exact hFg
  · simp [invoke, go_sem, eg]
  refine (hseq L (fun pre W => I pre W ∧ W.heap[L]? = some (R .ready none))
    (fun pre W => Ix .ret pre W ∧ W.heap[L]? = some (R .done (some .ret)))
    (fun k => own k ∨ k = L) V bV ?_ ?_ ?_ ?_ ⟨iV, lV⟩).mono ?_
  · rintro k (hk | rfl)
    · exact ⟨by have := (hown k hk).1; omega, (hown k hk).2⟩
    · exact ⟨by omega, fun h => by have := hneed _ h; omega⟩
  · intro s A B row hs hgr hr
    exact ⟨hI s A B row hs.1 hgr (fun r e => by have := hr r e; omega), (hgr.block L (Array.getElem?_eq_some_iff.1 hs.2).1 (fun e => by have := hr L e.symm; omega)).trans hs.2⟩
  · intro s A B row hs hgr hr
    exact ⟨hIx _ s A B row hs.1 hgr (fun r e => by have := hr r e; omega), (hgr.block L (Array.getElem?_eq_some_iff.1 hs.2).1 (fun e => by have := hr L e.symm; omega)).trans hs.2⟩
  · rintro pre x Wb ⟨hi, hl⟩ hpx hlen
    have hno : ¬ own L := fun h => by have := (hown _ h).1; omega
    have ltb : L < Wb.heap.size := (Array.getElem?_eq_some_iff.1 hl).1
    refine ⟨fn, _, assign, body, run_yield hl (hps x), roundIn_of_wpIn hfn (hassign L pre x Wb _ (by omega) hi hpx ?_)⟩
    intro a' W hka hia hax
    replace hl := hka.same _ _ hno hl
    have lt : L < W.heap.size := (Array.getElem?_eq_some_iff.1 hl).1
    refine ⟨_, run_beginRound hl rfl, ?_⟩
    obtain ⟨X, hX⟩ : ∃ X, X = W.putObj L (R .busy none) := ⟨_, rfl⟩
    have lX : X.heap[L]? = some (R .busy none) := by rw [hX]; exact World.putObj_heap_same lt
    have iX : I pre X := by rw [hX]; exact hI.put _ hia (by omega)
    have aX : Ax x a' X := by rw [hX]; exact hAx x a' W L _ _ hax hl rfl
    have kX : Keeps (fun k => own k ∨ k = L) Wb X := by rw [hX]; exact (hka.mono fun _ h => .inl h).trans (Keeps.put _ W _ (.inr rfl))
    have zX : w.heap.size ≤ X.heap.size := by have := (Array.getElem?_eq_some_iff.1 lX).1; omega
    refine wpIn_mono (by rw [← hX]; exact hbody L pre x a' X (by omega) zX ⟨_, lX⟩ iX hpx aX hlen) ?_
    rintro e b Y hp
    cases e with
    | normal =>
      have lY := hp.1.same _ _ hno lX
      exact ⟨_, _, run_endRound none lY, .inl ⟨rfl, ⟨hI.put _ hp.2 (by omega), World.putObj_heap_same (Array.getElem?_eq_some_iff.1 lY).1⟩, (kX.trans (hp.1.mono fun _ h => .inl h)).trans (Keeps.put _ Y _ (.inr rfl))⟩⟩
    | ret =>
      have lY := hp.1.same _ _ hno lX
      exact ⟨_, _, run_endRound (some .ret) lY, .inr ⟨rfl, ⟨(hIx _).put _ hp.2 (by omega), World.putObj_heap_same (Array.getElem?_eq_some_iff.1 lY).1⟩, (kX.trans (hp.1.mono fun _ h => .inl h)).trans (Keeps.put _ Y _ (.inr rfl))⟩⟩
    | exit id => exact hp.elim
    | goto t => exact hp.elim
    | panic ch => exact hp.elim
    | outgrown => exact hp.elim
  · rintro e Y ⟨⟨v, rfl⟩, (⟨xs, hS, hi, hl⟩ | ⟨pre, hSp, hi, hl⟩)⟩
    · exact ⟨none, _, run_endLoop hl (by simp), hdone xs _ hS (hI.put _ hi (by omega))⟩
    · exact ⟨some .ret, _, run_endLoop hl (by simp), hstop .ret pre _ hSp ((hIx _).put _ hi (by omega))⟩

end Go.Proofs.Ytcnbffflgodheaa
end

section
namespace Go.Proofs.Ytcnbffflgodheaa
open Go.RowKit Go.Deep Go.Shelf

theorem sets_seqE (n : Nat) (hn : 2 ≤ n) (Bn Bk N k M : Nat) (hN : N ≤ 6) (hM : 2 ^ N = M) (w : World) (h1 : Bn < w.heap.size) (h2 : Bk < w.heap.size)
    (hBn : w.cell? ⟨Bn, 0, none⟩ = some (.int .i64 N)) (hBk : w.cell? ⟨Bk, 0, none⟩ = some (.int .i64 k)) :
    SeqE Fence.wide n Try.prog 149 #[.pointer (some ⟨Bn, 0, none⟩), .pointer (some ⟨Bk, 0, none⟩)] (fun x : Nat => #[Value.int .i64 (x : Int)]) (fun x _ => x < M ∧ popcS x = k) (fun q => q = Bn ∨ q = Bk) (fun ys => ys = setsTo k M) (fun _ => True) M w := by
  intro l J Jx own W hW hown hJ hJx hY hj
  refine CallsIn.mono (sets1_in n hn l Bn Bk N k M hN hM (Kp2 Bn Bk) (fun _ _ h => h)
    (fun pre W => J pre W ∧ W.cell? ⟨Bn, 0, none⟩ = some (.int .i64 N) ∧ W.cell? ⟨Bk, 0, none⟩ = some (.int .i64 k)) (fun pre W => Jx pre W) (fun s V hV => ?_) (fun pre x V hV hp hx hk => ?_) W
    ((hW.cell (p := ⟨Bn, 0, none⟩) h1).trans hBn) ((hW.cell (p := ⟨Bk, 0, none⟩) h2).trans hBk) ⟨hj, (hW.cell (p := ⟨Bn, 0, none⟩) h1).trans hBn, (hW.cell (p := ⟨Bk, 0, none⟩) h2).trans hBk⟩) ?_
  · exact ⟨hJ s V V.drew none hV.1 ⟨rfl, rfl, rfl, Nat.le_refl _, fun _ _ _ => rfl⟩ (fun r e => by cases e), hV.2.1, hV.2.2⟩
  · have hl : pre.length < M := by
      rw [hp]
      have := setsTo_len k x
      omega
    obtain ⟨hjv, c1, c2⟩ := hV
    obtain ⟨fn, tmps, assign, body, hy, hR⟩ := hY pre x V hjv ⟨hx, hk⟩ hl
    refine ⟨fn, tmps, assign, body, hy, hR.mono ?_⟩
    rintro e W' (⟨r1, r2, r3⟩ | ⟨r1, r2, _⟩)
    · have d1 := r3.cell (a := ⟨Bn, 0, none⟩) (fun h => (hown _ h).2 (.inl rfl)) c1
      have d2 := r3.cell (a := ⟨Bk, 0, none⟩) (fun h => (hown _ h).2 (.inr rfl)) c2
      exact .inl ⟨r1, ⟨r2, d1, d2⟩, d1.trans c1.symm, d2.trans c2.symm⟩
    · exact .inr ⟨r1, r2⟩
  · rintro e W' ⟨r1, (⟨zs, rfl, hj2⟩ | ⟨pre, _, hj2⟩)⟩
    · exact ⟨r1, .inl ⟨_, rfl, hj2.1⟩⟩
    · exact ⟨r1, .inr ⟨_, trivial, hj2⟩⟩

end Go.Proofs.Ytcnbffflgodheaa
end

section
namespace Go.Proofs.Ytcnbffflgodheaa
open Go.RowKit Go.Deep

theorem since_of_map {W w' : World} {o : Obj} (hg : (W.alloc o).grownBy w' (some W.heap.size)) : W.Since W.heap.size w' := by
  have h0 := (World.Since.refl W.heap.size W).alloc (Nat.le_refl _) o
  have h1 := hg.size
  simp only [World.size_alloc] at h1
  exact ⟨hg.os.trans h0.os, hg.tape.trans h0.tape, hg.output.trans h0.output, by omega, fun k hk => (hg.block k (by simp; omega) (by intro e; injection e with e; omega)).trans (h0.block k hk)⟩

set_option maxHeartbeats 400000 in
theorem anyValue_of (rb : Nat) (a : Option Addr) (n cap : Nat) (x : Int) (W : World) (hr : RoadsAt W rb) (ht : ∀ W', W.grownBy W' (some rb) → Calls Try.prog 133 #[.slice a n cap] W' (fun e w' => e = .returned (.int .i64 x) ∧ W'.Since W'.heap.size w')) :
    Calls Try.prog 99 #[.map (some rb), .slice a n cap] W (fun e w' => e = .returned (.int .i64 x) ∧ W.grownBy w' (some rb) ∧ RoadsAt w' rb) := by
  have E := Lib.hid (roads_2 rb a n cap x W hr ht)
  clear hr ht
  go_enter Try.func99, Try.ntmps99
  go_wp2_with fail
  refine (E.out).mono ?_
  rintro e w' ⟨rfl, hg, hr⟩
  go_wp2
  go_ret
  exact ⟨rfl, hg, hr⟩

end Go.Proofs.Ytcnbffflgodheaa
end

section
namespace Go.Proofs.Ytcnbffflgodheaa
open Go.RowKit Go.Deep

theorem OwnT.but {lo hi rb : Nat} {w w' : World} {a : Option Addr} {l : List (List Int)} (h : OwnT lo hi w a l) (hb : rb < lo) (hg : w.grownBy w' (some rb)) : MatR w' a l := by
  intro h0
  obtain ⟨b, A, G, C, e, hbl, hr, _⟩ := h h0
  have hc : ∀ (x k : Nat) (v : Value), lo ≤ x → w.cell? ⟨x, k, none⟩ = some v → w'.cell? ⟨x, k, none⟩ = some v := fun x k v hx hv =>
    (World.cell?_of_block (a := ⟨x, k, none⟩) (hg.block x (World.block_lt_of_cell? _ _ hv) (by intro e; injection e with e; omega))).trans hv
  refine ⟨b, 0, A, C, e, fun r hrl => ?_⟩
  obtain ⟨c1, c2⟩ := hr r hrl
  rw [Nat.zero_add]
  refine ⟨hc _ _ _ hbl.1 c1, fun hp => ?_⟩
  obtain ⟨eA, hG, c3⟩ := c2 hp
  exact ⟨G r, 0, eA, fun i hi => by rw [Nat.zero_add]; exact hc _ _ _ hG.1 (c3 i hi).1⟩

theorem since_map (w : World) : w.Since w.heap.size (w.alloc (.map #[] 0)) := (World.Since.refl w.heap.size w).alloc (Nat.le_refl _) _

def mnP (l : List (List Int)) (x : Nat × Nat) : Int := dt (popcS x.1) (at2 (partL l x.1 x.2))

set_option maxRecDepth 100000 in
set_option maxHeartbeats 1000000 in
theorem minor_any (a : Option Addr) (cap n m r c : Nat) (l : List (List Int)) (w : World) (hn : l.length = n) (hmm : (l.getD 0 []).length = m) (hT : TabIn l) (hr : r < 2 ^ n) (hc : c < 2 ^ m) (hpc : popcS r = popcS c) (hm : MatR w a l) :
    Calls Try.prog 68 #[.slice a n cap, .int .i64 r, .int .i64 c] w fun e w' => e = .returned (.int .i64 (mnP l (r, c))) ∧ w.Since w.heap.size w' := by
  have h6 := hT.2.1
  have hw := hT.width
  rw [hn] at h6
  rw [hmm] at hw
  have hp6 : 2 ^ n ≤ 2 ^ 6 := Nat.pow_le_pow_right (by omega) h6
  have hp6' : 2 ^ m ≤ 2 ^ 6 := Nat.pow_le_pow_right (by omega) hw.2
  have hsq := part_sq hT (s := r) (c := c) (by rw [hn]; exact hr) (by rw [hmm]; exact hc) hpc
  have EP := part_any a cap n r c l (w.alloc (.map #[] 0)) hn hT (by omega) (by omega) (hm.since (since_map w))
  rw [hsq.1] at EP
  have EV := fun (a2 : Option Addr) (c2 : Nat) (V : World) (h : MatR V a2 (partL l r c)) => byPivots_any (popcS r) (partL l r c) a2 c2 V hsq (popcS_le r) h
  have hv : mnP l (r, c) = dt (popcS r) (at2 (partL l r c)) := rfl
  rw [hv]
  obtain ⟨L, hL⟩ : ∃ L, L = partL l r c := ⟨_, rfl⟩
  obtain ⟨k, hk⟩ : ∃ k, k = popcS r := ⟨_, rfl⟩
  simp only [← hk] at EP EV ⊢
  simp only [← hL] at EP EV ⊢
  obtain ⟨x, hx⟩ : ∃ x, x = dt k (at2 L) := ⟨_, rfl⟩
  simp only [← hx] at EV ⊢
  replace EP := Lib.hid EP
  replace EV := Lib.hid EV
  have hmk := @run_makeMap Try.prog
  clear hn hmm hT hr hc hpc hm h6 hw hp6 hp6' hsq hv hL hk hx
  go_enter Try.func68, Try.ntmps68
  go_wp2_with fail
  refine (EP.out).mono ?_
  rintro e w3 ⟨a3, c3, rfl, hs3, ho3⟩
  have HR := Lib.hid ((roads_made w).kept (grown_of_since (row := none) hs3) (by simp))
  have HS3 := Lib.hid ((since_map w).trans (since_mono hs3 (by simp)))
  have HA := Lib.hid (anyValue_of w.heap.size a3 k c3 x w3 HR.out (fun W' hg => EV.out a3 c3 W' (ho3.but (rb := w.heap.size) (by simp) hg)))
  have HSP := Lib.hid (fun (w4 : World) (hg : w3.grownBy w4 (some w.heap.size)) => (show w.Since w.heap.size w4 from ⟨hg.os.trans HS3.out.os, hg.tape.trans HS3.out.tape, hg.output.trans HS3.out.output, Nat.le_trans HS3.out.size hg.size, fun j hj => (hg.block j (Nat.lt_of_lt_of_le hj HS3.out.size) (by intro e; injection e with e; omega)).trans (HS3.out.block j hj)⟩))
  clear hs3 ho3
  go_wp2_with fail
  refine (HA.out).mono ?_
  rintro e w4 ⟨rfl, hg, hr⟩
  have HS4 := Lib.hid (HSP.out w4 hg)
  clear hg hr
  go_wp2
  go_ret
  exact ⟨rfl, HS4.out⟩

end Go.Proofs.Ytcnbffflgodheaa
end

section
namespace Go.Proofs.Ytcnbffflgodheaa
open Go.RowKit Go.Deep

def prow (k m : Nat) (r : Nat) : List (Nat × Nat) := (setsTo k (2 ^ m)).map fun c => (r, c)
def partsK (k n m : Nat) : List (Nat × Nat) := (setsTo k (2 ^ n)).flatMap (prow k m)
def partsTo (n m : Nat) : Nat → List (Nat × Nat)
  | 0 => []
  | j + 1 => partsTo n m j ++ partsK (j + 1) n m
def partsA (n m : Nat) : List (Nat × Nat) := partsTo n m (min n m)
theorem partsK_mem {k n m : Nat} {x : Nat × Nat} : x ∈ partsK k n m ↔ (x.1 < 2 ^ n ∧ popcS x.1 = k) ∧ (x.2 < 2 ^ m ∧ popcS x.2 = k) := by
  unfold partsK prow
  rw [List.mem_flatMap]
  constructor
  · rintro ⟨r, hr, hx⟩
    rw [List.mem_map] at hx
    obtain ⟨c, hc, rfl⟩ := hx
    exact ⟨(setsTo_mem k).1 hr, (setsTo_mem k).1 hc⟩
  · rintro ⟨h1, h2⟩
    exact ⟨x.1, (setsTo_mem k).2 h1, List.mem_map.2 ⟨x.2, (setsTo_mem k).2 h2, rfl⟩⟩
theorem partsTo_mem {n m : Nat} {x : Nat × Nat} : ∀ j, x ∈ partsTo n m j ↔ 1 ≤ popcS x.1 ∧ popcS x.1 ≤ j ∧ popcS x.1 = popcS x.2 ∧ x.1 < 2 ^ n ∧ x.2 < 2 ^ m
  | 0 => by
    show x ∈ [] ↔ _
    simp only [List.not_mem_nil, false_iff]
    omega
  | j + 1 => by
    show x ∈ partsTo n m j ++ partsK (j + 1) n m ↔ _
    rw [List.mem_append, partsTo_mem j, partsK_mem]
    omega
theorem popcP_fin : ∀ n : Fin 7, ∀ s : Fin 64, s.val < 2 ^ n.val → popcS s.val ≤ n.val := by decide +kernel
theorem popcP_pos_fin : ∀ s : Fin 64, s.val ≠ 0 → 1 ≤ popcS s.val := by decide +kernel
theorem popcP_le {n s : Nat} (h6 : n ≤ 6) (h : s < 2 ^ n) : popcS s ≤ n := by
  have p1 : 2 ^ n ≤ 2 ^ 6 := Nat.pow_le_pow_right (by omega) h6
  exact popcP_fin ⟨n, by omega⟩ ⟨s, by omega⟩ h
theorem popcP_pos {n s : Nat} (h6 : n ≤ 6) (h : s < 2 ^ n) (h0 : s ≠ 0) : 1 ≤ popcS s := by
  have p1 : 2 ^ n ≤ 2 ^ 6 := Nat.pow_le_pow_right (by omega) h6
  exact popcP_pos_fin ⟨s, by omega⟩ h0
theorem popcP_zero : popcS 0 = 0 := by decide
theorem partsA_mem {n m : Nat} (hn : n ≤ 6) (hm : m ≤ 6) {x : Nat × Nat} : x ∈ partsA n m ↔ x.1 ≠ 0 ∧ popcS x.1 = popcS x.2 ∧ x.1 < 2 ^ n ∧ x.2 < 2 ^ m := by
  unfold partsA
  rw [partsTo_mem]
  constructor
  · rintro ⟨h1, _, h2, h3, h4⟩
    exact ⟨fun e => by rw [e, popcP_zero] at h1; omega, h2, h3, h4⟩
  · rintro ⟨h1, h2, h3, h4⟩
    have := popcP_pos hn h3 h1
    have := popcP_le hn h3
    have := popcP_le hm h4
    exact ⟨by omega, by omega, h2, h3, h4⟩
def leastB (l : List (List Int)) (q : Int) (ps : List (Nat × Nat)) : Bool := ps.all fun x => decide (q ≤ mnP l x)
theorem leastB_snoc (l : List (List Int)) (q : Int) (ps : List (Nat × Nat)) (x : Nat × Nat) : leastB l q (ps ++ [x]) = (leastB l q ps && decide (q ≤ mnP l x)) := by
  unfold leastB; rw [List.all_append]; simp
theorem leastB_iff {l : List (List Int)} {q : Int} {ps : List (Nat × Nat)} : leastB l q ps = true ↔ ∀ x ∈ ps, q ≤ mnP l x := by
  unfold leastB; rw [List.all_eq_true]; simp
theorem leastB_no {l : List (List Int)} {q : Int} {ps : List (Nat × Nat)} {x : Nat × Nat} (hx : x ∈ ps) (h : mnP l x < q) : leastB l q ps = false := by
  cases e : leastB l q ps with
  | false => rfl
  | true => have := leastB_iff.1 e x hx; omega
def runS (f k : Nat) : Nat := (2 ^ k - 1) * 2 ^ f
theorem runS_fin : ∀ k f : Fin 7, k.val + f.val ≤ 6 → popcS (runS f.val k.val) = k.val ∧ runS f.val k.val < 2 ^ (k.val + f.val) ∧ (k.val ≠ 0 → runS f.val k.val ≠ 0) := by decide +kernel
def firstRow (m i : Nat) : List (Nat × Nat) := (List.range m).map fun k => (runS (i + 1 - (min i k + 1)) (min i k + 1), runS (k + 1 - (min i k + 1)) (min i k + 1))
def partsF (n m : Nat) : List (Nat × Nat) := (List.range n).flatMap (firstRow m)
theorem partsF_mem {n m : Nat} {x : Nat × Nat} : x ∈ partsF n m ↔ ∃ i k, i < n ∧ k < m ∧ x = (runS (i + 1 - (min i k + 1)) (min i k + 1), runS (k + 1 - (min i k + 1)) (min i k + 1)) := by
  unfold partsF firstRow
  rw [List.mem_flatMap]
  constructor
  · rintro ⟨i, hi, hx⟩
    rw [List.mem_map] at hx
    obtain ⟨k, hk, rfl⟩ := hx
    exact ⟨i, k, List.mem_range.1 hi, List.mem_range.1 hk, rfl⟩
  · rintro ⟨i, k, hi, hk, rfl⟩
    exact ⟨i, List.mem_range.2 hi, List.mem_map.2 ⟨k, List.mem_range.2 hk, rfl⟩⟩
theorem first_part {n m i k : Nat} (hn : n ≤ 6) (hm : m ≤ 6) (hi : i < n) (hk : k < m) : popcS (runS (i + 1 - (min i k + 1)) (min i k + 1)) = min i k + 1 ∧ popcS (runS (k + 1 - (min i k + 1)) (min i k + 1)) = min i k + 1 ∧ runS (i + 1 - (min i k + 1)) (min i k + 1) < 2 ^ n ∧ runS (k + 1 - (min i k + 1)) (min i k + 1) < 2 ^ m ∧ runS (i + 1 - (min i k + 1)) (min i k + 1) ≠ 0 := by
  have h1 := runS_fin ⟨min i k + 1, by omega⟩ ⟨i + 1 - (min i k + 1), by omega⟩ (by simp only; omega)
  have h2 := runS_fin ⟨min i k + 1, by omega⟩ ⟨k + 1 - (min i k + 1), by omega⟩ (by simp only; omega)
  simp only at h1 h2
  have e1 : min i k + 1 + (i + 1 - (min i k + 1)) = i + 1 := by omega
  have e2 : min i k + 1 + (k + 1 - (min i k + 1)) = k + 1 := by omega
  rw [e1] at h1
  rw [e2] at h2
  have p1 : 2 ^ (i + 1) ≤ 2 ^ n := Nat.pow_le_pow_right (by omega) (by omega)
  have p2 : 2 ^ (k + 1) ≤ 2 ^ m := Nat.pow_le_pow_right (by omega) (by omega)
  exact ⟨h1.1, h2.1, by omega, by omega, h1.2.2 (by omega)⟩
theorem partsF_ok {n m : Nat} (hn : n ≤ 6) (hm : m ≤ 6) {x : Nat × Nat} (hx : x ∈ partsF n m) : popcS x.1 = popcS x.2 ∧ x.1 < 2 ^ n ∧ x.2 < 2 ^ m ∧ x.1 ≠ 0 := by
  obtain ⟨i, k, hi, hk, rfl⟩ := partsF_mem.1 hx
  obtain ⟨h1, h2, h3, h4, h5⟩ := first_part hn hm hi hk
  exact ⟨h1.trans h2.symm, h3, h4, h5⟩
theorem partsF_len (n m : Nat) : (partsF n m).length = n * m := by
  unfold partsF firstRow
  rw [List.length_flatMap]
  simp only [List.length_map, List.length_range]
  induction n with
  | zero => simp
  | succ n ih => rw [List.range_succ, List.map_append, List.sum_append, ih, Nat.succ_mul]; simp
theorem prow_len (k m r : Nat) : (prow k m r).length ≤ 2 ^ m := by unfold prow; rw [List.length_map]; exact setsTo_len k _

end Go.Proofs.Ytcnbffflgodheaa
end

section
namespace Go.Proofs.Ytcnbffflgodheaa
open Go.RowKit Go.Deep Go.Shelf
attribute [local go_sem] Oper.semAt_some

def OldT (n₀ : Nat) (w0 W : World) : Prop := ∀ k, k < n₀ → W.heap[k]? = w0.heap[k]?
theorem OldT.cell {n₀ : Nat} {w0 W : World} (h : OldT n₀ w0 W) {a : Addr} (ha : a.block < n₀) : W.cell? a = w0.cell? a := World.cell?_of_block (h _ ha)
theorem OldT.grown {n₀ : Nat} {w0 X Y : World} {row : Option Nat} (h : OldT n₀ w0 X) (hz : n₀ ≤ X.heap.size) (hg : X.grownBy Y row) (hr : ∀ r, row = some r → n₀ ≤ r) : OldT n₀ w0 Y :=
  fun k hk => (hg.block k (by omega) (fun e => by have := hr k e.symm; omega)).trans (h k hk)
theorem OldT.keeps {n₀ : Nat} {w0 X Y : World} {own : Nat → Prop} (h : OldT n₀ w0 X) (hz : n₀ ≤ X.heap.size) (hk : Keeps own X Y) (ho : ∀ k, own k → n₀ ≤ k) : OldT n₀ w0 Y := fun k hlt => by
  have hx : k < X.heap.size := by omega
  have e := hk.same k X.heap[k] (fun o => by have := ho k o; omega) (Array.getElem?_eq_getElem hx)
  rw [e, ← h k hlt]
  exact (Array.getElem?_eq_getElem hx).symm
theorem MatR.oldT {w0 W : World} {a : Option Addr} {l : List (List Int)} (h : MatR w0 a l) (ho : OldT w0.heap.size w0 W) : MatR W a l := by
  intro h0
  obtain ⟨b, o, A, C, e, hc⟩ := h h0
  refine ⟨b, o, A, C, e, fun r hr => ?_⟩
  obtain ⟨c1, c2⟩ := hc r hr
  refine ⟨(ho.cell (World.block_lt_of_cell? _ _ c1)).trans c1, fun hp => ?_⟩
  obtain ⟨b', o', e', c3⟩ := c2 hp
  exact ⟨b', o', e', fun i hi => (ho.cell (World.block_lt_of_cell? _ _ (c3 i hi))).trans (c3 i hi)⟩
theorem Keeps.fromB {own : Nat → Prop} {A X Y : World} {row : Option Nat} (h : Keeps own A X) (hg : X.grownBy Y row) (hr : ∀ r, row = some r → A.heap.size ≤ r) : Keeps own A Y :=
  ⟨Nat.le_trans h.size hg.size, fun k o hk ho => (hg.block k (Array.getElem?_eq_some_iff.1 (h.same k o hk ho)).1 (fun e => by have := hr k e.symm; have := (Array.getElem?_eq_some_iff.1 ho).1; omega)).trans (h.same k o hk ho)⟩
theorem boxed_put {W : World} {B l : Nat} {t : TypeId} {v : Value} {o o' : Obj} (h : Boxed W B t v) (hl : W.heap[l]? = some o) (ho : o.isCells = false) : Boxed (W.putObj l o') B t v :=
  h.kept (grownBy_putObj' W l o') (fun e => by
    have e' : B = l := by injection e
    subst e'
    have h' : W.heap[B]? = _ := h
    rw [h'] at hl
    cases hl
    cases ho)

structure KB (n₀ : Nat) (w0 : World) (Bt Bk By lp : Nat) (a : Option Addr) (n cap : Nat) (k : Nat) (X : World) : Prop where
  bt : X.cell? ⟨Bt, 0, none⟩ = some (.slice a n cap)
  bk : X.cell? ⟨Bk, 0, none⟩ = some (.int .i64 (k : Int))
  yb : X.cell? ⟨By, 0, none⟩ = some (.func (.yield lp) #[] #[])
  old : OldT n₀ w0 X
theorem cell_own {X Y : World} {row : Option Nat} {b B : Nat} {v : Value} (h : X.cell? ⟨b, 0, none⟩ = some v) (hb : b < B) (hg : X.grownBy Y row) (hr : ∀ r, row = some r → B ≤ r) : Y.cell? ⟨b, 0, none⟩ = some v :=
  (World.cell?_of_block (a := ⟨b, 0, none⟩) (hg.block b (World.block_lt_of_cell? _ _ h) (fun e => by have := hr b e.symm; omega))).trans h
theorem KB.grown {n₀ : Nat} {w0 : World} {Bt Bk By lp : Nat} {a : Option Addr} {n cap k : Nat} {X Y : World} {row : Option Nat} {B : Nat} (h : KB n₀ w0 Bt Bk By lp a n cap k X) (hz : n₀ ≤ X.heap.size) (h1 : n₀ ≤ B ∧ Bt < B ∧ Bk < B ∧ By < B) (hg : X.grownBy Y row) (hr : ∀ r, row = some r → B ≤ r) : KB n₀ w0 Bt Bk By lp a n cap k Y :=
  ⟨cell_own h.bt h1.2.1 hg hr, cell_own h.bk h1.2.2.1 hg hr, cell_own h.yb h1.2.2.2 hg hr, h.old.grown hz hg (fun r e => by have := hr r e; omega)⟩
theorem KB.keeps {n₀ : Nat} {w0 : World} {Bt Bk By lp : Nat} {a : Option Addr} {n cap k : Nat} {X Y : World} {own : Nat → Prop} (h : KB n₀ w0 Bt Bk By lp a n cap k X) (hz : n₀ ≤ X.heap.size) (hk : Keeps own X Y) (ho : ∀ q, own q → n₀ ≤ q ∧ q ≠ Bt ∧ q ≠ Bk ∧ q ≠ By) : KB n₀ w0 Bt Bk By lp a n cap k Y :=
  ⟨hk.cell (a := ⟨Bt, 0, none⟩) (fun e => (ho _ e).2.1 rfl) h.bt, hk.cell (a := ⟨Bk, 0, none⟩) (fun e => (ho _ e).2.2.1 rfl) h.bk, hk.cell (a := ⟨By, 0, none⟩) (fun e => (ho _ e).2.2.2 rfl) h.yb, h.old.keeps hz hk (fun q e => (ho q e).1)⟩

theorem grown_drewP {a b : World} {row : Option Nat} (h : a.grownBy b row) : a.grownBy b.drew row := ⟨h.os, h.tape, h.output, h.size, h.block⟩
def encP (x : Nat × Nat) : Array Value := #[.int .i64 (x.1 : Int), .int .i64 (x.2 : Int)]

theorem kthParts_in (f : Nat) (a : Option Addr) (n cap : Nat) (k : Int) (w : World) :
    CallsIn Fence.wide f Try.prog 117 #[.slice a n cap, .int .i64 k] w fun e w' => e = .returned (.func (.func 135) #[] #[.pointer (some ⟨w.heap.size, 0, none⟩), .pointer (some ⟨w.heap.size + 1, 0, none⟩)]) ∧ w' = (w.alloc (.cells #[.slice a n cap] 54)).alloc (.cells #[.int .i64 k] 3) := by
  refine callsIn_of_wp Try.func117 rfl trivial ?_ rfl
  simp only [Try.ntmps117, List.size_toArray, List.length_cons, List.length_nil, Nat.reduceAdd, Nat.reduceSub, Array.replicate_succ, Array.replicate_zero, List.push_toArray, List.append_toArray, List.nil_append, List.cons_append]
  gi_wp2
  go_ret
  exact ⟨rfl, by simp⟩

theorem flat_len (k m : Nat) (hm : m ≤ 6) : ∀ rs : List Nat, (rs.flatMap (prow k m)).length ≤ rs.length * 64
  | [] => by simp
  | r :: rs => by
    have h1 := flat_len k m hm rs
    have h2 := prow_len k m r
    have p : 2 ^ m ≤ 2 ^ 6 := Nat.pow_le_pow_right (by omega) hm
    rw [List.flatMap_cons, List.length_append, List.length_cons, Nat.succ_mul]
    omega
theorem flat_snoc (k m : Nat) (rs : List Nat) (r : Nat) : (rs ++ [r]).flatMap (prow k m) = rs.flatMap (prow k m) ++ prow k m r := by simp

set_option maxRecDepth 100000 in
set_option maxHeartbeats 2000000 in
theorem kth_seqE (f : Nat) (hf : 12 ≤ f) (Bt Bk n m cap k : Nat) (a : Option Addr) (l : List (List Int)) (w0 w : World) (hn : l.length = n) (hT : TabIn l) (hmm : (l.getD 0 []).length = m) (hm : MatR w0 a l) (hold : OldT w0.heap.size w0 w) (_hz0 : w0.heap.size ≤ w.heap.size) (hBt : w0.heap.size ≤ Bt) (hBk : w0.heap.size ≤ Bk) (ct : w.cell? ⟨Bt, 0, none⟩ = some (.slice a n cap)) (ck : w.cell? ⟨Bk, 0, none⟩ = some (.int .i64 (k : Int))) :
    SeqE Fence.wide f Try.prog 135 #[.pointer (some ⟨Bt, 0, none⟩), .pointer (some ⟨Bk, 0, none⟩)] encP (fun x _ => x ∈ partsK k n m) (fun q => q < w0.heap.size ∨ q = Bt ∨ q = Bk) (fun ys => ys = partsK k n m) (fun _ => True) 4096 w := by
  intro lp J Jx own W hW hown hJ hJx hY hj
  have h6 := hT.2.1
  have h1 := hT.1
  have hw := hT.width
  rw [hn] at h6 h1
  rw [hmm] at hw
  have lt := World.block_lt_of_cell? _ _ ct
  have lk := World.block_lt_of_cell? _ _ ck
  simp only at lt lk
  have c1 := (hW.cell (p := ⟨Bt, 0, none⟩) lt).trans ct
  have c2 := (hW.cell (p := ⟨Bk, 0, none⟩) lk).trans ck
  have hWz := hW.size
  have hOW : OldT w0.heap.size w0 W := fun q hq => (hW.block q (by omega)).trans (hold q hq)
  have hso : ∀ q, own q → w0.heap.size ≤ q ∧ q ≠ Bt ∧ q ≠ Bk ∧ q < W.heap.size := fun q hq => by
    obtain ⟨g1, g2⟩ := hown q hq
    exact ⟨by
      by_cases e : q < w0.heap.size
      · exact absurd (.inl e) g2
      · omega, fun e => g2 (.inr (.inl e)), fun e => g2 (.inr (.inr e)), g1⟩
  have EW := fun (V : World) (h : OldT w0.heap.size w0 V) => width_any a cap n l V hn (by omega) (by omega) (hm.oldT h)
  rw [hmm] at EW
  replace EW := Lib.hid EW
  have p6 : 2 ^ n ≤ 2 ^ 6 := Nat.pow_le_pow_right (by omega) h6
  have p6' : 2 ^ m ≤ 2 ^ 6 := Nat.pow_le_pow_right (by omega) hw.2
  clear hold ct ck hm hmm hT
  refine callsIn_of_wp_marks Try.func135 rfl trivial ?_ rfl
  simp only [Try.ntmps135, List.size_toArray, List.length_cons, List.length_nil, Nat.reduceAdd, Nat.reduceSub, Array.replicate_succ, Array.replicate_zero, List.push_toArray, List.append_toArray, List.nil_append, List.cons_append]
  have c1 : (W.alloc (.cells #[.func (.yield lp) #[] #[]] 62)).cell? ⟨Bt, 0, none⟩ = _ := cell_alloc_l _ c1
  have c2 : (W.alloc (.cells #[.func (.yield lp) #[] #[]] 62)).cell? ⟨Bk, 0, none⟩ = _ := cell_alloc_l _ c2
  have y0 : (W.alloc (.cells #[.func (.yield lp) #[] #[]] 62)).cell? ⟨W.heap.size, 0, none⟩ = _ := (cell_new_l W _ _).1
  gi_wp2_with (refine ⟨trivial, fun _ => by omega, ?_⟩; gi_at_call 136; refine (sets_in _ _ _ _).mono ?_; rintro e w' ⟨rfl, rfl⟩)
  have hbn := (cell_new_l (W.alloc (.cells #[.func (.yield lp) #[] #[]] 62)) (.int .i64 n) 3).1
  have c3 := cell_alloc_l (.cells #[.int .i64 (k : Int)] 3) (cell_alloc_l (.cells #[.int .i64 (n : Int)] 3) c1)
  have c4 := cell_alloc_l (.cells #[.int .i64 (k : Int)] 3) (cell_alloc_l (.cells #[.int .i64 (n : Int)] 3) c2)
  have y3 := cell_alloc_l (.cells #[.int .i64 (k : Int)] 3) (cell_alloc_l (.cells #[.int .i64 (n : Int)] 3) y0)
  have hbn := cell_alloc_l (.cells #[.int .i64 (k : Int)] 3) hbn
  have hbk := (cell_new_l ((W.alloc (.cells #[.func (.yield lp) #[] #[]] 62)).alloc (.cells #[.int .i64 (n : Int)] 3)) (.int .i64 (k : Int)) 3).1
  have hg2 := ((World.grownBy_alloc W (.cells #[.func (.yield lp) #[] #[]] 62) none).trans (World.grownBy_alloc _ (.cells #[.int .i64 (n : Int)] 3) none)).trans (World.grownBy_alloc _ (.cells #[.int .i64 (k : Int)] 3) none)
  have hjV := hJ.alloc (.cells #[.int .i64 (k : Int)] 3) (hJ.alloc (.cells #[.int .i64 (n : Int)] 3) (hJ.alloc (.cells #[.func (.yield lp) #[] #[]] 62) hj))
  have zV : (((W.alloc (.cells #[.func (.yield lp) #[] #[]] 62)).alloc (.cells #[.int .i64 (n : Int)] 3)).alloc (.cells #[.int .i64 (k : Int)] 3)).heap.size = W.heap.size + 3 := by simp
  simp only [World.size_alloc] at hbn hbk
  obtain ⟨V, hV⟩ : ∃ V, ((W.alloc (.cells #[.func (.yield lp) #[] #[]] 62)).alloc (.cells #[.int .i64 (n : Int)] 3)).alloc (.cells #[.int .i64 (k : Int)] 3) = V := ⟨_, rfl⟩
  rw [hV] at hbn hbk c3 c4 y3 hg2 hjV zV ⊢
  clear hV c1 c2 y0
  have hKV : KB w0.heap.size w0 Bt Bk W.heap.size lp a n cap k V := ⟨c3, c4, y3, hOW.grown (by omega) hg2 (fun r e => by cases e)⟩
  have hB : ∀ X : World, V.heap.size ≤ X.heap.size → w0.heap.size ≤ X.heap.size := fun X h => by omega
  have hBB : w0.heap.size ≤ V.heap.size ∧ Bt < V.heap.size ∧ Bk < V.heap.size ∧ W.heap.size < V.heap.size := by omega
  have hso4 : ∀ q, own q → w0.heap.size ≤ q ∧ q ≠ Bt ∧ q ≠ Bk ∧ q ≠ W.heap.size := fun q hq => by have := hso q hq; omega
  refine rangeF (F := Fence.wide) (n := f) rfl (by omega) (gf := 149) (lb := #[.pointer (some ⟨W.heap.size + 1, 0, none⟩), .pointer (some ⟨W.heap.size + 1 + 1, 0, none⟩)]) rfl trivial (enters_of Try.func149 (by kernel_rfl) rfl)
    (sets_seqE (f - 1) (by omega) (W.heap.size + 1) (W.heap.size + 1 + 1) n k (2 ^ n) h6 rfl V (by omega) (by omega) hbn hbk) (fun _ => rfl) own (fun q hq => ⟨by have := hso q hq; omega, by have := hso q hq; omega⟩) (by rintro q (rfl | rfl) <;> omega)
    (fun (rs : List Nat) X => J (rs.flatMap (prow k m)) X ∧ KB w0.heap.size w0 Bt Bk W.heap.size lp a n cap k X ∧ V.heap.size ≤ X.heap.size)
    (fun c _ X => c = .ret ∧ ∃ q, Jx q X)
    (fun rs X Y row hs hg hr => ⟨hJ _ X Y row hs.1 hg (fun r e => by have := hr r e; omega), hs.2.1.grown (hB _ hs.2.2) hBB hg hr, Nat.le_trans hs.2.2 hg.size⟩)
    (fun c rs X Y row hs hg hr => ⟨hs.1, by
      obtain ⟨q, hq⟩ := hs.2
      exact ⟨q, hJx _ X Y row hq hg (fun r e => by have := hr r e; omega)⟩⟩)
    ⟨hjV, hKV, Nat.le_refl _⟩
    (fun x a' X => ∃ Bx, V.heap.size ≤ Bx ∧ Boxed X Bx 3 (.int .i64 (x : Int)) ∧ a' = { tmps := #[.func (.yield lp) #[] #[], .pointer (some ⟨Bt, 0, none⟩), .pointer (some ⟨Bk, 0, none⟩), .pointer (some ⟨W.heap.size, 0, none⟩), .pointer (some ⟨Bx, 0, none⟩), undef, .slice a n cap, .int .i64 n, .int .i64 k, .func (.func 149) #[] #[.pointer (some ⟨W.heap.size + 1, 0, none⟩), .pointer (some ⟨W.heap.size + 1 + 1, 0, none⟩)], .int .i64 (x : Int), undef, undef, undef, undef, undef, undef, undef, undef, undef, undef], defers := [] })
    (fun x a' X lq o o' hA hl ho => by obtain ⟨Bx, e1, e2, e3⟩ := hA; exact ⟨Bx, e1, boxed_put e2 hl ho, e3⟩)
    ?assign ?body ?done ?stop
  case assign =>
    rintro lq rs x X K hzX hi _ hK
    gi_wp2
    exact hK _ _ (Keeps.grown (World.grownBy_alloc _ _ none) (fun r e => by cases e)) ⟨hJ.alloc _ hi.1, hi.2.1.grown (hB _ hi.2.2) hBB (World.grownBy_alloc _ _ none) (fun r e => by cases e), by rw [World.size_alloc]; have := hi.2.2; omega⟩ ⟨X.heap.size, hi.2.2, Boxed.new X 3 _, rfl⟩
  case body =>
    rintro lq rs x a' X hlq hzX ⟨r, hr⟩ ⟨hjx, hKX, _⟩ ⟨hxl, hxk⟩ ⟨Bx, hBx, bX, rfl⟩ hlen
    have hmix : Try.prog.follows .mixedOrders = true := by kernel_rfl
    have cT : X.drew.cell? ⟨Bt, 0, none⟩ = _ := hKX.bt
    have cK : X.drew.cell? ⟨Bk, 0, none⟩ = _ := hKX.bk
    have hbx := bX.lt
    have HKX := Lib.hid hKX
    gi_wp2
    gi_region_with_o (first
      | (refine ⟨trivial, fun _ => by omega, ?_⟩; gi_at_call 66; refine (CallsIn.inRound lq (callsIn_wide.2 (EW.out X.drew HKX.out.old))).mono ?_; rintro e w' ⟨rfl, rfl⟩)
      | (refine ⟨trivial, fun _ => by omega, ?_⟩; gi_at_call 136; refine (CallsIn.inRound lq (sets_in _ _ _ _)).mono ?_; rintro e w' ⟨rfl, rfl⟩))
    all_goals
      gi_wp2
      have hgV : X.grownBy ((X.alloc (.cells #[.int .i64 (m : Int)] 3)).alloc (.cells #[.int .i64 (k : Int)] 3)).drew none := grown_drewP ((World.grownBy_alloc X (.cells #[.int .i64 (m : Int)] 3) none).trans (World.grownBy_alloc _ (.cells #[.int .i64 (k : Int)] 3) none))
      have bN2 : ((X.alloc (.cells #[.int .i64 (m : Int)] 3)).alloc (.cells #[.int .i64 (k : Int)] 3)).drew.cell? ⟨X.heap.size, 0, none⟩ = some (.int .i64 (m : Int)) := cell_alloc_l (.cells #[.int .i64 (k : Int)] 3) (cell_new_l X (.int .i64 (m : Int)) 3).1
      have bK2 : ((X.alloc (.cells #[.int .i64 (m : Int)] 3)).alloc (.cells #[.int .i64 (k : Int)] 3)).drew.cell? ⟨X.heap.size + 1, 0, none⟩ = some (.int .i64 (k : Int)) := by
        have := (cell_new_l (X.alloc (.cells #[.int .i64 (m : Int)] 3)) (.int .i64 (k : Int)) 3).1
        rw [World.size_alloc] at this
        exact this
      have zX : ((X.alloc (.cells #[.int .i64 (m : Int)] 3)).alloc (.cells #[.int .i64 (k : Int)] 3)).drew.heap.size = X.heap.size + 2 := by
        show ((X.alloc (.cells #[.int .i64 (m : Int)] 3)).alloc (.cells #[.int .i64 (k : Int)] 3)).heap.size = _
        simp
      obtain ⟨U, hU⟩ : ∃ U, ((X.alloc (.cells #[.int .i64 (m : Int)] 3)).alloc (.cells #[.int .i64 (k : Int)] 3)).drew = U := ⟨_, rfl⟩
      rw [hU] at bN2 bK2 hgV zX ⊢
      clear hU cT cK
      have hrU : U.heap[lq]? = some (.loop r) := (hgV.block lq (Array.getElem?_eq_some_iff.1 hr).1 (by simp)).trans hr
      have hKU := hKX.grown (hB _ hzX) hBB hgV (fun r e => by cases e)
      have hBU : w0.heap.size ≤ U.heap.size ∧ Bt < U.heap.size ∧ Bk < U.heap.size ∧ W.heap.size < U.heap.size := by omega
      have hfl := flat_len k m hw.2 rs
      refine rangeN (F := Fence.wide.inRound lq) (n := f - 1 - 1) (l₀ := lq) (r₀ := r) rfl hrU (by omega) (gf := 149) (lb := #[.pointer (some ⟨X.heap.size, 0, none⟩), .pointer (some ⟨X.heap.size + 1, 0, none⟩)]) rfl trivial (enters_of Try.func149 (by kernel_rfl) rfl)
        (SeqE.inRound lq (sets_seqE (f - 1 - 1 - 1) (by omega) X.heap.size (X.heap.size + 1) m k (2 ^ m) hw.2 rfl U (by omega) (by omega) bN2 bK2)) (fun _ => rfl) own (fun q hq => ⟨by have := hso q hq; omega, by have := hso q hq; omega⟩) (by rintro q (rfl | rfl) <;> omega)
        (fun (cs : List Nat) Y => (J (rs.flatMap (prow k m) ++ cs.map (fun c => (x, c))) Y ∧ KB w0.heap.size w0 Bt Bk W.heap.size lp a n cap k Y ∧ Boxed Y Bx 3 (.int .i64 (x : Int))) ∧ Keeps own X Y ∧ U.heap.size ≤ Y.heap.size)
        (fun c _ Y => c = .ret ∧ (∃ q, Jx q Y) ∧ Keeps own X Y)
        (fun cs Y Z row hs hg hr => ⟨⟨hJ _ Y Z row hs.1.1 hg (fun r e => by have := hr r e; omega), hs.1.2.1.grown (by have := hs.2.2; omega) hBU hg hr, hs.1.2.2.kept hg (fun e => by have := hr _ e.symm; omega)⟩, hs.2.1.fromB hg (fun r e => by have := hr r e; omega), Nat.le_trans hs.2.2 hg.size⟩)
        (fun c cs Y Z row hs hg hr => ⟨hs.1, by
          obtain ⟨q, hq⟩ := hs.2.1
          exact ⟨q, hJx _ Y Z row hq hg (fun r e => by have := hr r e; omega)⟩, hs.2.2.fromB hg (fun r e => by have := hr r e; omega)⟩)
        ⟨⟨by rw [List.map_nil, List.append_nil]; exact hJ _ X U none hjx hgV (fun r e => by cases e), hKU, bX.kept hgV (by simp)⟩, Keeps.grown hgV (fun r e => by cases e), Nat.le_refl _⟩
        (fun y a'' _ => a'' = { tmps := #[.func (.yield lp) #[] #[], .pointer (some ⟨Bt, 0, none⟩), .pointer (some ⟨Bk, 0, none⟩), .pointer (some ⟨W.heap.size, 0, none⟩), .pointer (some ⟨Bx, 0, none⟩), .int .i64 (y : Int), .slice a n cap, .int .i64 n, .int .i64 k, .func (.func 149) #[] #[.pointer (some ⟨W.heap.size + 1, 0, none⟩), .pointer (some ⟨W.heap.size + 1 + 1, 0, none⟩)], .int .i64 (x : Int), .slice a n cap, .int .i64 m, .int .i64 k, .func (.func 149) #[] #[.pointer (some ⟨X.heap.size, 0, none⟩), .pointer (some ⟨X.heap.size + 1, 0, none⟩)], .int .i64 (y : Int), undef, undef, undef, undef, undef], defers := [] })
        (fun _ _ _ _ _ _ hA _ _ => hA)
        ?assign2 ?body2 ?done2 ?stop2
      case assign2 =>
        rintro l3 cs y Y K _ hi _ hK
        gi_wp2
        exact hK _ _ (Keeps.refl _ _) hi rfl
      case body2 =>
        rintro l3 cs y a'' Y hl3 hzY _ ⟨⟨hjy, hKY, bY⟩, hkY, _⟩ ⟨hyl, hyk⟩ rfl hlen2
        have cX := bY.cell
        have cY := hKY.yb
        have hl4 : (rs.flatMap (prow k m) ++ cs.map (fun c => (x, c))).length < 4096 := by
          rw [List.length_append, List.length_map]
          have : rs.length * 64 ≤ 63 * 64 := Nat.mul_le_mul_right 64 (by omega)
          omega
        obtain ⟨fn, tmps, assign, body, hy, hR⟩ := yieldAt_any (m' := f - 1 - 1 - 1 - 1 - 1) (hY _ (x, y) Y hjy (partsK_mem.2 ⟨⟨hxl, hxk⟩, hyl, hyk⟩) hl4)
        dsimp only [encP] at hy
        have HKEEP := Lib.hid (show ∀ Z, Keeps own Y Z → Keeps own X Z ∧ KB w0.heap.size w0 Bt Bk W.heap.size lp a n cap k Z ∧ Boxed Z Bx 3 (.int .i64 (x : Int)) ∧ U.heap.size ≤ Z.heap.size from fun Z hk =>
          ⟨hkY.trans hk, hKY.keeps (by omega) hk hso4, hk.same _ _ (fun h => by have := hso _ h; omega) bY, by have := hk.size; omega⟩)
        clear hjy hKY bY hkY
        gi_wp2
        refine ⟨fun h => by omega, ?_⟩
        refine RoundIn.mono (F := (Fence.wide.inRound lq).inRound l3) hR ?_
        rintro e W3 (⟨rfl, hJ3, hk3⟩ | ⟨rfl, hx3, hk3⟩)
        · obtain ⟨q1, q2, q3, q4⟩ := HKEEP.out _ hk3
          gi_wp2
          exact ⟨hk3, ⟨⟨by rw [List.map_append, ← List.append_assoc]; exact hJ3, q2, q3⟩, q1, q4⟩⟩
        · obtain ⟨q1, q2, q3, q4⟩ := HKEEP.out _ hk3
          gi_wp2
          exact ⟨hk3, rfl, ⟨_, hx3⟩, q1⟩
      case done2 =>
        rintro cs Y rfl ⟨⟨hjy, hKY, bY⟩, hkY, hzY⟩
        gi_wp2
        exact ⟨hkY, by rw [flat_snoc]; exact hjy, hKY, by omega⟩
      case stop2 =>
        rintro c cs Y _ ⟨rfl, hq, hkY⟩
        gi_wp2
        exact ⟨hkY, rfl, hq⟩
  case done =>
    rintro D rs X hD hS ⟨hjx, _, _⟩ hK
    subst hS
    have hjz := hJ.put (.deferred none) hjx (show W.heap.size ≤ D by omega)
    gi_wp2
    show LeavesInM _ _ _ _ _ _ _ _ _
    refine ⟨by simp, .inl ⟨_, _, rfl, run_takeDeferred hK, ?_⟩⟩
    refine ⟨.tuple #[], ?_, ⟨_, rfl⟩, .inl ⟨_, rfl, hjz⟩⟩
    simp [results, Try.f135, go_sem]
  case stop =>
    rintro D c rs X hD _ ⟨rfl, q, hq⟩ hK
    have hjz := hJx.put (.deferred none) hq (show W.heap.size ≤ D by omega)
    gi_wp2
    show LeavesInM _ _ _ _ _ _ _ _ _
    refine ⟨by simp, .inl ⟨_, _, rfl, run_takeDeferred hK, ?_⟩⟩
    refine ⟨.tuple #[], ?_, ⟨_, rfl⟩, .inr ⟨q, trivial, hjz⟩⟩
    simp [results, Try.f135, go_sem]

end Go.Proofs.Ytcnbffflgodheaa
end

section
namespace Go.Proofs.Ytcnbffflgodheaa
open Go.RowKit Go.Deep Go.Shelf

attribute [local go_sem] Oper.semAt_some

def hasR (l : List (List Int)) (k M2 : Nat) (r : Nat) : Bool := (setsTo k M2).any fun c => decide (dt k (at2 (partL l r c)) ≠ 0)
def hasB (l : List (List Int)) (k M1 M2 : Nat) : Bool := (setsTo k M1).any (hasR l k M2)
theorem hasB_yes {l : List (List Int)} {k n m : Nat} {x : Nat × Nat} (hx : x ∈ partsK k n m) (h : mnP l x ≠ 0) : hasB l k (2 ^ n) (2 ^ m) = true := by
  obtain ⟨⟨g1, g2⟩, g3⟩ := partsK_mem.1 hx
  refine List.any_eq_true.2 ⟨x.1, (setsTo_mem k).2 ⟨g1, g2⟩, List.any_eq_true.2 ⟨x.2, (setsTo_mem k).2 g3, ?_⟩⟩
  unfold mnP at h
  rw [g2] at h
  simpa using h
theorem hasB_no {l : List (List Int)} {k n m : Nat} (h : ∀ x ∈ partsK k n m, mnP l x = 0) : hasB l k (2 ^ n) (2 ^ m) = false := by
  cases e : hasB l k (2 ^ n) (2 ^ m) with
  | false => rfl
  | true =>
    obtain ⟨r, hr, e2⟩ := List.any_eq_true.1 e
    obtain ⟨c, hc, e3⟩ := List.any_eq_true.1 e2
    have g1 := (setsTo_mem k).1 hr
    have g2 := (setsTo_mem k).1 hc
    have := h (r, c) (partsK_mem.2 ⟨g1, g2⟩)
    unfold mnP at this
    rw [show popcS (r, c).1 = k from g1.2] at this
    exact absurd this (of_decide_eq_true e3)

theorem oldT_since {w W : World} (h : w.Since w.heap.size W) : OldT w.heap.size w W := fun k hk => h.block k hk
theorem grownSH {w w' : World} (h : w.Since w.heap.size w') : w.grownBy w' none := ⟨h.os, h.tape, h.output, h.size, fun k hk _ => h.block k hk⟩
structure HS (w : World) (tv : Value) (W : World) : Prop where
  bt : Boxed W w.heap.size 54 tv
  br : Boxed W (w.heap.size + 1) 4 (.bool false)
  sn : w.Since w.heap.size W
theorem since_row {lo : Nat} {w W W' : World} {row : Option Nat} (h : w.Since lo W) (hlo : lo ≤ w.heap.size) (hg : W.grownBy W' row) (hr : ∀ r, row = some r → lo ≤ r) : w.Since lo W' :=
  ⟨hg.os.trans h.os, hg.tape.trans h.tape, hg.output.trans h.output, Nat.le_trans h.size hg.size, fun k hk => (hg.block k (by have := h.size; omega) (fun e => by have := hr k e.symm; omega)).trans (h.block k hk)⟩
theorem HS.kept {w W W' : World} {tv : Value} {row : Option Nat} (h : HS w tv W) (hg : W.grownBy W' row) (hr : ∀ r, row = some r → w.heap.size + 2 ≤ r) : HS w tv W' :=
  ⟨h.bt.kept hg (fun e => by have := hr _ e.symm; omega), h.br.kept hg (fun e => by have := hr _ e.symm; omega), since_row h.sn (Nat.le_refl _) hg (fun r e => by have := hr r e; omega)⟩

set_option maxRecDepth 100000 in
set_option maxHeartbeats 2000000 in
theorem hasMinor_any (a : Option Addr) (cap n m k : Nat) (l : List (List Int)) (w : World) (hn : l.length = n) (hmm : (l.getD 0 []).length = m) (hT : TabIn l) (hm : MatR w a l) :
    Calls Try.prog 101 #[.slice a n cap, .int .i64 k] w fun e w' => e = .returned (.bool (hasB l k (2 ^ n) (2 ^ m))) ∧ w.Since w.heap.size w' := by
  have HSEQ := Lib.hid (fun (g : Nat) (hg : 12 ≤ g) (Bt' Bk' : Nat) (V : World) => kth_seqE g hg Bt' Bk' n m cap k a l w V hn hT hmm hm)
  have EM := Lib.hid (fun (x : Nat × Nat) (hx : x ∈ partsK k n m) (V : World) (h : w.Since w.heap.size V) => minor_any a cap n m x.1 x.2 l V hn hmm hT (partsK_mem.1 hx).1.1 (partsK_mem.1 hx).2.1 ((partsK_mem.1 hx).1.2.trans (partsK_mem.1 hx).2.2.symm) (hm.since h))
  clear hn hmm hT hm
  refine (callsIn_wide (n := 20)).1 ?_
  refine callsIn_of_wp_marks Try.func101 rfl trivial ?_ rfl
  simp only [Try.ntmps101, List.size_toArray, List.length_cons, List.length_nil, Nat.reduceAdd, Nat.reduceSub, Array.replicate_succ, Array.replicate_zero, List.push_toArray, List.append_toArray, List.nil_append, List.cons_append]
  gi_wp2_with (refine ⟨trivial, ?_⟩; gi_at_call 117; refine (kthParts_in _ _ _ _ _ _).mono ?_; rintro e w' ⟨rfl, rfl⟩)
  have hb0 := Boxed.new w 54 (.slice a n cap)
  have hr0 := Boxed.new (w.alloc (.cells #[.slice a n cap] 54)) 4 (.bool false)
  rw [World.size_alloc] at hr0
  have hS0 : HS w (.slice a n cap) ((w.alloc (.cells #[.slice a n cap] 54)).alloc (.cells #[.bool false] 4)) := ⟨hb0.alloc _, hr0, ((World.Since.refl _ w).alloc (Nat.le_refl _) _).alloc (by simp) _⟩
  obtain ⟨w2, hw2⟩ : ∃ W, (w.alloc (.cells #[.slice a n cap] 54)).alloc (.cells #[.bool false] 4) = W := ⟨_, rfl⟩
  have z2 : w2.heap.size = w.heap.size + 1 + 1 := by rw [← hw2]; simp
  rw [hw2] at hS0 ⊢
  clear hw2 hb0 hr0
  have bt := cell_alloc_l (.cells #[.int .i64 (k : Int)] 3) (cell_new_l w2 (.slice a n cap) 54).1
  have bk := (cell_new_l (w2.alloc (.cells #[.slice a n cap] 54)) (.int .i64 (k : Int)) 3).1
  have hg := (World.grownBy_alloc w2 (.cells #[.slice a n cap] 54) none).trans (World.grownBy_alloc _ (.cells #[.int .i64 (k : Int)] 3) none)
  have hS1 := hS0.kept hg (fun r e => by cases e)
  have zV : ((w2.alloc (.cells #[.slice a n cap] 54)).alloc (.cells #[.int .i64 (k : Int)] 3)).heap.size = w.heap.size + 4 := by simp [z2]
  simp only [World.size_alloc] at bk
  rw [z2] at bt bk
  obtain ⟨V, hV⟩ : ∃ V, (w2.alloc (.cells #[.slice a n cap] 54)).alloc (.cells #[.int .i64 (k : Int)] 3) = V := ⟨_, rfl⟩
  rw [hV] at bt bk hS1 zV ⊢
  clear hV hS0 hg z2
  refine rangeF (F := Fence.wide) (n := 20) rfl (by omega) (gf := 135) (lb := #[.pointer (some ⟨w.heap.size + 1 + 1, 0, none⟩), .pointer (some ⟨w.heap.size + 1 + 1 + 1, 0, none⟩)]) rfl trivial (enters_of Try.func135 (by kernel_rfl) rfl)
    (HSEQ.out 19 (by omega) (w.heap.size + 1 + 1) (w.heap.size + 1 + 1 + 1) V (oldT_since hS1.sn) (by omega) (by omega) (by omega) bt bk) (fun _ => rfl) (fun q => q = w.heap.size + 1) (fun q hq => ⟨by omega, by omega⟩) (fun q hq => by omega)
    (fun (ps : List (Nat × Nat)) X => (HS w (.slice a n cap) X ∧ V.heap.size ≤ X.heap.size) ∧ ∀ x ∈ ps, mnP l x = 0)
    (fun c _ X => c = .ret ∧ Boxed X (w.heap.size + 1) 4 (.bool true) ∧ w.Since w.heap.size X ∧ hasB l k (2 ^ n) (2 ^ m) = true)
    (fun ps X Y row hs hg hr => ⟨⟨hs.1.1.kept hg (fun r e => by have := hr r e; omega), Nat.le_trans hs.1.2 hg.size⟩, hs.2⟩)
    (fun c ps X Y row hs hg hr => ⟨hs.1, hs.2.1.kept hg (fun e => by have := hr _ e.symm; omega), since_row hs.2.2.1 (Nat.le_refl _) hg (fun r e => by have := hr r e; omega), hs.2.2.2⟩)
    ⟨⟨hS1, Nat.le_refl _⟩, fun x hx => by cases hx⟩
    (fun x a'' _ => a'' = { tmps := #[.slice a n cap, .int .i64 k, .pointer (some ⟨w.heap.size, 0, none⟩), undef, .pointer (some ⟨w.heap.size + 1, 0, none⟩), .int .i64 (x.1 : Int), .int .i64 (x.2 : Int), .slice a n cap, .int .i64 k, .func (.func 135) #[] #[.pointer (some ⟨w.heap.size + 1 + 1, 0, none⟩), .pointer (some ⟨w.heap.size + 1 + 1 + 1, 0, none⟩)], .int .i64 (x.1 : Int), .int .i64 (x.2 : Int), undef, undef, undef, undef, undef], defers := [] })
    (fun _ _ _ _ _ _ hA _ _ => hA)
    ?assign ?body ?done ?stop
  case assign =>
    rintro lq ps x Y K _ hi _ hK
    simp only [encP]
    gi_wp2
    exact hK _ _ (Keeps.refl _ _) hi rfl
  case body =>
    rintro lq ps x a'' Y hlq hzY _ ⟨⟨hS, hz⟩, hp⟩ hpx rfl hlen
    have cT := hS.bt.cell
    have E := Lib.hid (EM.out x hpx Y hS.sn)
    have HSS := Lib.hid hS
    have HY := Lib.hid (show mnP l x ≠ 0 → hasB l k (2 ^ n) (2 ^ m) = true from fun h => hasB_yes hpx h)
    have HP := Lib.hid hp
    clear hS hp hpx
    obtain ⟨x1, x2⟩ := x
    simp only at E HY ⊢
    obtain ⟨v, hv⟩ : ∃ v, mnP l (x1, x2) = v := ⟨_, rfl⟩
    rw [hv] at E HY
    have HV := Lib.hid hv
    clear hv
    by_cases hv0 : v = 0
    · have hvb : (v != 0) = false := by simp [hv0]
      gi_wp2_with (refine ⟨trivial, ?_⟩; gi_at_call 68; refine (CallsIn.inRound lq (callsIn_wide.2 E.out)).mono ?_; rintro e Z ⟨rfl, hs2⟩; have HS2 := Lib.hid hs2; clear hs2)
      have hg := grownSH HS2.out
      exact ⟨Keeps.grown hg (fun r e => by cases e), ⟨HSS.out.kept hg (fun r e => by cases e), by have := hg.size; omega⟩, fun p hp => by
        rcases List.mem_append.1 hp with h | h
        · exact HP.out _ h
        · simp only [List.mem_singleton] at h
          rw [h, HV.out, hv0]⟩
    · have hvb : (v != 0) = true := by simp [hv0]
      gi_wp2_with (refine ⟨trivial, ?_⟩; gi_at_call 68; refine (CallsIn.inRound lq (callsIn_wide.2 E.out)).mono ?_; rintro e Z ⟨rfl, hs2⟩; have HS2 := Lib.hid hs2; have hrB := HSS.out.br.kept (grownSH HS2.out) (by simp); have cR := hrB.cell; have fR := hrB.frozen; clear hs2)
      have hg := grownSH HS2.out
      exact ⟨(Keeps.grown hg (fun r e => by cases e)).trans (Keeps.grown (grownBy_setCell' Z (w.heap.size + 1) _) (fun r e => by cases e; rfl)), rfl, hrB.set _, (HSS.out.kept hg (fun r e => by cases e)).sn.setCell (by simp) _, HY.out hv0⟩
  case done =>
    rintro D ps X hD rfl ⟨⟨hS, hz⟩, hp⟩ hK
    have cS := hS.br.cell
    have fS := hS.br.frozen
    have hb : hasB l k (2 ^ n) (2 ^ m) = false := hasB_no hp
    have hlt := (Array.getElem?_eq_some_iff.1 hK).1
    have hK2 : (X.setCell ⟨w.heap.size + 1, 0, none⟩ (.bool false)).heap[D]? = some (.deferred (some [])) := ((grownBy_setCell' X (w.heap.size + 1) (.bool false)).block D hlt (fun e => by injection e; omega)).trans hK
    have hB3 := (hS.br.set (.bool false)).kept (grownBy_putObj' (X.setCell ⟨w.heap.size + 1, 0, none⟩ (.bool false)) D (.deferred none)) (fun e => by injection e; omega)
    have cB := hB3.cell
    have hsn := since_row (hS.sn.setCell (a := ⟨w.heap.size + 1, 0, none⟩) (by simp) (.bool false)) (Nat.le_refl _) (grownBy_putObj' (X.setCell ⟨w.heap.size + 1, 0, none⟩ (.bool false)) D (.deferred none)) (fun r e => by cases e; omega)
    gi_wp2
    refine ⟨by simp, .inl ⟨_, _, rfl, run_takeDeferred hK2, ?_⟩⟩
    refine ⟨.bool false, ?_, by rw [hb], hsn⟩
    have cB' := cB
    simp [results, Try.f101, go_sem, cB']
  case stop =>
    rintro D c ps X hD _ ⟨rfl, bR, hs, hb⟩ hK
    have hB3 := bR.kept (grownBy_putObj' X D (.deferred none)) (fun e => by injection e; omega)
    have cB := hB3.cell
    have hsn := since_row hs (Nat.le_refl _) (grownBy_putObj' X D (.deferred none)) (fun r e => by cases e; omega)
    gi_wp2
    refine ⟨by simp, .inl ⟨_, _, rfl, run_takeDeferred hK, ?_⟩⟩
    refine ⟨.bool true, ?_, by rw [hb], hsn⟩
    have cB' := cB
    simp [results, Try.f101, go_sem, cB']

end Go.Proofs.Ytcnbffflgodheaa
end

section
namespace Go.Proofs.Ytcnbffflgodheaa
open Go.RowKit Go.Deep

def nzM (l : List (List Int)) (r c : Nat) : Prop := popcS r = popcS c ∧ ordF (partL l r c) (popcS r) (popcS r) 0 ≠ 0
theorem stepR_ge (l : List (List Int)) (r c b : Nat) : b ≤ stepR l r c b := by
  unfold stepR
  split
  · omega
  · omega
theorem stepR_yes {l : List (List Int)} {r c : Nat} (h : nzM l r c) (b : Nat) : popcS r ≤ stepR l r c b := by
  unfold stepR
  by_cases hb : b < popcS r
  · rw [if_pos ⟨h.1, hb, h.2⟩]; omega
  · have := stepR_ge l r c b
    unfold stepR at this
    omega
theorem stepR_ex (l : List (List Int)) (r c b : Nat) : stepR l r c b = b ∨ (stepR l r c b = popcS r ∧ nzM l r c) := by
  unfold stepR
  split
  · rename_i h; exact .inr ⟨rfl, h.1, h.2.2⟩
  · exact .inl rfl
theorem rkC_step (l : List (List Int)) (r b : Nat) : ∀ c, 1 ≤ c → b ≤ rkC l r b c ∧ (∀ c', 1 ≤ c' → c' < c → nzM l r c' → popcS r ≤ rkC l r b c) ∧ (rkC l r b c = b ∨ (rkC l r b c = popcS r ∧ ∃ c', c' < c ∧ nzM l r c'))
  | 0, h => by omega
  | 1, _ => by rw [rkC_one]; exact ⟨by omega, fun c' h1 h2 => by omega, .inl rfl⟩
  | c + 2, _ => by
    obtain ⟨i1, i2, i3⟩ := rkC_step l r b (c + 1) (by omega)
    rw [rkC_succ l r b (by omega)]
    have g := stepR_ge l r (c + 1) (rkC l r b (c + 1))
    refine ⟨by omega, fun c' h1 h2 hn => ?_, ?_⟩
    · by_cases e : c' = c + 1
      · subst e; exact stepR_yes hn _
      · have := i2 c' h1 (by omega) hn
        omega
    · rcases stepR_ex l r (c + 1) (rkC l r b (c + 1)) with e | ⟨e, hn⟩
      · rw [e]
        rcases i3 with e2 | ⟨e2, c', h1, h2⟩
        · exact .inl e2
        · exact .inr ⟨e2, c', by omega, h2⟩
      · exact .inr ⟨e, c + 1, by omega, hn⟩
theorem rkR_step (l : List (List Int)) (C : Nat) (hC : 1 ≤ C) : ∀ r, 1 ≤ r → (∀ r' c', 1 ≤ r' → r' < r → 1 ≤ c' → c' < C → nzM l r' c' → popcS r' ≤ rkR l C r) ∧ (rkR l C r = 0 ∨ ∃ r' c', r' < r ∧ c' < C ∧ nzM l r' c' ∧ rkR l C r = popcS r')
  | 0, h => by omega
  | 1, _ => by rw [rkR_one]; exact ⟨fun r' c' h1 h2 => by omega, .inl rfl⟩
  | r + 2, _ => by
    obtain ⟨i1, i2⟩ := rkR_step l C hC (r + 1) (by omega)
    rw [rkR_succ l C (by omega)]
    obtain ⟨j1, j2, j3⟩ := rkC_step l (r + 1) (rkR l C (r + 1)) C hC
    refine ⟨fun r' c' h1 h2 h3 h4 hn => ?_, ?_⟩
    · by_cases e : r' = r + 1
      · subst e; exact j2 c' h3 h4 hn
      · have := i1 r' c' h1 (by omega) h3 h4 hn
        omega
    · rcases j3 with e | ⟨e, c', h1, h2⟩
      · rw [e]
        rcases i2 with e2 | ⟨r', c', h1, h2, h3, h4⟩
        · exact .inl e2
        · exact .inr ⟨r', c', by omega, h2, h3, h4⟩
      · exact .inr ⟨r + 1, c', by omega, h1, h2, e⟩
theorem popc_le_n : ∀ n : Fin 7, ∀ s : Fin 64, s.val < 2 ^ n.val → popcS s.val ≤ n.val := by decide +kernel
theorem hasB_iff {l : List (List Int)} {k M1 M2 : Nat} : hasB l k M1 M2 = true ↔ ∃ r c, (r < M1 ∧ popcS r = k) ∧ (c < M2 ∧ popcS c = k) ∧ dt k (at2 (partL l r c)) ≠ 0 := by
  unfold hasB hasR
  rw [List.any_eq_true]
  constructor
  · rintro ⟨r, hr, h⟩
    obtain ⟨c, hc, h⟩ := List.any_eq_true.1 h
    exact ⟨r, c, (setsTo_mem k).1 hr, (setsTo_mem k).1 hc, by simpa using h⟩
  · rintro ⟨r, c, hr, hc, h⟩
    exact ⟨r, (setsTo_mem k).2 hr, List.any_eq_true.2 ⟨c, (setsTo_mem k).2 hc, by simpa using h⟩⟩
theorem rank_down {l : List (List Int)} {n m : Nat} (hn : n ≤ 6) (hm : m ≤ 6) :
    rkR l (2 ^ m) (2 ^ n) ≤ n ∧ rkR l (2 ^ m) (2 ^ n) ≤ m ∧ ∀ k, 1 ≤ k → (hasB l k (2 ^ n) (2 ^ m) = true → k ≤ rkR l (2 ^ m) (2 ^ n)) ∧ (hasB l k (2 ^ n) (2 ^ m) = false → rkR l (2 ^ m) (2 ^ n) ≠ k) := by
  have p1 : 2 ^ n ≤ 2 ^ 6 := Nat.pow_le_pow_right (by omega) hn
  have p2 : 2 ^ m ≤ 2 ^ 6 := Nat.pow_le_pow_right (by omega) hm
  have q1 : 1 ≤ 2 ^ n := Nat.pow_pos (by omega)
  have q2 : 1 ≤ 2 ^ m := Nat.pow_pos (by omega)
  obtain ⟨s1, s2⟩ := rkR_step l (2 ^ m) q2 (2 ^ n) q1
  have hle : rkR l (2 ^ m) (2 ^ n) ≤ n ∧ rkR l (2 ^ m) (2 ^ n) ≤ m := by
    rcases s2 with e | ⟨r, c, h1, h2, h3, h4⟩
    · omega
    · have e1 := popc_le_n ⟨n, by omega⟩ ⟨r, by omega⟩ h1
      have e2 := popc_le_n ⟨m, by omega⟩ ⟨c, by omega⟩ h2
      have := h3.1
      simp only at e1 e2
      omega
  refine ⟨hle.1, hle.2, fun k hk => ⟨fun h => ?_, fun h e => ?_⟩⟩
  · obtain ⟨r, c, ⟨r1, r2⟩, ⟨c1, c2⟩, hd⟩ := hasB_iff.1 h
    have g1 := popcS_pos ⟨r, by omega⟩ (by rw [r2]; exact hk)
    have g2 := popcS_pos ⟨c, by omega⟩ (by rw [c2]; exact hk)
    have hk6 : k ≤ 6 := by rw [← r2]; exact popcS_le r
    have := s1 r c g1 r1 g2 c1 ⟨by omega, by rw [r2, ordF_all _ hk6]; exact hd⟩
    omega
  · rcases s2 with e2 | ⟨r, c, h1, h2, h3, h4⟩
    · omega
    · have hk6 : k ≤ 6 := by rw [← e, h4]; exact popcS_le r
      have hr : popcS r = k := by omega
      have : hasB l k (2 ^ n) (2 ^ m) = true := hasB_iff.2 ⟨r, c, ⟨h1, hr⟩, ⟨h2, by rw [← h3.1]; exact hr⟩, by
        have := h3.2
        rw [hr, ordF_all _ hk6] at this
        exact this⟩
      rw [h] at this
      cases this

end Go.Proofs.Ytcnbffflgodheaa
end

section
namespace Go.Proofs.Ytcnbffflgodheaa
open Go.RowKit Go.Deep

theorem World.grownBy_refl (w : World) (row : Option Nat) : w.grownBy w row := ⟨rfl, rfl, rfl, Nat.le_refl _, fun _ _ _ => rfl⟩
theorem grown_trans {a b c : World} {row : Option Nat} (h : a.grownBy b row) (k : b.grownBy c row) : a.grownBy c row :=
  ⟨k.os.trans h.os, k.tape.trans h.tape, k.output.trans h.output, Nat.le_trans h.size k.size, fun i hi hn => (k.block i (Nat.lt_of_lt_of_le hi h.size) hn).trans (h.block i hi hn)⟩
theorem grown_since {a b : World} (row : Option Nat) (h : a.Since a.heap.size b) : a.grownBy b row := ⟨h.os, h.tape, h.output, h.size, fun i hi _ => h.block i hi⟩
theorem grown_of {a b : World} {row row' : Option Nat} (h : a.grownBy b row) (hr : ∀ k, row = some k → a.heap.size ≤ k ∨ some k = row') : a.grownBy b row' :=
  ⟨h.os, h.tape, h.output, h.size, fun i hi hn => h.block i hi (fun e => by
    rcases hr i e.symm with h1 | h1
    · omega
    · exact hn h1)⟩
theorem since_grown {a b : World} {G B : Nat} (h : a.grownBy b (some G)) (hG : B ≤ G) (hB : B ≤ a.heap.size) : a.Since B b :=
  ⟨h.os, h.tape, h.output, h.size, fun i hi => h.block i (by omega) (fun e => by injection e with e; omega)⟩

def BytR (w : World) (a : Option Addr) (n : Nat) : Prop :=
  0 < n → ∃ b o, a = some ⟨b, o, none⟩ ∧ ∀ i, i < n → ∃ z : Nat, z ≤ 255 ∧ w.cell? ⟨b, o + i, none⟩ = some (.int .u8 z)
theorem BytR.since {w w' : World} {a : Option Addr} {n : Nat} (h : BytR w a n) (hs : w.Since w.heap.size w') : BytR w' a n := by
  intro h0
  obtain ⟨b, o, e, hc⟩ := h h0
  refine ⟨b, o, e, fun i hi => ?_⟩
  obtain ⟨z, h1, h2⟩ := hc i hi
  exact ⟨z, h1, (hs.cell (a := ⟨b, o + i, none⟩) (World.block_lt_of_cell? _ _ h2)).trans h2⟩

structure RD (w0 w : World) (G : Nat) (a : Option Addr) (n c : Nat) (tr : TypeId) (p : Nat) : Prop where
  blk : w.heap[G]? = some (.cells #[.slice a n c, .int .i64 p] tr (0, 0))
  base : w0.heap.size ≤ G
  since : w0.Since w0.heap.size w
  bytes : BytR w0 a n
  small : n ≤ 2000
theorem RD.lt {w0 w : World} {G : Nat} {a : Option Addr} {n c : Nat} {tr : TypeId} {p : Nat} (h : RD w0 w G a n c tr p) : G < w.heap.size := (Array.getElem?_eq_some_iff.1 h.blk).1
theorem RD.cell0 {w0 w : World} {G : Nat} {a : Option Addr} {n c : Nat} {tr : TypeId} {p : Nat} (h : RD w0 w G a n c tr p) : w.cell? ⟨G, 0, none⟩ = some (.slice a n c) := by simp [World.cell?, h.blk]
theorem RD.cell1 {w0 w : World} {G : Nat} {a : Option Addr} {n c : Nat} {tr : TypeId} {p : Nat} (h : RD w0 w G a n c tr p) : w.cell? ⟨G, 1, none⟩ = some (.int .i64 p) := by simp [World.cell?, h.blk]
theorem RD.free1 {w0 w : World} {G : Nat} {a : Option Addr} {n c : Nat} {tr : TypeId} {p : Nat} (h : RD w0 w G a n c tr p) : w.frozen? ⟨G, 1, none⟩ = false := by simp [World.frozen?, h.blk]
theorem RD.set {w0 w : World} {G : Nat} {a : Option Addr} {n c : Nat} {tr : TypeId} {p : Nat} (h : RD w0 w G a n c tr p) (q : Nat) : RD w0 (w.setCell ⟨G, 1, none⟩ (.int .i64 q)) G a n c tr q :=
  ⟨by simp [World.setCell, Array.getElem?_modify, h.blk], h.base, h.since.setCell h.base _, h.bytes, h.small⟩
theorem RD.later {w0 w w' : World} {G : Nat} {a : Option Addr} {n c : Nat} {tr : TypeId} {p : Nat} (h : RD w0 w G a n c tr p) (hs : w.Since w.heap.size w') : RD w0 w' G a n c tr p :=
  ⟨(hs.block G h.lt).trans h.blk, h.base, h.since.trans (since_mono hs h.since.size), h.bytes, h.small⟩
theorem RD.grown {w0 w w' : World} {G : Nat} {a : Option Addr} {n c : Nat} {tr : TypeId} {p : Nat} {row : Option Nat} (h : RD w0 w G a n c tr p) (hg : w.grownBy w' row) (hr : ∀ k, row = some k → G < k) : RD w0 w' G a n c tr p :=
  ⟨(hg.block G h.lt (fun e => by have := hr G e.symm; omega)).trans h.blk, h.base, h.since.grown hg h.since.size (fun k e => by have := hr k e; have := h.base; omega), h.bytes, h.small⟩

def RW (B : Nat) (w : World) (v : Value) (x : List Int) : Prop := w.ownsRow B 3 1 v x.length (x.map (Value.int .i64))
theorem RW.kept {B : Nat} {w w' : World} {v : Value} {x : List Int} {G : Nat} (h : RW B w v x) (hg : w.grownBy w' (some G)) (hG : G < B) : RW B w' v x :=
  World.ownsRow.kept h hg (by
    cases hv : v.ownBlock with
    | none => exact .inl rfl
    | some k => exact .inr (fun e => by injection e with e; have := (World.ownsRow.lt h k hv).1; omega))
theorem RW.base {B B' : Nat} {w : World} {v : Value} {x : List Int} (h : RW B w v x) (hB : B' ≤ B) : RW B' w v x := by
  refine ⟨h.1, ?_⟩
  rcases h.2 with h1 | ⟨g, cap, cur, e, hb, hr⟩
  · exact .inl h1
  · exact .inr ⟨g, cap, cur, e, by omega, hr⟩
theorem RW.form {B : Nat} {w : World} {v : Value} {x : List Int} (h : RW B w v x) (h0 : 0 < x.length) : ∃ g cap, v = .slice (some ⟨g, 0, none⟩) x.length cap ∧ B ≤ g ∧ RowB w g x := RowB.of_owns h h0
theorem RW.set {B : Nat} {w : World} {g cap k : Nat} {x : List Int} (h : RW B w (.slice (some ⟨g, 0, none⟩) x.length cap) x) (_hk : k < x.length) (y : Int) : RW B (w.setCell ⟨g, k, none⟩ (.int .i64 y)) (.slice (some ⟨g, 0, none⟩) x.length cap) (x.set k y) := by
  rcases h.2 with ⟨e, _⟩ | ⟨g', cap', cur, e, hb, hg, hn, hm, hs, ht⟩
  · cases e
  · injection e with e1 e2 e3
    injection e1 with e1
    injection e1 with e1
    subst e1; subst e3
    refine ⟨by simp, .inr ⟨g, cap, cur.setIfInBounds k (.int .i64 y), by rw [List.length_set], hb, ?_, by rw [List.length_set]; exact hn, hm, by simpa using hs, ?_⟩⟩
    · simp [World.setCell, Array.getElem?_modify, hg]
    · rw [List.length_set, Nat.mul_one]
      rw [Nat.mul_one] at ht
      rw [List.map_set, ← ht]
      simp [List.take_set]

structure BD (B : Nat) (w : World) (v : Value) (l : List (List Int)) (A : Nat → Option Addr) (C : Nat → Nat) : Prop where
  own : w.ownsRow B 42 1 v l.length ((List.range l.length).map fun r => .slice (A r) (l.getD r []).length (C r))
  rows : ∀ r, r < l.length → 0 < (l.getD r []).length ∧ RW B w (.slice (A r) (l.getD r []).length (C r)) (l.getD r [])
  apart : ∀ r r', r < l.length → r' < l.length → A r = A r' → r = r'
theorem BD.start (w : World) (A : Nat → Option Addr) (C : Nat → Nat) {B : Nat} (hB : B ≤ w.heap.size) : BD B (w.alloc (.cells #[] 42)) (.slice (some ⟨w.heap.size, 0, none⟩) 0 0) [] A C :=
  ⟨World.ownsRow_made w #[] 0 hB (Nat.zero_le _) rfl, fun r hr => by simp at hr, fun r _ hr => by simp at hr⟩
theorem BD.kept {B : Nat} {w w' : World} {v : Value} {l : List (List Int)} {A : Nat → Option Addr} {C : Nat → Nat} {G : Nat} (h : BD B w v l A C) (hg : w.grownBy w' (some G)) (hG : G < B) : BD B w' v l A C :=
  ⟨World.ownsRow.kept h.own hg (by
      cases hv : v.ownBlock with
      | none => exact .inl rfl
      | some k => exact .inr (fun e => by injection e with e; have := (h.own.lt k hv).1; omega)),
    fun r hr => ⟨(h.rows r hr).1, (h.rows r hr).2.kept hg hG⟩, h.apart⟩
theorem BD.later {B : Nat} {w w' : World} {v : Value} {l : List (List Int)} {A : Nat → Option Addr} {C : Nat → Nat} (h : BD B w v l A C) (hs : w.Since w.heap.size w') : BD B w' v l A C := by
  have hg : w.grownBy w' none := grown_since none hs
  refine ⟨World.ownsRow.kept h.own hg ?_, fun r hr => ⟨(h.rows r hr).1, World.ownsRow.kept (h.rows r hr).2 hg ?_⟩, h.apart⟩
  · cases hv : v.ownBlock <;> simp
  · cases hv : (Value.slice (A r) (l.getD r []).length (C r)).ownBlock <;> simp
theorem BD.row {B : Nat} {w : World} {v : Value} {l : List (List Int)} {A : Nat → Option Addr} {C : Nat → Nat} (h : BD B w v l A C) {r : Nat} (hr : r < l.length) : ∃ g, A r = some ⟨g, 0, none⟩ ∧ B ≤ g ∧ RowB w g (l.getD r []) := by
  obtain ⟨g, cap, e, hb, hw⟩ := (h.rows r hr).2.form (h.rows r hr).1
  injection e with e _ _
  exact ⟨g, e, hb, hw⟩
theorem BD.top {B : Nat} {w : World} {v : Value} {l : List (List Int)} {A : Nat → Option Addr} {C : Nat → Nat} (h : BD B w v l A C) (h0 : 0 < l.length) : ∃ b cap cur, v = .slice (some ⟨b, 0, none⟩) l.length cap ∧ B ≤ b ∧ w.heap[b]? = some (.cells cur 42 (0, 0)) ∧ ∀ r, r < l.length → cur[r]? = some (.slice (A r) (l.getD r []).length (C r)) := by
  rcases h.own.2 with ⟨_, hn⟩ | ⟨g, cap, cur, e, hb, hg, hn, _, hs, ht⟩
  · omega
  · refine ⟨g, cap, cur, e, hb, hg, fun r hr => ?_⟩
    have h1 : (cur.toList.take (l.length * 1))[r]? = some (.slice (A r) (l.getD r []).length (C r)) := by rw [ht]; simp [hr]
    rw [List.getElem?_take] at h1
    have h2 : r < l.length ∧ cur[r]? = some (.slice (A r) (l.getD r []).length (C r)) := by simpa using h1
    exact h2.2
theorem BD.push {B : Nat} {w w1 : World} {v v' : Value} {l : List (List Int)} {A : Nat → Option Addr} {C : Nat → Nat} {x : List Int} {a : Option Addr} {cp : Nat} (h : BD B w v l A C) (h0 : 0 < x.length) (hx : RW B w (.slice a x.length cp) x)
    (hfresh : ∀ r, r < l.length → A r ≠ a)
    (hown : w1.ownsRow B 42 1 v' (l.length + 1) (((List.range l.length).map fun r => .slice (A r) (l.getD r []).length (C r)) ++ [.slice a x.length cp])) (hg : (w.alloc (.cells #[.slice a x.length cp] 42)).grownBy w1 v.ownBlock) :
    BD B w1 v' (l ++ [x]) (fun r => if r = l.length then a else A r) (fun r => if r = l.length then cp else C r) := by
  have hkeep : ∀ (u : Value) (y : List Int), 0 < y.length → RW B w u y → RW B w1 u y := by
    intro u y hy hu
    refine World.ownsRow.kept (World.ownsRow.alloc hu _) hg ?_
    obtain ⟨g, cap, e, _, cs, hc, _⟩ := hu.form hy
    subst e
    refine .inr fun e => ?_
    rcases h.own.2 with ⟨rfl, _⟩ | ⟨g', cap', cur, rfl, _, hgg, _⟩
    · cases e
    · injection e with e
      have e : g = g' := e
      rw [← e, hc] at hgg
      injection hgg with hgg
      injection hgg with _ e2 _
      exact absurd e2 (by decide)
  have e4 : ∀ q, q < l.length → (l ++ [x]).getD q [] = l.getD q [] := fun q hq => by simp [List.getD, List.getElem?_append_left hq]
  have e5 : (l ++ [x]).getD l.length [] = x := by simp [List.getD]
  have e6 : (l ++ [x]).length = l.length + 1 := by simp
  refine ⟨?_, fun r hr => ?_, fun r r' hr hr' e => ?_⟩
  · rw [e6, List.range_succ, List.map_append]
    have e2 : (List.range l.length).map (fun r => Value.slice (if r = l.length then a else A r) ((l ++ [x]).getD r []).length (if r = l.length then cp else C r)) = (List.range l.length).map fun r => .slice (A r) (l.getD r []).length (C r) := by
      refine List.map_congr_left fun r hr => ?_
      have hr' := List.mem_range.1 hr
      rw [if_neg (by omega), if_neg (by omega), e4 r hr']
    rw [e2]
    simpa [e5] using hown
  · by_cases e : r = l.length
    · subst e
      rw [e5, if_pos rfl, if_pos rfl]
      exact ⟨h0, hkeep _ _ h0 hx⟩
    · rw [e6] at hr
      rw [e4 r (by omega), if_neg e, if_neg e]
      exact ⟨(h.rows r (by omega)).1, hkeep _ _ (h.rows r (by omega)).1 (h.rows r (by omega)).2⟩
  · rw [e6] at hr hr'
    by_cases e1 : r = l.length <;> by_cases e2 : r' = l.length
    · omega
    · rw [if_pos e1, if_neg e2] at e
      exact absurd e.symm (hfresh r' (by omega))
    · rw [if_neg e1, if_pos e2] at e
      exact absurd e (hfresh r (by omega))
    · rw [if_neg e1, if_neg e2] at e
      exact h.apart r r' (by omega) (by omega) e
theorem BD.fresh {B : Nat} {w : World} {v : Value} {l : List (List Int)} {A : Nat → Option Addr} {C : Nat → Nat} (h : BD B w v l A C) {a : Option Addr} {g : Nat} (ha : a = some ⟨g, 0, none⟩) (hg : w.heap.size ≤ g) : ∀ r, r < l.length → A r ≠ a := by
  intro r hr e
  obtain ⟨g', e', _, hw⟩ := h.row hr
  have := hw.lt
  rw [e', ha] at e
  injection e with e; injection e with e
  omega
theorem BD.matR {B : Nat} {w : World} {v : Value} {l : List (List Int)} {A : Nat → Option Addr} {C : Nat → Nat} (h : BD B w v l A C) : ∃ a cap, v = .slice a l.length cap ∧ MatR w a l := by
  by_cases h0 : 0 < l.length
  · obtain ⟨b, cap, cur, e, _, hg, hc⟩ := h.top h0
    refine ⟨_, cap, e, fun _ => ⟨b, 0, A, C, rfl, fun r hr => ⟨?_, fun h1 => ?_⟩⟩⟩
    · rw [Nat.zero_add]; simp [World.cell?, hg, hc r hr]
    · obtain ⟨g, e, _, hw⟩ := h.row hr
      exact ⟨g, 0, e, fun i hi => by rw [Nat.zero_add]; exact hw.cell hi⟩
  · rcases h.own.2 with ⟨hv, hn⟩ | ⟨g, cap, cur, e, _⟩
    · exact ⟨none, 0, by rw [hv, hn], fun h => absurd h h0⟩
    · exact ⟨_, cap, e, fun h => absurd h h0⟩

end Go.Proofs.Ytcnbffflgodheaa
end

section
namespace Go.Proofs.Ytcnbffflgodheaa
open Go.RowKit Go.Deep

theorem grown_drewN {a b : World} {row : Option Nat} (h : a.grownBy b row) (q : Nat) : a.grownBy (b.drewN q) row := ⟨h.os, h.tape, h.output, h.size, h.block⟩
theorem xor_i64_nat (a b : Nat) (ha : a < 2 ^ 62) (hb : b < 2 ^ 62) : bits .xor .i64 (a : Int) (b : Int) = ((a ^^^ b : Nat) : Int) := by
  have hx : a ^^^ b < 2 ^ 62 := Nat.xor_lt_two_pow ha hb
  have h1 : (BitVec.ofInt 64 (a : Int)).toNat = a := by
    rw [BitVec.ofInt_natCast, BitVec.toNat_ofNat]; exact Nat.mod_eq_of_lt (by omega)
  have h2 : (BitVec.ofInt 64 (b : Int)).toNat = b := by
    rw [BitVec.ofInt_natCast, BitVec.toNat_ofNat]; exact Nat.mod_eq_of_lt (by omega)
  show IntKind.i64.wrap ((BitVec.ofInt 64 (a : Int) ^^^ BitVec.ofInt 64 (b : Int)).toNat : Int) = _
  rw [BitVec.toNat_xor, h1, h2]
  exact IntWalk.i64_in _ ⟨by omega, by omega⟩

end Go.Proofs.Ytcnbffflgodheaa
end

section
namespace Go.Proofs.Ytcnbffflgodheaa
open Go.RowKit Go.Deep

theorem grown_new {a b c : World} {G : Nat} {row : Option Nat} (h : a.grownBy b (some G)) (k : b.grownBy c row) (hr : ∀ i, row = some i → a.heap.size ≤ i) : a.grownBy c (some G) :=
  ⟨k.os.trans h.os, k.tape.trans h.tape, k.output.trans h.output, Nat.le_trans h.size k.size, fun i hi hn => (k.block i (Nat.lt_of_lt_of_le hi h.size) (fun e => by have := hr i e.symm; omega)).trans (h.block i hi hn)⟩
theorem grown_alloc {a b : World} {G : Nat} (h : a.grownBy b (some G)) (o : Obj) : a.grownBy (b.alloc o) (some G) := grown_new h (World.grownBy_alloc b o none) (fun i e => by cases e)
theorem grown_set {a b : World} {G : Nat} (h : a.grownBy b (some G)) {g k : Nat} (hg : a.heap.size ≤ g) (v : Value) : a.grownBy (b.setCell ⟨g, k, none⟩ v) (some G) :=
  grown_new h (row := some g) ⟨rfl, rfl, rfl, by simp, fun i _ hi => Below.heap_setCell _ _ _ _ (fun e => hi (by rw [e]))⟩ (fun i e => by cases e; exact hg)
theorem cell_grown {a b : World} {G : Nat} {p : Addr} {v : Value} (h : a.cell? p = some v) (hg : a.grownBy b (some G)) (hp : p.block ≠ G) : b.cell? p = some v := hg.cell h (fun e => hp (by injection e))
theorem cell_set_far {w : World} {g j : Nat} {v : Value} {p : Addr} {u : Value} (h : w.cell? p = some u) (hne : p.block ≠ g) : (w.setCell ⟨g, j, none⟩ v).cell? p = some u := by
  rw [World.cell?_setCell_other _ _ _ _ (fun e => hne (by rw [← e]))]; exact h

theorem wpList_append_int {P : Program} (w : World) {ops : Array Oper} {rest : List Oper} {o : Oper} {a : Act} {Q : Exit → Act → World → Prop} (hgd : o.guard = none) (s x : Operand) (t : TypeId)
    (ho : o.op = .call { callee := .builtin .append, args := #[s, x], argTypes := #[t, t] }) (B : Nat) (i : TypeInfo) (ht : P.underlying t = some (.slice 3)) (hi : P.info? 3 = some i) (hz : i.zero = some (.int .i64 0)) (hsz : i.size = 1) (hby : i.bytes = 8)
    (v : Value) (xs : List Int) (hs : a.eval s = v) (h : RW B w v xs) (y : Int) (hx : a.eval x = .slice (some ⟨w.heap.size, 0, none⟩) 1 1) (hlen : xs.length ≤ 1000) (hB : B ≤ w.heap.size)
    (hK : ∀ v' w', RW B w' v' (xs ++ [y]) → w.grownBy w' v.ownBlock → wpList P ops Q rest (a.put o.dst v') w') : wpList P ops Q (o :: rest) a (w.alloc (.cells #[.int .i64 y] 3)) := by
  refine wpList_append_own _ hgd s x t ho B 3 i (.int .i64 0) 1 8 ht hi hz hsz hby rfl (by decide) v xs.length (xs.map (Value.int .i64)) hs (World.ownsRow.alloc h _) ⟨w.heap.size, 0, none⟩ 1 1 [.int .i64 y] hx rfl (cell_one_at _ _ _ rfl) (fun u hu => by simp at hu; subst hu; rfl) (by unfold maxLen; omega) (by omega) (by simp; omega) ?_
  intro v' w' hown hg _
  refine hK v' w' ?_ ⟨hg.os, hg.tape, hg.output, by have := hg.size; simp at this; omega, fun j hj hn => (hg.block j (by simp; omega) hn).trans (Below.heap_alloc _ _ _ hj)⟩
  unfold RW
  rw [List.length_append, List.map_append]
  exact hown

theorem wpList_append_row {P : Program} (w : World) {ops : Array Oper} {rest : List Oper} {o : Oper} {a : Act} {Q : Exit → Act → World → Prop} (hgd : o.guard = none) (s x : Operand) (t : TypeId)
    (ho : o.op = .call { callee := .builtin .append, args := #[s, x], argTypes := #[t, t] }) (B B' : Nat) (i : TypeInfo) (ht : P.underlying t = some (.slice 42)) (hi : P.info? 42 = some i) (hz : i.zero = some (.slice none 0 0)) (hsz : i.size = 1) (hby : i.bytes = 24)
    (v : Value) (l : List (List Int)) (A : Nat → Option Addr) (C : Nat → Nat) (hs : a.eval s = v) (h : BD B w v l A C) (g cp m : Nat) (y : List Int) (hy : y.length = m) (h0 : 0 < m) (hr : RW B' w (.slice (some ⟨g, 0, none⟩) m cp) y) (hfresh : ∀ r, r < l.length → A r ≠ some ⟨g, 0, none⟩)
    (hBB : B ≤ B') (hx : a.eval x = .slice (some ⟨w.heap.size, 0, none⟩) 1 1) (hlen : l.length ≤ 1000) (hB : B ≤ w.heap.size)
    (hK : ∀ v' w' A' C', BD B w' v' (l ++ [y]) A' C' → w.grownBy w' v.ownBlock → wpList P ops Q rest (a.put o.dst v') w') : wpList P ops Q (o :: rest) a (w.alloc (.cells #[.slice (some ⟨g, 0, none⟩) m cp] 42)) := by
  subst hy
  refine wpList_append_own _ hgd s x t ho B 42 i (.slice none 0 0) 1 24 ht hi hz hsz hby rfl (by decide) v l.length _ hs (h.own.alloc _) ⟨w.heap.size, 0, none⟩ 1 1 [.slice (some ⟨g, 0, none⟩) y.length cp] hx rfl (cell_one_at _ _ _ rfl) (fun u hu => by simp at hu; subst hu; rfl) (by unfold maxLen; omega) (by omega) (by simp; omega) ?_
  intro v' w' hown hg _
  refine hK v' w' _ _ (h.push h0 (hr.base hBB) hfresh hown hg) ⟨hg.os, hg.tape, hg.output, by have := hg.size; simp at this; omega, fun j hj hn => (hg.block j (by simp; omega) hn).trans (Below.heap_alloc _ _ _ hj)⟩

end Go.Proofs.Ytcnbffflgodheaa
end

section
namespace Go.Proofs.Ytcnbffflgodheaa
open Go.RowKit Go.Deep

theorem RW.set' {B : Nat} {w : World} {g cap k m : Nat} {x : List Int} (hm : x.length = m) (h : RW B w (.slice (some ⟨g, 0, none⟩) m cap) x) (hk : k < m) (y : Int) : RW B (w.setCell ⟨g, k, none⟩ (.int .i64 y)) (.slice (some ⟨g, 0, none⟩) m cap) (x.set k y) := by
  subst hm; exact h.set hk y
theorem RW.rowB {B : Nat} {w : World} {g k cap : Nat} {x : List Int} (h : RW B w (.slice (some ⟨g, 0, none⟩) k cap) x) (h0 : 0 < x.length) : B ≤ g ∧ RowB w g x := by
  obtain ⟨g', cap', e, h1, h2⟩ := h.form h0
  injection e with e
  injection e with e
  injection e with e
  subst e
  exact ⟨h1, h2⟩
theorem grown_set_any (w : World) (g k : Nat) (v : Value) : w.grownBy (w.setCell ⟨g, k, none⟩ v) (some g) := ⟨rfl, rfl, rfl, by simp, fun i _ hi => Below.heap_setCell _ _ _ _ (fun e => hi (by rw [e]))⟩
theorem grown_undrew' {W w' : World} {row : Option Nat} (h : W.drew.grownBy w' row) : W.grownBy w' row := ⟨h.os, h.tape, h.output, h.size, h.block⟩
theorem lens_snoc {l : List (List Int)} {x : List Int} {r m : Nat} (hl : l.length = r) (h : ∀ j, j < r → (l.getD j []).length = m) (hx : x.length = m) : ∀ j, j < r + 1 → ((l ++ [x]).getD j []).length = m := by
  intro j hj
  by_cases e : j = r
  · subst e; subst hl; simpa [List.getD] using hx
  · rw [show (l ++ [x]).getD j [] = l.getD j [] by simp [List.getD, List.getElem?_append_left (show j < l.length by omega)]]
    exact h j (by omega)

end Go.Proofs.Ytcnbffflgodheaa
end

section
namespace Go.Proofs.Ytcnbffflgodheaa
open Go.RowKit Go.Deep

theorem BD.inT {B : Nat} {w : World} {v : Value} {l : List (List Int)} {A : Nat → Option Addr} {C : Nat → Nat} (h : BD B w v l A C) : ∃ a cap, v = .slice a l.length cap ∧ InT B w.heap.size w a l := by
  by_cases h0 : 0 < l.length
  · obtain ⟨b, cap, cur, e, hb, hg, hc⟩ := h.top h0
    refine ⟨_, cap, e, fun _ => ⟨b, 0, A, fun r => ((A r).getD default).block, fun _ => 0, C, rfl, ⟨hb, (Array.getElem?_eq_some_iff.1 hg).1⟩, fun r hr => ⟨?_, fun h1 => ?_⟩⟩⟩
    · rw [Nat.zero_add]; simp [World.cell?, hg, hc r hr]
    · obtain ⟨g, e, hB, hw⟩ := h.row hr
      have e' : ((A r).getD default).block = g := by rw [e]; rfl
      dsimp only
      rw [e']
      exact ⟨e, ⟨hB, hw.lt⟩, fun i hi => by rw [Nat.zero_add]; exact hw.cell hi⟩
  · rcases h.own.2 with ⟨hv, hn⟩ | ⟨g, cap, cur, e, _⟩
    · exact ⟨none, 0, by rw [hv, hn], fun h => absurd h h0⟩
    · exact ⟨_, cap, e, fun h => absurd h h0⟩

theorem BD.row_ne {B : Nat} {w : World} {l : List (List Int)} {A : Nat → Option Addr} {C : Nat → Nat} {b cap n : Nat} (h : BD B w (.slice (some ⟨b, 0, none⟩) n cap) l A C) {g : Nat} {x : List Int} (hw : RowB w g x) : g ≠ b := by
  rintro rfl
  obtain ⟨cs, hc, _⟩ := hw
  rcases h.own.2 with ⟨e, _⟩ | ⟨g', cap', cur, e, _, hgg, _⟩
  · cases e
  · injection e with e
    injection e with e
    injection e with e
    rw [← e, hc] at hgg
    injection hgg with hgg
    injection hgg with _ e2 _
    exact absurd e2 (by decide)

theorem BD.addr_ne {B : Nat} {w : World} {v : Value} {l : List (List Int)} {A : Nat → Option Addr} {C : Nat → Nat} (h : BD B w v l A C) {r j g g' : Nat} (hr : r < l.length) (hj : j < l.length) (hA : A r = some ⟨g, 0, none⟩) (hA' : A j = some ⟨g', 0, none⟩) (hne : j ≠ r) : g' ≠ g := by
  rintro rfl
  exact hne (h.apart j r hj hr (by rw [hA, hA']))

theorem BD.cellTop {B : Nat} {w : World} {l : List (List Int)} {A : Nat → Option Addr} {C : Nat → Nat} {b cap n : Nat} (h : BD B w (.slice (some ⟨b, 0, none⟩) n cap) l A C) {r : Nat} (hr : r < l.length) :
    w.cell? ⟨b, r, none⟩ = some (.slice (A r) (l.getD r []).length (C r)) ∧ w.frozen? ⟨b, r, none⟩ = false ∧ b < w.heap.size := by
  obtain ⟨b', cp', cur, hv, _, hcur, hc⟩ := h.top (by omega)
  injection hv with hv _ _
  injection hv with hv
  injection hv with hv
  subst hv
  exact ⟨by simp [World.cell?, hcur, hc r hr], by simp [World.frozen?, hcur], (Array.getElem?_eq_some_iff.1 hcur).1⟩

theorem BD.setRow {B : Nat} {w w5 : World} {l : List (List Int)} {A : Nat → Option Addr} {C : Nat → Nat} {b cap n : Nat} (h : BD B w (.slice (some ⟨b, 0, none⟩) n cap) l A C) {r g : Nat} (hr : r < l.length) (hA : A r = some ⟨g, 0, none⟩) (hg : w.grownBy w5 (some g)) {g2 cp k : Nat} {y : List Int}
    (hy : RW B w5 (.slice (some ⟨g2, 0, none⟩) k cp) y) (hk : y.length = k) (h0 : 0 < k) : InT B w5.heap.size (w5.setCell ⟨b, r, none⟩ (.slice (some ⟨g2, 0, none⟩) k cp)) (some ⟨b, 0, none⟩) (l.set r y) := by
  subst hk
  obtain ⟨b', cap', cur, e, hb, hcur, hc⟩ := h.top (by omega)
  injection e with e en _
  injection e with e
  injection e with e
  subst e
  obtain ⟨g', hA', hBg, hrb⟩ := h.row hr
  rw [hA] at hA'
  injection hA' with hA'
  injection hA' with hA'
  subst hA'
  have hgb := h.row_ne hrb
  have hbl : b < w.heap.size := (Array.getElem?_eq_some_iff.1 hcur).1
  have hcur5 : w5.heap[b]? = some (.cells cur 42 (0, 0)) := (hg.block b hbl (fun e => by injection e with e; omega)).trans hcur
  obtain ⟨hB2, hrb2⟩ := hy.rowB h0
  have hg2b : g2 ≠ b := by
    rintro rfl
    obtain ⟨cs, h1, _⟩ := hrb2
    rw [h1] at hcur5
    injection hcur5 with h2
    injection h2 with _ h2 _
    exact absurd h2 (by decide)
  have hbl5 : b < w5.heap.size := (Array.getElem?_eq_some_iff.1 hcur5).1
  intro _
  refine ⟨b, 0, fun j => if j = r then some ⟨g2, 0, none⟩ else A j, fun j => if j = r then g2 else ((A j).getD default).block, fun _ => 0, fun j => if j = r then cp else C j, rfl, ⟨hb, hbl5⟩, fun j hj => ?_⟩
  rw [List.length_set] at hj
  show (w5.setCell ⟨b, r, none⟩ _).cell? ⟨b, 0 + j, none⟩ = _ ∧ _
  rw [Nat.zero_add]
  by_cases ej : j = r
  · subst ej
    have e1 : (l.set j y).getD j [] = y := by simp [List.getD, hj]
    rw [e1]
    simp only [↓reduceIte]
    refine ⟨World.cell?_setCell_same' _ _ _ (by simp [World.cell?, hcur5, hc j hj]), fun _ => ⟨trivial, ⟨hB2, hrb2.lt⟩, fun i hi => ?_⟩⟩
    rw [Nat.zero_add]
    exact cell_set_far (hrb2.cell hi) hg2b
  · have e1 : (l.set r y).getD j [] = l.getD j [] := by simp [List.getD, List.getElem?_set_ne (Ne.symm ej)]
    rw [e1]
    simp only [if_neg ej]
    obtain ⟨gj, hAj, hBj, hrbj⟩ := h.row hj
    have hgj := h.addr_ne hr hj hA hAj ej
    have hrb5 : RowB w5 gj (l.getD j []) := hrbj.of_block (hg.block gj hrbj.lt (fun e => by injection e with e; omega))
    have hgjb := h.row_ne hrbj
    refine ⟨?_, fun _ => ?_⟩
    · rw [World.cell?_setCell_other _ _ _ _ (fun e => ej (by injection e with _ e; exact e.symm))]
      simp [World.cell?, hcur5, hc j hj]
    · have e' : ((A j).getD default).block = gj := by rw [hAj]; rfl
      rw [e']
      exact ⟨hAj, ⟨hBj, hrb5.lt⟩, fun i hi => by rw [Nat.zero_add]; exact cell_set_far (hrb5.cell hi) hgjb⟩

theorem BD.setNum {B : Nat} {w : World} {l : List (List Int)} {A : Nat → Option Addr} {C : Nat → Nat} {b cap n : Nat} (h : BD B w (.slice (some ⟨b, 0, none⟩) n cap) l A C) {r g k : Nat} (hr : r < l.length) (hA : A r = some ⟨g, 0, none⟩) (hk : k < (l.getD r []).length) (z : Int) :
    InT B w.heap.size (w.setCell ⟨g, k, none⟩ (.int .i64 z)) (some ⟨b, 0, none⟩) (l.set r ((l.getD r []).set k z)) := by
  obtain ⟨b', cap', cur, e, hb, hcur, hc⟩ := h.top (by omega)
  injection e with e en _
  injection e with e
  injection e with e
  subst e
  obtain ⟨g', hA', hBg, hrb⟩ := h.row hr
  rw [hA] at hA'
  injection hA' with hA'
  injection hA' with hA'
  subst hA'
  have hgb := h.row_ne hrb
  intro _
  refine ⟨b, 0, A, fun j => ((A j).getD default).block, fun _ => 0, C, rfl, ⟨hb, (Array.getElem?_eq_some_iff.1 hcur).1⟩, fun j hj => ?_⟩
  rw [List.length_set] at hj
  show (w.setCell ⟨g, k, none⟩ _).cell? ⟨b, 0 + j, none⟩ = _ ∧ _
  rw [Nat.zero_add]
  have hlen : ((l.set r ((l.getD r []).set k z)).getD j []).length = (l.getD j []).length := by
    by_cases ej : j = r
    · subst ej; simp [List.getD, hj]
    · simp [List.getD, List.getElem?_set_ne (Ne.symm ej)]
  rw [hlen]
  refine ⟨cell_set_far (by simp [World.cell?, hcur, hc j hj]) (Ne.symm hgb), fun _ => ?_⟩
  obtain ⟨gj, hAj, hBj, hrbj⟩ := h.row hj
  have e' : ((A j).getD default).block = gj := by rw [hAj]; rfl
  dsimp only
  rw [e']
  refine ⟨hAj, ⟨hBj, hrbj.lt⟩, fun i hi => ?_⟩
  rw [Nat.zero_add]
  by_cases ej : j = r
  · subst ej
    rw [hA] at hAj
    injection hAj with hAj
    injection hAj with hAj
    subst hAj
    have e1 : (l.set j ((l.getD j []).set k z)).getD j [] = (l.getD j []).set k z := by simp [List.getD, hj]
    rw [e1]
    by_cases ei : i = k
    · subst ei
      rw [World.cell?_setCell_same' _ _ _ (by rw [hrbj.cell hi]; rfl)]
      simp [List.getD] at hi ⊢
      simp [hi]
    · rw [World.cell?_setCell_other _ _ _ _ (fun e => ei (by injection e with _ e; exact e.symm)), hrbj.cell hi]
      simp [List.getD, List.getElem?_set_ne (Ne.symm ei)]
  · have hgj := h.addr_ne hr hj hA hAj ej
    have e1 : (l.set r ((l.getD r []).set k z)).getD j [] = l.getD j [] := by simp [List.getD, List.getElem?_set_ne (Ne.symm ej)]
    rw [e1]
    exact cell_set_far (hrbj.cell hi) hgj

theorem InT.kept {lo hi : Nat} {w w' : World} {a : Option Addr} {l : List (List Int)} {G : Nat} (h : InT lo hi w a l) (hg : w.grownBy w' (some G)) (hG : G < lo) : InT lo hi w' a l :=
  h.frame (lo' := G) (hi' := G + 1) ⟨hg.os, hg.tape, hg.output, hg.size, fun k hk ho => hg.block k hk (fun e => by injection e with e; omega)⟩ (.inr (by omega))

end Go.Proofs.Ytcnbffflgodheaa
end

section
namespace Go.Proofs.Ytcnbffflgodheaa
open Go.RowKit Go.Deep

def Drawn0 (w w' : World) (R K : Nat) (a : Option Addr) (l : List (List Int)) : Prop :=
  1 ≤ l.length ∧ l.length ≤ R ∧ (∀ j, j < l.length → 1 ≤ (l.getD j []).length ∧ (l.getD j []).length ≤ K + 1) ∧ InT w.heap.size w'.heap.size w' a l

theorem lens_set {l : List (List Int)} {r : Nat} {y : List Int} {n m K : Nat} (hl : l.length = n) (h : ∀ j, j < n → (l.getD j []).length = m) (hm : 1 ≤ m ∧ m ≤ K) (hy : 1 ≤ y.length ∧ y.length ≤ K + 1) : ∀ j, j < (l.set r y).length → 1 ≤ ((l.set r y).getD j []).length ∧ ((l.set r y).getD j []).length ≤ K + 1 := by
  intro j hj
  rw [List.length_set] at hj
  by_cases e : j = r
  · subst e
    rw [show (l.set j y).getD j [] = y by simp [List.getD, hj]]
    exact hy
  · rw [show (l.set r y).getD j [] = l.getD j [] by simp [List.getD, List.getElem?_set_ne (Ne.symm e)], h j (by omega)]
    omega

end Go.Proofs.Ytcnbffflgodheaa
end

section
namespace Go.Proofs.Ytcnbffflgodheaa
open Go.RowKit Go.Deep

def DrawnT (w w' : World) (R K : Nat) (a : Option Addr) (l : List (List Int)) : Prop :=
  1 ≤ l.length ∧ l.length ≤ R ∧ (∀ j, j < l.length → 1 ≤ (l.getD j []).length ∧ (l.getD j []).length ≤ K + 1) ∧ InT w.heap.size w'.heap.size w' a l

end Go.Proofs.Ytcnbffflgodheaa
end

section
namespace Go.Proofs.Ytcnbffflgodheaa
open Go.RowKit Go.Deep

end Go.Proofs.Ytcnbffflgodheaa
end

section
namespace Go.Proofs.Ytcnbffflgodheaa
open Go.RowKit Go.Deep

theorem szL_of {l : List (List Int)} {n k : Nat} (h1 : l.length ≤ n) (h2 : ∀ j, j < l.length → (l.getD j []).length ≤ k) (hnk : n * k + n ≤ 1048576) : szL l ≤ 1048576 := by
  have h3 := sumTo_le_mul l k h2 l.length (Nat.le_refl _)
  have h4 : l.length * k ≤ n * k := Nat.mul_le_mul_right _ h1
  have h5 : k * l.length = l.length * k := Nat.mul_comm _ _
  unfold szL
  omega
theorem rows_le {l : List (List Int)} (h : szL l ≤ 1048576) : ∀ r, r < l.length → (l.getD r []).length ≤ 9223372036854775807 := fun r hr => by
  have := row_le l hr
  unfold szL at h
  omega

theorem tab_self {l : List (List Int)} {n m : Nat} (hn : l.length = n) (hm : ∀ r, r < n → (l.getD r []).length = m) : tabF n m (at2 l) = l := by
  refine List.ext_getElem (by rw [tabF_length, hn]) fun r h1 h2 => ?_
  have hr : r < n := by rw [tabF_length] at h1; exact h1
  have e1 : (tabF n m (at2 l))[r] = (tabF n m (at2 l)).getD r [] := by simp [List.getD, h1]
  have e2 : l[r] = l.getD r [] := by simp [List.getD, h2]
  rw [e1, e2, tabF_get _ _ _ _ hr]
  refine List.ext_getElem (by rw [List.length_map, List.length_range, hm r hr]) fun k h3 h4 => ?_
  rw [List.getElem_map, List.getElem_range]
  unfold at2
  obtain ⟨x, hx⟩ : ∃ x, x = l.getD r [] := ⟨_, rfl⟩
  subst hx
  generalize l.getD r [] = x at *
  simp [List.getD, h4]

theorem turnL_turnL {l : List (List Int)} (hT : TabIn l) : turnL (turnL l) = l := by
  have h1 := hT.1
  have hw := hT.width
  have e0 : ((turnL l).getD 0 []).length = l.length := tabF_len _ _ _ _ hw.1
  have e1 : turnL (turnL l) = tabF l.length (l.getD 0 []).length fun k i => at2 (turnL l) i k := by
    show tabF ((turnL l).getD 0 []).length (turnL l).length _ = _
    rw [e0, turnL_length]
  rw [e1]
  have e2 : tabF l.length (l.getD 0 []).length (fun k i => at2 (turnL l) i k) = tabF l.length (l.getD 0 []).length (at2 l) := by
    unfold tabF
    refine List.map_congr_left fun r hr => List.map_congr_left fun k hk => ?_
    exact tabF_at _ _ _ _ _ (List.mem_range.1 hk) (List.mem_range.1 hr)
  rw [e2]
  exact tab_self rfl (fun r hr => hT.row hr)

end Go.Proofs.Ytcnbffflgodheaa
end

section
namespace Go.Proofs.Ytcnbffflgodheaa
open Go.RowKit Go.Deep

theorem selN_lt {s n i : Nat} (h : i < (sel s n n).length) : selN s n i < n := by
  unfold selN
  have e : ((sel s n n).map (·.1)).getD i 0 = ((sel s n n)[i]).1 := by simp [List.getD, h]
  rw [e]
  exact ((sel s n n)[i]).2
theorem has_turn {l : List (List Int)} {n m k : Nat} (hT : TabIn l) (hn : l.length = n) (hmm : (l.getD 0 []).length = m) (h : hasB l k (2 ^ n) (2 ^ m) = true) : hasB (turnL l) k (2 ^ m) (2 ^ n) = true := by
  have h6 := hT.2.1
  have hw := hT.width
  have p1 : 2 ^ n ≤ 2 ^ 6 := Nat.pow_le_pow_right (by omega) (by omega)
  have p2 : 2 ^ m ≤ 2 ^ 6 := Nat.pow_le_pow_right (by omega) (by omega)
  obtain ⟨r, c, ⟨r1, r2⟩, ⟨c1, c2⟩, hd⟩ := hasB_iff.1 h
  refine hasB_iff.2 ⟨c, r, ⟨c1, c2⟩, ⟨r1, r2⟩, ?_⟩
  have e0 : ((turnL l).getD 0 []).length = n := (tabF_len _ _ _ _ (by omega)).trans hn
  have e1 : (turnL l).length = m := (turnL_length l).trans hmm
  have g1 := popcS_sel ⟨n, by omega⟩ ⟨r, by omega⟩ r1
  have g2 := popcS_sel ⟨m, by omega⟩ ⟨c, by omega⟩ c1
  simp only at g1 g2
  have e : dt k (at2 (partL (turnL l) c r)) = dt k (fun i j => at2 (partL l r c) j i) := dt_congr k fun i j hi hj => by
    rw [partL_at (turnL l) c r (by rw [e1]; omega) (by rw [e0]; omega), partL_at l r c (by rw [hn]; omega) (by rw [hmm]; omega), e0, e1, hn, hmm]
    exact tabF_at _ _ _ _ _ (by rw [hmm]; exact selN_lt (by omega)) (by rw [hn]; exact selN_lt (by omega))
  rw [e, dt_turn]
  exact hd
theorem turn_turn {l : List (List Int)} (hT : TabIn l) : TabIn (turnL l) ∧ (turnL l).length = (l.getD 0 []).length ∧ ((turnL l).getD 0 []).length = l.length :=
  ⟨tabIn_of (tabIn_turn hT), turnL_length l, tabF_len _ _ _ _ (by have := hT.width; omega)⟩
theorem turnL_back {l : List (List Int)} {n m k : Nat} (hT : TabIn l) (hn : l.length = n) (hmm : (l.getD 0 []).length = m) (h : hasB (turnL l) k (2 ^ m) (2 ^ n) = true) : hasB l k (2 ^ n) (2 ^ m) = true := by
  obtain ⟨h1, h2, h3⟩ := turn_turn hT
  have := has_turn h1 (h2.trans hmm) (h3.trans hn) h
  rw [turnL_turnL hT] at this
  exact this
theorem rank_turn {l : List (List Int)} {n m : Nat} (hT : TabIn l) (hn : l.length = n) (hmm : (l.getD 0 []).length = m) : rkR (turnL l) (2 ^ n) (2 ^ m) = rkR l (2 ^ m) (2 ^ n) := by
  have h6 := hT.2.1
  have hw := hT.width
  obtain ⟨_, _, a3⟩ := rank_down (l := l) (n := n) (m := m) (by omega) (by omega)
  obtain ⟨_, _, b3⟩ := rank_down (l := turnL l) (n := m) (m := n) (by omega) (by omega)
  have q1 : rkR l (2 ^ m) (2 ^ n) ≤ rkR (turnL l) (2 ^ n) (2 ^ m) := by
    by_cases h0 : 1 ≤ rkR l (2 ^ m) (2 ^ n)
    · cases hb : hasB l (rkR l (2 ^ m) (2 ^ n)) (2 ^ n) (2 ^ m) with
      | false => exact absurd rfl ((a3 _ h0).2 hb)
      | true => exact (b3 _ h0).1 (has_turn hT hn hmm hb)
    · omega
  have q2 : rkR (turnL l) (2 ^ n) (2 ^ m) ≤ rkR l (2 ^ m) (2 ^ n) := by
    by_cases h0 : 1 ≤ rkR (turnL l) (2 ^ n) (2 ^ m)
    · cases hb : hasB (turnL l) (rkR (turnL l) (2 ^ n) (2 ^ m)) (2 ^ m) (2 ^ n) with
      | false => exact absurd rfl ((b3 _ h0).2 hb)
      | true => exact (a3 _ h0).1 (turnL_back hT hn hmm hb)
    · omega
  omega
theorem popc_full : ∀ n : Fin 7, ∀ s : Fin 64, s.val < 2 ^ n.val → popcS s.val = n.val → s.val = 2 ^ n.val - 1 := by decide +kernel
theorem popc_all : ∀ n : Fin 7, popcS (2 ^ n.val - 1) = n.val := by decide +kernel
theorem rank_full {l : List (List Int)} {n : Nat} (h : sqB l = true) (hn : l.length = n) : rkR l (2 ^ n) (2 ^ n) = n ↔ ordF l n n 0 ≠ 0 := by
  obtain ⟨hT, hw⟩ := sqB_of h
  have h6 := hT.2.1
  have h1 := hT.1
  have p1 : 2 ^ n ≤ 2 ^ 6 := Nat.pow_le_pow_right (by omega) (by omega)
  have q1 : 1 ≤ 2 ^ n := Nat.pow_pos (by omega)
  obtain ⟨a1, _, a3⟩ := rank_down (l := l) (n := n) (m := n) (by omega) (by omega)
  obtain ⟨c1, c2⟩ := a3 n (by omega)
  have hf : partL l (2 ^ n - 1) (2 ^ n - 1) = l := by
    have := partL_full hT.rec
    rw [← hw, hn] at this
    exact this
  rw [ordF_all _ (by omega)]
  have e : hasB l n (2 ^ n) (2 ^ n) = true ↔ dt n (at2 l) ≠ 0 := by
    rw [hasB_iff]
    constructor
    · rintro ⟨r, c, ⟨r1, r2⟩, ⟨s1, s2⟩, hd⟩
      have e1 := popc_full ⟨n, by omega⟩ ⟨r, by omega⟩ r1 r2
      have e2 := popc_full ⟨n, by omega⟩ ⟨c, by omega⟩ s1 s2
      simp only at e1 e2
      rw [e1, e2, hf] at hd
      exact hd
    · intro hd
      have e3 := popc_all ⟨n, by omega⟩
      exact ⟨2 ^ n - 1, 2 ^ n - 1, ⟨by omega, e3⟩, ⟨by omega, e3⟩, by rw [hf]; exact hd⟩
  constructor
  · intro hr
    cases hb : hasB l n (2 ^ n) (2 ^ n) with
    | false => exact absurd hr (c2 hb)
    | true => exact e.1 hb
  · intro hd
    have := c1 (e.2 hd)
    omega

end Go.Proofs.Ytcnbffflgodheaa
end

section
namespace Go.Proofs.Ytcnbffflgodheaa
open Go.RowKit Go.Deep

theorem popcS_but : ∀ n : Fin 7, ∀ k : Fin 6, k.val < n.val → popcS (2 ^ n.val - 1 - 2 ^ k.val) = n.val - 1 := by decide +kernel
theorem but_lt : ∀ n : Fin 7, ∀ k : Fin 6, k.val < n.val → 2 ^ n.val - 1 - 2 ^ k.val < 2 ^ n.val ∧ 2 ^ n.val - 1 - 2 ^ k.val ≤ 63 := by decide +kernel

def othF (l : List (List Int)) (n i k : Nat) : Int := sg (i + k) (ordF (partL l (2 ^ n - 1 - 2 ^ k) (2 ^ n - 1 - 2 ^ i)) (n - 1) (n - 1) 0)
def otherR (l : List (List Int)) (n i j : Nat) : List Int := (List.range j).map fun k => othF l n i k
theorem otherR_succ (l : List (List Int)) (n i j : Nat) : otherR l n i (j + 1) = otherR l n i j ++ [othF l n i j] := by simp [otherR, List.range_succ]
theorem otherR_length (l : List (List Int)) (n i j : Nat) : (otherR l n i j).length = j := by simp [otherR]
def otherTo (l : List (List Int)) (n r : Nat) : List (List Int) := (List.range r).map fun i => otherR l n i n
theorem otherTo_succ (l : List (List Int)) (n r : Nat) : otherTo l n (r + 1) = otherTo l n r ++ [otherR l n r n] := by simp [otherTo, List.range_succ]
theorem otherTo_length (l : List (List Int)) (n r : Nat) : (otherTo l n r).length = r := by simp [otherTo]
theorem otherTo_all (l : List (List Int)) (n : Nat) : otherTo l n n = tabF n n (othF l n) := rfl
theorem RB.later {wo wr w1 : World} {v : Value} {x : List Int} (h : RB wo wr v x) (hs : wr.Since wr.heap.size w1) : RB wo w1 v x :=
  ⟨h.since.trans (since_mono hs h.since.size), World.ownsRow.kept h.own (row := none) ⟨hs.os, hs.tape, hs.output, hs.size, fun k hk _ => hs.block k hk⟩ (by cases hv : v.ownBlock <;> simp)⟩

end Go.Proofs.Ytcnbffflgodheaa
end

section
namespace Go.Proofs.Ytcnbffflgodheaa
open Go.RowKit Go.Deep

def mv (r i : Nat) : Nat := if i = 0 then r else if i ≤ r then i - 1 else i
theorem mv_zero (i : Nat) : mv 0 i = i := by unfold mv; repeat (first | split | omega)
theorem mv_succ (r i : Nat) : ex r (r + 1) (mv r i) = mv (r + 1) i := by unfold mv ex; repeat (first | split | omega)
theorem mv_skip (r i : Nat) : mv r (i + 1) = skip r i := by unfold mv skip; repeat (first | split | omega)
theorem dt_mv {n : Nat} : ∀ (r : Nat) (f : Nat → Nat → Int), r < n → dt n (fun i j => f (mv r i) j) = sn r * dt n f
  | 0, f, _ => by
    rw [sn_zero, Int.one_mul]
    exact dt_congr n fun i j _ _ => by rw [mv_zero]
  | r + 1, f, h => by
    have e : (fun i j => f (mv (r + 1) i) j) = fun i j => (fun i j => f (ex r (r + 1) i) j) (mv r i) j := by
      funext i j
      show _ = f (ex r (r + 1) (mv r i)) j
      rw [mv_succ]
    rw [e, dt_mv r (fun i j => f (ex r (r + 1) i) j) (by omega), dt_exR f (by omega) (by omega) h, sn_succ]
    rw [Int.mul_neg, Int.neg_mul]
theorem dt_row {n r : Nat} (f : Nat → Nat → Int) (h : r < n + 1) : dt (n + 1) f = sumN (fun k => f r k * (sn (r + k) * dt n (fun i j => f (skip r i) (skip k j)))) (n + 1) := by
  have e := dt_mv r f h
  have e2 : sn r * (sn r * dt (n + 1) f) = dt (n + 1) f := by rw [← Int.mul_assoc, sn_sq, Int.one_mul]
  rw [← e2, ← e, dt_succ, ← sumN_mul]
  refine sumN_congr _ fun k _ => ?_
  have e3 : dr k (fun i j => f (mv r i) j) = fun i j => f (skip r i) (skip k j) := by
    funext i j
    show f (mv r (i + 1)) (skip k j) = _
    rw [mv_skip]
  rw [e3, sn_add]
  show sn r * (sn k * (f (mv r 0) k * _)) = _
  have e4 : mv r 0 = r := rfl
  rw [e4]
  grind
theorem dt_alien {n r s : Nat} (f : Nat → Nat → Int) (hr : r < n + 1) (hs : s < n + 1) : sumN (fun k => f s k * (sn (r + k) * dt n (fun i j => f (skip r i) (skip k j)))) (n + 1) = if s = r then dt (n + 1) f else 0 := by
  by_cases e : s = r
  · subst e
    rw [if_pos rfl, ← dt_row f hs]
  · rw [if_neg e, ← dt_sameR (n := n + 1) (setR f r (f s)) (p := s) (q := r) e hs hr (fun j _ => by unfold setR; rw [if_neg e, if_pos rfl]), dt_row _ hr]
    refine sumN_congr _ fun k _ => ?_
    have e3 : (fun i j => setR f r (f s) (skip r i) (skip k j)) = fun i j => f (skip r i) (skip k j) := by
      funext i j
      unfold setR
      rw [if_neg (by unfold skip; split <;> omega)]
    rw [e3]
    unfold setR
    rw [if_pos rfl]
theorem othF_dt {l : List (List Int)} {n i k : Nat} (hT : TabIn l) (hn : l.length = n) (hw : (l.getD 0 []).length = n) (hi : i < n) (hk : k < n) : othF l n i k = sn (k + i) * dt (n - 1) (fun a b => at2 l (skip k a) (skip i b)) := by
  have h6 := hT.2.1
  unfold othF
  rw [sg_sn, ordF_all _ (by omega), Nat.add_comm i k]
  congr 1
  exact dt_congr _ fun a b ha hb => partL_but hn hw (by omega) hk hi (by omega) (by omega)
theorem other_left {l : List (List Int)} {n i k : Nat} (hT : TabIn l) (hn : l.length = n) (hw : (l.getD 0 []).length = n) (hi : i < n) (hk : k < n) :
    sumN (fun j => at2 l i j * othF l n j k) n = if i = k then dt n (at2 l) else 0 := by
  obtain ⟨m, rfl⟩ : ∃ m, n = m + 1 := ⟨n - 1, by omega⟩
  rw [← dt_alien (at2 l) hk hi]
  exact sumN_congr _ fun j hj => by rw [othF_dt hT hn hw hj hk]; rfl
theorem other_right {l : List (List Int)} {n i k : Nat} (hT : TabIn l) (hn : l.length = n) (hw : (l.getD 0 []).length = n) (hi : i < n) (hk : k < n) :
    sumN (fun j => othF l n i j * at2 l j k) n = if i = k then dt n (at2 l) else 0 := by
  obtain ⟨m, rfl⟩ : ∃ m, n = m + 1 := ⟨n - 1, by omega⟩
  have h := dt_alien (fun a b => at2 l b a) (r := i) (s := k) hi hk
  rw [dt_turn] at h
  have e : (if i = k then dt (m + 1) (at2 l) else 0) = if k = i then dt (m + 1) (at2 l) else 0 := by
    by_cases e : i = k
    · rw [if_pos e, if_pos e.symm]
    · rw [if_neg e, if_neg (fun h => e h.symm)]
  rw [e, ← h]
  refine sumN_congr _ fun j hj => ?_
  rw [othF_dt hT hn hw hi hj, Nat.add_comm j i, Int.mul_comm]
  show at2 l j k * _ = at2 l j k * (sn (i + j) * dt m (fun a b => at2 l (skip j b) (skip i a)))
  rw [← dt_turn m (fun a b => at2 l (skip j b) (skip i a))]
  rfl
theorem othF_bd {l : List (List Int)} {n i k : Nat} (hT : TabIn l) (hn : l.length = n) (hw : (l.getD 0 []).length = n) (hi : i < n) (hk : k < n) : -10000000000 ≤ othF l n i k ∧ othF l n i k ≤ 10000000000 := by
  have h6 := hT.2.1
  rw [othF_dt hT hn hw hi hk, ← sg_sn]
  refine sg_bd ?_
  have hb := dt_bd (n - 1) (fun a b => at2 l (skip k a) (skip i b)) (by omega) (fun a b ha hb => hT.at (by have := skip_bd (k := k) ha; omega) (by have := skip_bd (k := i) hb; omega))
  have hB : bdN (n - 1) ≤ 10000000000 := by
    have : n - 1 ≤ 5 := by omega
    match n - 1, this with
    | 0, _ => decide
    | 1, _ => decide
    | 2, _ => decide
    | 3, _ => decide
    | 4, _ => decide
    | 5, _ => decide
  omega
theorem rec_tabF {n m : Nat} (f : Nat → Nat → Int) (hn : 1 ≤ n ∧ n ≤ 6) (hm : 1 ≤ m ∧ m ≤ 6) : Rec (tabF n m f) := by
  have h0 : ((tabF n m f).getD 0 []).length = m := tabF_len _ _ _ _ (by omega)
  exact ⟨by rw [tabF_length]; omega, by rw [tabF_length]; omega, by rw [h0]; exact hm, fun hr => by rw [h0]; rw [tabF_length] at hr; exact tabF_len _ _ _ _ hr⟩
structure OtherM (l M : List (List Int)) (n : Nat) (v : Int) : Prop where
  len : M.length = n
  wid : (M.getD 0 []).length = n
  rec1 : Rec M
  b1 : ∀ i j k, i < n → j < n → k < (M.getD 0 []).length → -1000000000000 ≤ at2 l i j * at2 M j k ∧ at2 l i j * at2 M j k ≤ 1000000000000
  b2 : ∀ i j k, i < n → j < n → k < (l.getD 0 []).length → -1000000000000 ≤ at2 M i j * at2 l j k ∧ at2 M i j * at2 l j k ≤ 1000000000000
  l1 : (makeL l M).length = n
  l2 : (makeL M l).length = n
  w1 : ((makeL l M).getD 0 []).length = n
  w2 : ((makeL M l).getD 0 []).length = n
  r1 : Rec (makeL l M)
  r2 : Rec (makeL M l)
  e1 : ∀ i k, i < n → k < n → at2 (makeL l M) i k = if i = k then v else 0
  e2 : ∀ i k, i < n → k < n → at2 (makeL M l) i k = if i = k then v else 0
theorem otherM_of {l : List (List Int)} {n : Nat} (h : sqB l = true) (hn : l.length = n) : OtherM l (tabF n n (othF l n)) n (ordF l n n 0) := by
  obtain ⟨hT, hw⟩ := sqB_of h
  have h1 := hT.1
  have h6 := hT.2.1
  have hwn : (l.getD 0 []).length = n := by omega
  have hl : (tabF n n (othF l n)).length = n := tabF_length _ _ _
  have hmw : ((tabF n n (othF l n)).getD 0 []).length = n := tabF_len _ _ _ _ (by omega)
  have hat : ∀ i j, i < n → j < n → at2 (tabF n n (othF l n)) i j = othF l n i j := fun i j hi hj => tabF_at _ _ _ i j hi hj
  have hp : ∀ i j k, i < n → j < n → k < n → -1000000000000 ≤ at2 l i j * othF l n j k ∧ at2 l i j * othF l n j k ≤ 1000000000000 := fun i j k hi hj hk => by
    have b := hT.at (i := i) (k := j) (by omega) (by omega)
    have c := othF_bd hT hn hwn hj hk
    have := mul_bdB b.1 b.2 c.1 c.2
    omega
  have hp2 : ∀ i j k, i < n → j < n → k < n → -1000000000000 ≤ othF l n i j * at2 l j k ∧ othF l n i j * at2 l j k ≤ 1000000000000 := fun i j k hi hj hk => by
    have b := hT.at (i := j) (k := k) (by omega) (by omega)
    have c := othF_bd hT hn hwn hi hj
    have := mul_bdB b.1 b.2 c.1 c.2
    rw [Int.mul_comm]
    omega
  have g1 : 1 ≤ n ∧ n ≤ 6 := by omega
  have q1 : makeL l (tabF n n (othF l n)) = tabF n n fun i k => sumN (dotF l (tabF n n (othF l n)) i k) n := by unfold makeL; rw [hn, hl, hmw]
  have q2 : makeL (tabF n n (othF l n)) l = tabF n n fun i k => sumN (dotF (tabF n n (othF l n)) l i k) n := by unfold makeL; rw [hn, hl, hwn]
  refine ⟨hl, hmw, rec_tabF _ g1 g1, fun i j k hi hj hk => ?_, fun i j k hi hj hk => ?_, by rw [q1, tabF_length], by rw [q2, tabF_length], by rw [q1]; exact tabF_len _ _ _ _ (by omega), by rw [q2]; exact tabF_len _ _ _ _ (by omega), by rw [q1]; exact rec_tabF _ g1 g1, by rw [q2]; exact rec_tabF _ g1 g1, fun i k hi hk => ?_, fun i k hi hk => ?_⟩
  · rw [hmw] at hk
    rw [hat j k hj hk]
    exact hp i j k hi hj hk
  · rw [hwn] at hk
    rw [hat i j hi hj]
    exact hp2 i j k hi hj hk
  · rw [q1, show at2 (tabF n n fun i k => sumN (dotF l (tabF n n (othF l n)) i k) n) i k = sumN (dotF l (tabF n n (othF l n)) i k) n from tabF_at _ _ _ i k hi hk, ordF_all _ (by omega), ← other_left hT hn hwn hi hk]
    exact sumN_congr _ fun j hj => by show at2 l i j * at2 _ j k = _; rw [hat j k hj hk]
  · rw [q2, show at2 (tabF n n fun i k => sumN (dotF (tabF n n (othF l n)) l i k) n) i k = sumN (dotF (tabF n n (othF l n)) l i k) n from tabF_at _ _ _ i k hi hk, ordF_all _ (by omega), ← other_right hT hn hwn hi hk]
    exact sumN_congr _ fun j hj => by show at2 _ i j * at2 l j k = _; rw [hat i j hi hj]

end Go.Proofs.Ytcnbffflgodheaa
end

section
namespace Go.Proofs.Ytcnbffflgodheaa
open Go.RowKit Go.Deep

theorem sumN_some {f : Nat → Int} {n : Nat} (h : sumN f n ≠ 0) : ∃ i, i < n ∧ f i ≠ 0 :=
  Classical.byContradiction fun hno => h (sumN_none n fun j hj => Classical.byContradiction fun h2 => hno ⟨j, hj, h2⟩)
theorem dt_sumR {k r : Nat} (f : Nat → Nat → Int) (c : Nat → Int) (u : Nat → Nat → Int) (hr : r < k) : ∀ N, dt k (setR f r (fun j => sumN (fun m => c m * u m j) N)) = sumN (fun m => c m * dt k (setR f r (u m))) N
  | 0 => by
    have e := dt_lin k r f 0 0 (u 0) (u 0) hr
    rw [dt_congr k (g := setR f r (fun j => 0 * u 0 j + 0 * u 0 j)) (fun i j _ _ => by unfold setR; split <;> simp [sumN]), e]
    simp [sumN]
  | N + 1 => by
    have e := dt_lin k r f 1 (c N) (fun j => sumN (fun m => c m * u m j) N) (u N) hr
    rw [dt_congr k (g := setR f r (fun j => 1 * sumN (fun m => c m * u m j) N + c N * u N j)) (fun i j _ _ => by
      unfold setR
      split
      · have e2 : sumN (fun m => c m * u m j) (N + 1) = sumN (fun m => c m * u m j) N + c N * u N j := rfl
        dsimp only
        rw [e2]; omega
      · rfl), e, dt_sumR f c u hr N]
    have e3 : sumN (fun m => c m * dt k (setR f r (u m))) (N + 1) = sumN (fun m => c m * dt k (setR f r (u m))) N + c N * dt k (setR f r (u N)) := rfl
    rw [e3]
    omega

theorem dt_pickR {k N : Nat} (X Y : Nat → Nat → Int) (h : dt k (fun i j => sumN (fun m => X i m * Y m j) N) ≠ 0) : ∃ g : Nat → Nat, (∀ i, i < k → g i < N) ∧ dt k (fun i j => Y (g i) j) ≠ 0 := by
  have key : ∀ q, q ≤ k → ∃ g : Nat → Nat, (∀ i, i < q → g i < N) ∧ dt k (fun i j => if i < q then Y (g i) j else sumN (fun m => X i m * Y m j) N) ≠ 0 := by
    intro q
    induction q with
    | zero => exact fun _ => ⟨fun _ => 0, fun i hi => absurd hi (Nat.not_lt_zero _), by rw [dt_congr k (g := fun i j => sumN (fun m => X i m * Y m j) N) (fun i j _ _ => if_neg (Nat.not_lt_zero _))]; exact h⟩
    | succ q ih =>
      intro hq
      obtain ⟨g, hg, hd⟩ := ih (by omega)
      obtain ⟨M, hM⟩ : ∃ M : Nat → Nat → Int, M = fun i j => if i < q then Y (g i) j else sumN (fun m => X i m * Y m j) N := ⟨_, rfl⟩
      rw [← hM] at hd
      have e : dt k M = dt k (setR M q (fun j => sumN (fun m => X q m * Y m j) N)) := dt_congr k fun i j _ _ => by
        unfold setR
        split
        · rename_i hi; rw [hM, hi]; exact if_neg (Nat.lt_irrefl _)
        · rfl
      rw [e, dt_sumR M (X q) Y (by omega)] at hd
      obtain ⟨m, hm, hd2⟩ := sumN_some hd
      refine ⟨fun i => if i = q then m else g i, fun i hi => ?_, ?_⟩
      · show (if i = q then m else g i) < N
        split
        · exact hm
        · exact hg i (by omega)
      · rw [dt_congr k (g := setR M q (Y m)) (fun i j _ _ => by
          unfold setR
          dsimp only
          by_cases hi : i = q
          · rw [if_pos (by omega), if_pos hi, if_pos hi]
          · rw [if_neg hi, if_neg hi, hM]
            by_cases h2 : i < q
            · rw [if_pos (by omega)]; exact (if_pos h2).symm
            · rw [if_neg (by omega)]; exact (if_neg h2).symm)]
        exact fun h0 => hd2 (by rw [h0, Int.mul_zero])
  obtain ⟨g, hg, hd⟩ := key k (Nat.le_refl _)
  exact ⟨g, hg, by rw [dt_congr k (g := fun i j => if i < k then Y (g i) j else sumN (fun m => X i m * Y m j) N) (fun i j hi _ => (if_pos hi).symm)]; exact hd⟩
theorem mul_right_some {k n : Nat} {X Y : Nat → Nat → Int} {R C : Nat → Nat} (h : dt k (fun i j => mulF n X Y (R i) (C j)) ≠ 0) : ∃ g : Nat → Nat, (∀ i, i < k → g i < n) ∧ dt k (fun i j => Y (g i) (C j)) ≠ 0 :=
  dt_pickR (fun i m => X (R i) m) (fun m j => Y m (C j)) h
theorem mul_left_some {k n : Nat} {X Y : Nat → Nat → Int} {R C : Nat → Nat} (h : dt k (fun i j => mulF n X Y (R i) (C j)) ≠ 0) : ∃ g : Nat → Nat, (∀ i, i < k → g i < n) ∧ dt k (fun i j => X (R i) (g j)) ≠ 0 := by
  rw [← dt_turn] at h
  obtain ⟨g, hg, hd⟩ := dt_pickR (fun i m => Y m (C i)) (fun m j => X (R j) m) (by
    rw [dt_congr k (g := fun i j => mulF n X Y (R j) (C i)) (fun i j _ _ => sumN_congr n fun m _ => Int.mul_comm _ _)]
    exact h)
  rw [← dt_turn] at hd
  exact ⟨g, hg, hd⟩

theorem dt_someRC {k r : Nat} (M : Nat → Nat → Int) (h : dt (k + 1) M ≠ 0) (hr : r < k + 1) : ∃ c, c < k + 1 ∧ dt k (fun i j => M (skip r i) (skip c j)) ≠ 0 := by
  rw [dt_row M hr] at h
  obtain ⟨c, hc, hd⟩ := sumN_some h
  exact ⟨c, hc, fun h0 => hd (by rw [h0, Int.mul_zero, Int.mul_zero])⟩
theorem dt_zeroR {k r : Nat} (M : Nat → Nat → Int) (hr : r < k) (h : ∀ j, j < k → M r j = 0) : dt k M = 0 := by
  obtain ⟨m, rfl⟩ : ∃ m, k = m + 1 := ⟨k - 1, by omega⟩
  rw [dt_row M hr]
  exact sumN_none _ fun j hj => by rw [h j hj, Int.zero_mul]
theorem dt_zeroC {k c : Nat} (M : Nat → Nat → Int) (hc : c < k) (h : ∀ i, i < k → M i c = 0) : dt k M = 0 := by
  rw [← dt_turn]
  exact dt_zeroR (fun i j => M j i) hc h

theorem low_rows (M : Nat → Nat → Int) : ∀ (v k : Nat) (g h : Nat → Nat), dt k (fun i j => M (g i) (h j)) ≠ 0 →
    ∃ (t : Nat) (g' h' : Nat → Nat), k ≤ t + v ∧ (∀ i, i < t → v ≤ g' i ∧ ∃ i0, i0 < k ∧ g' i = g i0) ∧ (∀ j, j < t → ∃ j0, j0 < k ∧ h' j = h j0) ∧ dt t (fun i j => M (g' i) (h' j)) ≠ 0
  | 0, k, g, h, hd => ⟨k, g, h, by omega, fun i hi => ⟨Nat.zero_le _, i, hi, rfl⟩, fun j hj => ⟨j, hj, rfl⟩, hd⟩
  | v + 1, k, g, h, hd => by
    obtain ⟨t, g', h', h1, h2, h3, h4⟩ := low_rows M v k g h hd
    by_cases hex : ∃ i0, i0 < t ∧ g' i0 = v
    · obtain ⟨i0, hi0, hv⟩ := hex
      obtain ⟨t1, rfl⟩ : ∃ t1, t = t1 + 1 := ⟨t - 1, by omega⟩
      obtain ⟨c, hc, hd2⟩ := dt_someRC (fun i j => M (g' i) (h' j)) h4 hi0
      refine ⟨t1, fun i => g' (skip i0 i), fun j => h' (skip c j), by omega, fun i hi => ?_, fun j hj => h3 _ (skip_bd hj), hd2⟩
      have hs := skip_bd (k := i0) hi
      obtain ⟨a1, a2⟩ := h2 _ hs
      refine ⟨?_, a2⟩
      have hne : g' (skip i0 i) ≠ g' i0 := fun e => h4 (dt_sameR (fun i j => M (g' i) (h' j)) (p := skip i0 i) (q := i0) (by unfold skip; split <;> omega) hs hi0 (fun j _ => by show M (g' _) _ = M (g' _) _; rw [e]))
      show v + 1 ≤ g' (skip i0 i)
      omega
    · refine ⟨t, g', h', by omega, fun i hi => ?_, h3, h4⟩
      obtain ⟨a1, a2⟩ := h2 i hi
      exact ⟨by have : g' i ≠ v := fun e => hex ⟨i, hi, e⟩
                omega, a2⟩

def sylR (n b : Nat) (A B : Nat → Nat → Int) (R C : Nat → Nat) (i j : Nat) : Int := if i < n then (if j < b then B i (C j) else if i = j - b then 1 else 0) else (if j < b then -(mulF n A B (R (i - n)) (C j)) else 0)
def sylP (n : Nat) (A : Nat → Nat → Int) (R : Nat → Nat) (i m : Nat) : Int := if i < n then (if i = m then 1 else 0) else (if m < n then A (R (i - n)) m else if i = m then 1 else 0)
theorem syl_top {n a b : Nat} {A B : Nat → Nat → Int} {R C : Nat → Nat} {i j : Nat} (hi : i < n) : mulF (n + a) (sylP n A R) (sylR n b A B R C) i j = sylR n b A B R C i j := by
  unfold mulF
  rw [sumN_one _ i (n + a) (by omega) (fun m _ hm => by unfold sylP; rw [if_pos hi, if_neg (fun e => hm e.symm), Int.zero_mul])]
  unfold sylP
  rw [if_pos hi, if_pos rfl, Int.one_mul]
theorem sumN_splitM (f : Nat → Int) (n : Nat) : ∀ m, sumN f (n + m) = sumN f n + sumN (fun j => f (n + j)) m
  | 0 => by simp [sumN]
  | m + 1 => by
    show sumN f (n + m) + f (n + m) = sumN f n + (sumN (fun j => f (n + j)) m + f (n + m))
    rw [sumN_splitM f n m]; omega
theorem syl_low {n a b : Nat} {A B : Nat → Nat → Int} {R C : Nat → Nat} {i j : Nat} (hi : i < a) : mulF (n + a) (sylP n A R) (sylR n b A B R C) (n + i) j = sumN (fun m => A (R i) m * sylR n b A B R C m j) n + sylR n b A B R C (n + i) j := by
  unfold mulF
  rw [sumN_splitM, sumN_one (fun q => sylP n A R (n + i) (n + q) * sylR n b A B R C (n + q) j) i a hi (fun m _ hm => by
    unfold sylP; rw [if_neg (by omega), if_neg (by omega), if_neg (by omega), Int.zero_mul])]
  congr 1
  · exact sumN_congr n fun m hm => by unfold sylP; rw [if_neg (by omega), if_pos hm, show n + i - n = i by omega]
  · unfold sylP; rw [if_neg (by omega), if_neg (by omega), if_pos rfl, Int.one_mul]
theorem syl_low0 {n a b : Nat} {A B : Nat → Nat → Int} {R C : Nat → Nat} {i j : Nat} (hi : i < a) (hj : j < b) : mulF (n + a) (sylP n A R) (sylR n b A B R C) (n + i) j = 0 := by
  rw [syl_low hi]
  have e : sumN (fun m => A (R i) m * sylR n b A B R C m j) n = mulF n A B (R i) (C j) := sumN_congr n fun m hm => by unfold sylR; rw [if_pos hm, if_pos hj]
  rw [e]
  unfold sylR
  rw [if_neg (by omega), if_pos hj, show n + i - n = i by omega]
  omega
theorem syl_low1 {n a b : Nat} {A B : Nat → Nat → Int} {R C : Nat → Nat} {i j : Nat} (hi : i < a) (hj : j < n) : mulF (n + a) (sylP n A R) (sylR n b A B R C) (n + i) (b + j) = A (R i) j := by
  rw [syl_low hi, sumN_one _ j n hj (fun m hm hmj => by unfold sylR; rw [if_pos hm, if_neg (by omega), if_neg (by omega), Int.mul_zero])]
  unfold sylR
  rw [if_pos hj, if_neg (by omega), if_pos (by omega), if_neg (by omega), if_neg (by omega)]
  omega

theorem syl_rank {A B : Nat → Nat → Int} {n a b : Nat} {R J K C : Nat → Nat} (hJ : ∀ j, j < a → J j < n) (hK : ∀ i, i < b → K i < n) (hA : dt a (fun i j => A (R i) (J j)) ≠ 0) (hB : dt b (fun i j => B (K i) (C j)) ≠ 0) :
    ∃ (t : Nat) (g h : Nat → Nat), a + b ≤ t + n ∧ (∀ i, i < t → g i < a) ∧ (∀ j, j < t → h j < b) ∧ dt t (fun i j => mulF n A B (R (g i)) (C (h j))) ≠ 0 := by
  obtain ⟨ρ, hρ⟩ : ∃ ρ : Nat → Nat, ρ = fun i => if i < b then K i else n + (i - b) := ⟨_, rfl⟩
  obtain ⟨γ, hγ⟩ : ∃ γ : Nat → Nat, γ = fun j => if j < b then j else b + J (j - b) := ⟨_, rfl⟩
  have r1 : ∀ i, i < b → ρ i = K i := fun i hi => by rw [hρ]; exact if_pos hi
  have r2 : ∀ i, ρ (b + i) = n + i := fun i => by rw [hρ]; show (if b + i < b then _ else _) = _; rw [if_neg (by omega)]; omega
  have c1 : ∀ j, j < b → γ j = j := fun j hj => by rw [hγ]; exact if_pos hj
  have c2 : ∀ j, γ (b + j) = b + J j := fun j => by rw [hγ]; show (if b + j < b then _ else b + J (b + j - b)) = _; rw [if_neg (by omega), show b + j - b = j by omega]
  have hdet : dt (b + a) (fun i j => mulF (n + a) (sylP n A R) (sylR n b A B R C) (ρ i) (γ j)) = dt b (fun i j => B (K i) (C j)) * dt a (fun i j => A (R i) (J j)) := by
    rw [← dt_turn, dt_block a b _ (fun i j hi hj hN => by
      obtain ⟨j', rfl⟩ : ∃ j', j = b + j' := ⟨j - b, by omega⟩
      rw [r2, c1 i hi]
      exact syl_low0 (by omega) hi)]
    rw [← dt_turn b (fun i j => B (K i) (C j)), ← dt_turn a (fun i j => A (R i) (J j))]
    congr 1
    · exact dt_congr b fun i j hi hj => by
        rw [r1 j hj, c1 i hi, syl_top (hK j hj)]
        unfold sylR
        rw [if_pos (hK j hj), if_pos hi]
    · exact dt_congr a fun i j hi hj => by
        rw [r2, c2]
        exact syl_low1 hj (hJ i hi)
  obtain ⟨g, hg, hd⟩ := mul_right_some (n := n + a) (X := sylP n A R) (Y := sylR n b A B R C) (R := ρ) (C := γ) (k := b + a) (by rw [hdet]; exact Int.mul_ne_zero hB hA)
  obtain ⟨t, g', h', e1, e2, e3, e4⟩ := low_rows (sylR n b A B R C) n (b + a) g γ hd
  have hg' : ∀ i, i < t → n ≤ g' i ∧ g' i < n + a := fun i hi => by
    obtain ⟨x1, i0, x2, x3⟩ := e2 i hi
    have := hg i0 x2
    omega
  have hcol : ∀ j, j < t → h' j < b := fun j hj => Classical.byContradiction fun hno => e4 (dt_zeroC _ hj fun i hi => by
    have := hg' i hi
    show sylR n b A B R C (g' i) (h' j) = 0
    unfold sylR
    rw [if_neg (by omega), if_neg hno])
  refine ⟨t, fun i => g' i - n, h', by omega, fun i hi => by have := hg' i hi; show g' i - n < a; omega, hcol, fun h0 => e4 ?_⟩
  rw [dt_congr t (g := fun i j => (-1) * mulF n A B (R (g' i - n)) (C (h' j))) (fun i j hi hj => by
    have := hg' i hi
    unfold sylR
    rw [if_neg (by omega), if_pos (hcol j hj)]
    omega), dt_scale, h0, Int.mul_zero]

theorem add_bit : ∀ s : Fin 64, ∀ x : Fin 6, s.val.testBit x.val = false → popcS (s.val + 2 ^ x.val) = popcS s.val + 1 ∧ s.val + 2 ^ x.val < 64 ∧ (∀ y : Fin 6, (s.val + 2 ^ x.val).testBit y.val = (s.val.testBit y.val || decide (y = x))) := by decide +kernel
theorem in_pow : ∀ n : Fin 7, ∀ s : Fin 64, (∀ y : Fin 6, s.val.testBit y.val = true → y.val < n.val) → s.val < 2 ^ n.val := by decide +kernel
theorem selN_in : ∀ n : Fin 7, ∀ s : Fin 64, s.val < 2 ^ n.val → ∀ y : Fin 6, s.val.testBit y.val = true → ∃ i : Fin 6, i.val < popcS s.val ∧ selN s.val n.val i.val = y.val := by decide +kernel
theorem selN_inj : ∀ n : Fin 7, ∀ s : Fin 64, s.val < 2 ^ n.val → ∀ i j : Fin 6, i.val < popcS s.val → j.val < popcS s.val → selN s.val n.val i.val = selN s.val n.val j.val → i = j := by decide +kernel

theorem set_of {n : Nat} (hn : n ≤ 6) (R : Nat → Nat) : ∀ k, (∀ i, i < k → R i < n) → (∀ i j, i < k → j < k → R i = R j → i = j) → ∃ s, s < 64 ∧ popcS s = k ∧ (∀ i, i < k → s.testBit (R i) = true) ∧ ∀ y, y < 6 → s.testBit y = true → ∃ i, i < k ∧ R i = y
  | 0, _, _ => ⟨0, by omega, by decide, fun i hi => absurd hi (Nat.not_lt_zero _), fun y _ h => by simp at h⟩
  | k + 1, h1, h2 => by
    obtain ⟨s, s1, s2, s3, s4⟩ := set_of hn R k (fun i hi => h1 i (by omega)) (fun i j hi hj e => h2 i j (by omega) (by omega) e)
    have hk := h1 k (by omega)
    have hb : s.testBit (R k) = false := by
      cases hb : s.testBit (R k) with
      | false => rfl
      | true =>
        obtain ⟨i, hi, e⟩ := s4 (R k) (by omega) hb
        have := h2 i k (by omega) (by omega) e
        omega
    obtain ⟨a1, a2, a3⟩ := add_bit ⟨s, s1⟩ ⟨R k, by omega⟩ hb
    simp only at a1 a2 a3
    refine ⟨s + 2 ^ R k, a2, by omega, fun i hi => ?_, fun y hy h => ?_⟩
    · have hi6 := h1 i hi
      have := a3 ⟨R i, by omega⟩
      simp only at this
      rw [this]
      by_cases e : i = k
      · subst e; simp
      · rw [s3 i (by omega)]; simp
    · have := a3 ⟨y, hy⟩
      simp only at this
      rw [this, Bool.or_eq_true] at h
      rcases h with h | h
      · obtain ⟨i, hi, e⟩ := s4 y hy h
        exact ⟨i, by omega, e⟩
      · have e : (⟨y, hy⟩ : Fin 6) = ⟨R k, by omega⟩ := of_decide_eq_true h
        injection e with e
        exact ⟨k, by omega, e.symm⟩

theorem rows_set {n k : Nat} (hn : n ≤ 6) (f : Nat → Nat → Int) (R : Nat → Nat) (hR : ∀ i, i < k → R i < n) (h : dt k (fun i j => f (R i) j) ≠ 0) : ∃ s, s < 2 ^ n ∧ popcS s = k ∧ dt k (fun i j => f (selN s n i) j) ≠ 0 := by
  have hinj : ∀ i j, i < k → j < k → R i = R j → i = j := fun i j hi hj e => Classical.byContradiction fun hne => h (dt_sameR (fun i j => f (R i) j) hne hi hj (fun q _ => by show f (R i) q = f (R j) q; rw [e]))
  obtain ⟨s, s1, s2, s3, s4⟩ := set_of hn R k hR hinj
  have hs := in_pow ⟨n, by omega⟩ ⟨s, s1⟩ (fun y hy => by
    obtain ⟨i, hi, e⟩ := s4 y.val y.2 hy
    have := hR i hi
    show y.val < n
    omega)
  have hk6 := popcS_le s
  have hin : ∀ i, i < k → ∃ q, q < k ∧ selN s n q = R i := fun i hi => by
    have := hR i hi
    obtain ⟨q, q1, q2⟩ := selN_in ⟨n, by omega⟩ ⟨s, s1⟩ hs ⟨R i, by omega⟩ (s3 i hi)
    simp only at q1 q2
    exact ⟨q.val, by omega, q2⟩
  have hsj : ∀ i j, i < k → j < k → selN s n i = selN s n j → i = j := fun i j hi hj e => by
    have := selN_inj ⟨n, by omega⟩ ⟨s, s1⟩ hs ⟨i, by omega⟩ ⟨j, by omega⟩ (by show i < popcS s; omega) (by show j < popcS s; omega) e
    injection this
  refine ⟨s, hs, s2, fun h0 => h ?_⟩
  have e : dt k (fun i j => f (R i) j) = dt k (mulF k (fun i q => if R i = selN s n q then 1 else 0) (fun q j => f (selN s n q) j)) := dt_congr k fun i j hi hj => by
    obtain ⟨q, hq, e⟩ := hin i hi
    unfold mulF
    dsimp only
    rw [sumN_one _ q k hq (fun p hp hpq => by rw [if_neg (fun e2 => hpq (hsj p q hp hq (by rw [e, ← e2]))), Int.zero_mul]), if_pos e.symm, Int.one_mul, e]
  rw [e, dt_mul, h0, Int.mul_zero]

theorem rank_fun {l : List (List Int)} {n m k : Nat} (hT : TabIn l) (hn : l.length = n) (hm : (l.getD 0 []).length = m) {R C : Nat → Nat} (hR : ∀ i, i < k → R i < n) (hC : ∀ j, j < k → C j < m) (h : dt k (fun i j => at2 l (R i) (C j)) ≠ 0) : k ≤ rkR l (2 ^ m) (2 ^ n) := by
  have h6 := hT.2.1
  have hw := hT.width
  rw [hn] at h6
  rw [hm] at hw
  obtain ⟨r, r1, r2, hd⟩ := rows_set h6 (fun x j => at2 l x (C j)) R hR h
  rw [← dt_turn] at hd
  obtain ⟨c, c1, c2, hd2⟩ := rows_set hw.2 (fun y i => at2 l (selN r n i) y) C hC hd
  rw [← dt_turn] at hd2
  by_cases h0 : 1 ≤ k
  · obtain ⟨_, _, a3⟩ := rank_down (l := l) (n := n) (m := m) h6 hw.2
    have p1 : 2 ^ n ≤ 2 ^ 6 := Nat.pow_le_pow_right (by omega) h6
    have p2 : 2 ^ m ≤ 2 ^ 6 := Nat.pow_le_pow_right (by omega) hw.2
    have g1 := popcS_sel ⟨n, by omega⟩ ⟨r, by omega⟩ r1
    have g2 := popcS_sel ⟨m, by omega⟩ ⟨c, by omega⟩ c1
    simp only at g1 g2
    refine (a3 k h0).1 (hasB_iff.2 ⟨r, c, ⟨r1, r2⟩, ⟨c1, c2⟩, ?_⟩)
    rw [dt_congr k (g := fun i j => at2 l (selN r n i) (selN c m j)) (fun i j hi hj => by
      rw [partL_at l r c (by rw [hn]; omega) (by rw [hm]; omega), hn, hm])]
    exact hd2
  · omega
theorem rank_fun_of {l : List (List Int)} {n m : Nat} (hT : TabIn l) (hn : l.length = n) (hm : (l.getD 0 []).length = m) : ∃ R C : Nat → Nat, (∀ i, i < rkR l (2 ^ m) (2 ^ n) → R i < n) ∧ (∀ j, j < rkR l (2 ^ m) (2 ^ n) → C j < m) ∧ dt (rkR l (2 ^ m) (2 ^ n)) (fun i j => at2 l (R i) (C j)) ≠ 0 := by
  have h6 := hT.2.1
  have hw := hT.width
  rw [hn] at h6
  rw [hm] at hw
  by_cases h0 : 1 ≤ rkR l (2 ^ m) (2 ^ n)
  · obtain ⟨_, _, a3⟩ := rank_down (l := l) (n := n) (m := m) h6 hw.2
    cases hb : hasB l (rkR l (2 ^ m) (2 ^ n)) (2 ^ n) (2 ^ m) with
    | false => exact absurd rfl ((a3 _ h0).2 hb)
    | true =>
      obtain ⟨r, c, ⟨r1, r2⟩, ⟨c1, c2⟩, hd⟩ := hasB_iff.1 hb
      have p1 : 2 ^ n ≤ 2 ^ 6 := Nat.pow_le_pow_right (by omega) h6
      have p2 : 2 ^ m ≤ 2 ^ 6 := Nat.pow_le_pow_right (by omega) hw.2
      have g1 := popcS_sel ⟨n, by omega⟩ ⟨r, by omega⟩ r1
      have g2 := popcS_sel ⟨m, by omega⟩ ⟨c, by omega⟩ c1
      simp only at g1 g2
      refine ⟨selN r n, selN c m, fun i hi => selN_lt (by omega), fun j hj => selN_lt (by omega), ?_⟩
      rw [dt_congr _ (g := at2 (partL l r c)) (fun i j hi hj => by
        rw [partL_at l r c (by rw [hn]; omega) (by rw [hm]; omega), hn, hm])]
      exact hd
  · have e : rkR l (2 ^ m) (2 ^ n) = 0 := by omega
    rw [e]
    exact ⟨fun _ => 0, fun _ => 0, fun i hi => absurd hi (Nat.not_lt_zero _), fun i hi => absurd hi (Nat.not_lt_zero _), by rw [dt_zero]; omega⟩

theorem rank_mul {l u M : List (List Int)} {p n q : Nat} (hT : TabIn l) (hU : TabIn u) (hM : TabIn M) (hl : l.length = p) (hlw : (l.getD 0 []).length = n) (hu : u.length = n) (huw : (u.getD 0 []).length = q) (hMl : M.length = p) (hMw : (M.getD 0 []).length = q)
    (hat : ∀ i j, i < p → j < q → at2 M i j = mulF n (at2 l) (at2 u) i j) :
    rkR M (2 ^ q) (2 ^ p) ≤ rkR l (2 ^ n) (2 ^ p) ∧ rkR M (2 ^ q) (2 ^ p) ≤ rkR u (2 ^ q) (2 ^ n) ∧ rkR l (2 ^ n) (2 ^ p) + rkR u (2 ^ q) (2 ^ n) ≤ rkR M (2 ^ q) (2 ^ p) + n := by
  obtain ⟨R, C, hR, hC, hd⟩ := rank_fun_of hM hMl hMw
  have hd' : dt (rkR M (2 ^ q) (2 ^ p)) (fun i j => mulF n (at2 l) (at2 u) (R i) (C j)) ≠ 0 := by
    rw [dt_congr _ (g := fun i j => at2 M (R i) (C j)) (fun i j hi hj => (hat _ _ (hR i hi) (hC j hj)).symm)]
    exact hd
  refine ⟨?_, ?_, ?_⟩
  · obtain ⟨g, hg, h⟩ := mul_left_some hd'
    exact rank_fun hT hl hlw hR hg h
  · obtain ⟨g, hg, h⟩ := mul_right_some hd'
    exact rank_fun hU hu huw hg hC h
  · obtain ⟨R1, J, a1, a2, a3⟩ := rank_fun_of hT hl hlw
    obtain ⟨K, C1, b1, b2, b3⟩ := rank_fun_of hU hu huw
    obtain ⟨t, g, h, e1, e2, e3, e4⟩ := syl_rank (n := n) a2 b1 a3 b3
    have := rank_fun hM hMl hMw (k := t) (R := fun i => R1 (g i)) (C := fun j => C1 (h j)) (fun i hi => a1 _ (e2 i hi)) (fun j hj => b2 _ (e3 j hj)) (by
      rw [dt_congr t (g := fun i j => mulF n (at2 l) (at2 u) (R1 (g i)) (C1 (h j))) (fun i j hi hj => hat _ _ (a1 _ (e2 i hi)) (b2 _ (e3 j hj)))]
      exact e4)
    omega

end Go.Proofs.Ytcnbffflgodheaa
end

section
namespace Go.Proofs.Ytcnbffflgodheaa

theorem seln_in : ∀ n : Fin 6, ∀ s : Fin 32, s.val < 2 ^ n.val → ∀ i : Fin 6, i.val < popcS s.val → selN s.val n.val i.val < n.val ∧ s.val.testBit (selN s.val n.val i.val) = true := by decide +kernel
theorem seln_on : ∀ n : Fin 6, ∀ s : Fin 32, s.val < 2 ^ n.val → ∀ a : Fin 6, a.val < n.val → s.val.testBit a.val = true → ∃ r : Fin 6, r.val < popcS s.val ∧ selN s.val n.val r.val = a.val := by decide +kernel
theorem seln_inj : ∀ n : Fin 6, ∀ s : Fin 32, s.val < 2 ^ n.val → ∀ i j : Fin 6, i.val < popcS s.val → j.val < popcS s.val → selN s.val n.val i.val = selN s.val n.val j.val → i = j := by decide +kernel
theorem seln_up : ∀ n : Fin 6, ∀ s : Fin 32, s.val < 2 ^ n.val → ∀ a : Fin 6, a.val + 1 < n.val → s.val.testBit a.val = true → s.val.testBit (a.val + 1) = false →
    s.val ^^^ 2 ^ a.val ^^^ 2 ^ (a.val + 1) < 2 ^ n.val ∧ popcS (s.val ^^^ 2 ^ a.val ^^^ 2 ^ (a.val + 1)) = popcS s.val ∧ ∀ i : Fin 6, i.val < popcS s.val → selN (s.val ^^^ 2 ^ a.val ^^^ 2 ^ (a.val + 1)) n.val i.val = if selN s.val n.val i.val = a.val then a.val + 1 else selN s.val n.val i.val := by decide +kernel
theorem seln_dn : ∀ n : Fin 6, ∀ s : Fin 32, s.val < 2 ^ n.val → ∀ a : Fin 6, a.val + 1 < n.val → s.val.testBit (a.val + 1) = true → s.val.testBit a.val = false →
    s.val ^^^ 2 ^ (a.val + 1) ^^^ 2 ^ a.val < 2 ^ n.val ∧ popcS (s.val ^^^ 2 ^ (a.val + 1) ^^^ 2 ^ a.val) = popcS s.val ∧ ∀ i : Fin 6, i.val < popcS s.val → selN (s.val ^^^ 2 ^ (a.val + 1) ^^^ 2 ^ a.val) n.val i.val = if selN s.val n.val i.val = a.val + 1 then a.val else selN s.val n.val i.val := by decide +kernel
theorem popc_le5 : ∀ n : Fin 6, ∀ s : Fin 32, s.val < 2 ^ n.val → popcS s.val ≤ n.val := by decide +kernel
theorem seln_out : ∀ s t : Fin 32, s ≠ t → popcS s.val = popcS t.val → ∃ a : Fin 5, s.val.testBit a.val = true ∧ t.val.testBit a.val = false := by decide +kernel

theorem setR_selfH (f : Nat → Nat → Int) (k r : Nat) : dt k (setR f r (f r)) = dt k f := dt_congr k fun i j _ _ => by
  unfold setR
  by_cases e : i = r
  · subst e; rw [if_pos rfl]
  · rw [if_neg e]

theorem fam_minor {n : Nat} (h5 : n ≤ 5) : ∀ (cs : List CH), (∀ c ∈ cs, chOk n c) → ∀ (s t : Nat), s < 2 ^ n → t < 2 ^ n → popcS s = popcS t →
    famN cs s t = dt (popcS s) (fun i j => netM n cs (selN s n i) (selN t n j))
  | [], _, s, t, hs, ht, hp => by
    have p5 : 2 ^ n ≤ 2 ^ 5 := Nat.pow_le_pow_right (by omega) h5
    have hk := popc_le5 ⟨n, by omega⟩ ⟨s, by omega⟩ hs
    simp only at hk
    unfold famN
    by_cases e : s = t
    · subst e
      rw [if_pos rfl, ← dt_oneF (popcS s)]
      refine dt_congr _ fun i j hi hj => ?_
      show _ = if selN s n i = selN s n j then (1 : Int) else 0
      unfold oneF
      by_cases e2 : i = j
      · subst e2; simp
      · rw [if_neg e2, if_neg (fun h => e2 (by
          have := seln_inj ⟨n, by omega⟩ ⟨s, by omega⟩ hs ⟨i, by omega⟩ ⟨j, by omega⟩ hi hj h
          simpa using this))]
    · rw [if_neg e]
      obtain ⟨a, ha, hb⟩ := seln_out ⟨s, by omega⟩ ⟨t, by omega⟩ (by simpa using e) hp
      simp only at ha hb
      have han : a.val < n := by
        by_cases h : a.val < n
        · exact h
        · rw [Nat.testBit_lt_two_pow (Nat.lt_of_lt_of_le hs (Nat.pow_le_pow_right (by omega) (by omega)))] at ha
          cases ha
      obtain ⟨r, hr, hra⟩ := seln_on ⟨n, by omega⟩ ⟨s, by omega⟩ hs ⟨a.val, by omega⟩ han ha
      simp only at hr hra
      refine (dt_zeroR _ hr fun j hj => ?_).symm
      show (if selN s n r.val = selN t n j then (1 : Int) else 0) = 0
      rw [hra, if_neg (fun h => by
        have := (seln_in ⟨n, by omega⟩ ⟨t, by omega⟩ ht ⟨j, by omega⟩ (by simp only; omega)).2
        simp only at this
        rw [← h, hb] at this
        cases this)]
  | c :: cs, h, s, t, hs, ht, hp => by
    have hc := h c (by simp)
    have ih := fam_minor h5 cs (fun c hc => h c (by simp [hc]))
    have p5 : 2 ^ n ≤ 2 ^ 5 := Nat.pow_le_pow_right (by omega) h5
    have hk := popc_le5 ⟨n, by omega⟩ ⟨s, by omega⟩ hs
    simp only at hk
    have hin := fun i (hi : i < popcS s) => seln_in ⟨n, by omega⟩ ⟨s, by omega⟩ hs ⟨i, by omega⟩ hi
    simp only at hin
    have hinj := fun i j (hi : i < popcS s) (hj : j < popcS s) (e : selN s n i = selN s n j) => seln_inj ⟨n, by omega⟩ ⟨s, by omega⟩ hs ⟨i, by omega⟩ ⟨j, by omega⟩ hi hj e
    simp only [Fin.mk.injEq] at hinj
    obtain ⟨g, hg⟩ : ∃ g : Nat → Nat → Int, (fun i j => netM n cs (selN s n i) (selN t n j)) = g := ⟨_, rfl⟩
    have ihs := ih s t hs ht hp
    rw [hg] at ihs
    have hgv : ∀ i j, g i j = netM n cs (selN s n i) (selN t n j) := fun i j => by rw [← hg]
    have key : ∀ i j, i < popcS s → netM n (c :: cs) (selN s n i) (selN t n j) = if c.1 = 2 then (if selN s n i = c.2.1 then c.2.2 * g i j else g i j) else g i j + (if selN s n i = cFrom c then c.2.2 * netM n cs (cTo c) (selN t n j) else 0) := fun i j hi => by
      show sumN (fun m => chM c (selN s n i) m * netM n cs m (selN t n j)) n = _
      rw [ch_row hc (hin i hi).1 (fun m => netM n cs m (selN t n j)), hgv]
    unfold famN
    by_cases h2 : c.1 = 2
    · rw [if_pos h2]
      have hl : c.2.1 < n := by have := hc.2; rw [if_pos h2] at this; exact this
      by_cases hb : s.testBit c.2.1 = true
      · rw [if_pos hb, ihs]
        obtain ⟨r, hr, hra⟩ := seln_on ⟨n, by omega⟩ ⟨s, by omega⟩ hs ⟨c.2.1, by omega⟩ hl hb
        simp only at hr hra
        have e : dt (popcS s) (fun i j => netM n (c :: cs) (selN s n i) (selN t n j)) = dt (popcS s) (setR g r.val (fun j => c.2.2 * g r.val j + 0 * g r.val j)) := dt_congr _ fun i j hi hj => by
          rw [key i j hi, if_pos h2]
          unfold setR
          by_cases e : i = r.val
          · subst e; rw [if_pos hra, if_pos rfl]; show c.2.2 * g r.val j = c.2.2 * g r.val j + 0 * g r.val j; omega
          · rw [if_neg e, if_neg (fun x => e (hinj i r.val hi hr (x.trans hra.symm)))]
        rw [e, dt_lin _ _ _ _ _ _ _ hr, setR_selfH]
        omega
      · rw [if_neg hb, ihs]
        refine dt_congr _ fun i j hi hj => ?_
        rw [key i j hi, if_pos h2, if_neg (fun x => hb (by rw [← x]; exact (hin i hi).2))]
    · rw [if_neg h2]
      obtain ⟨h3, h4, h6⟩ := ch_ft hc h2
      have hl : c.2.1 + 1 < n := by have := hc.2; rw [if_neg h2] at this; exact this
      by_cases hb : s.testBit (cFrom c) = true
      · obtain ⟨r, hr, hra⟩ := seln_on ⟨n, by omega⟩ ⟨s, by omega⟩ hs ⟨cFrom c, by omega⟩ h3 hb
        simp only at hr hra
        have e : dt (popcS s) (fun i j => netM n (c :: cs) (selN s n i) (selN t n j)) = dt (popcS s) (setR g r.val (fun j => 1 * g r.val j + c.2.2 * netM n cs (cTo c) (selN t n j))) := dt_congr _ fun i j hi hj => by
          rw [key i j hi, if_neg h2]
          unfold setR
          by_cases e : i = r.val
          · subst e; rw [if_pos hra, if_pos rfl]; show g r.val j + c.2.2 * netM n cs (cTo c) (selN t n j) = 1 * g r.val j + c.2.2 * netM n cs (cTo c) (selN t n j); omega
          · rw [if_neg e, if_neg (fun x => e (hinj i r.val hi hr (x.trans hra.symm)))]; omega
        rw [e, dt_lin _ _ _ _ _ _ _ hr, setR_selfH, Int.one_mul, ← ihs]
        by_cases hb2 : s.testBit (cTo c) = true
        · rw [if_neg (fun x => by rw [hb2] at x; cases x.2)]
          obtain ⟨q, hq, hqa⟩ := seln_on ⟨n, by omega⟩ ⟨s, by omega⟩ hs ⟨cTo c, by omega⟩ h4 hb2
          simp only at hq hqa
          have hqr : r.val ≠ q.val := fun x => h6 (by rw [← hra, ← hqa, x])
          rw [dt_sameR _ hqr hr hq (fun j hj => by
            unfold setR
            rw [if_pos rfl, if_neg (fun x => hqr x.symm), hgv, hqa])]
          omega
        · have hb3 : s.testBit (cTo c) = false := by simpa using hb2
          rw [if_pos ⟨hb, hb3⟩]
          have F : (s ^^^ 2 ^ cFrom c ^^^ 2 ^ cTo c) < 2 ^ n ∧ popcS (s ^^^ 2 ^ cFrom c ^^^ 2 ^ cTo c) = popcS s ∧ ∀ i, i < popcS s → selN (s ^^^ 2 ^ cFrom c ^^^ 2 ^ cTo c) n i = if selN s n i = cFrom c then cTo c else selN s n i := by
            by_cases h0 : c.1 = 0
            · have e1 : cFrom c = c.2.1 := if_pos h0
              have e2 : cTo c = c.2.1 + 1 := if_pos h0
              rw [e1] at hb ⊢
              rw [e2] at hb3 ⊢
              obtain ⟨f1, f2, f3⟩ := seln_up ⟨n, by omega⟩ ⟨s, by omega⟩ hs ⟨c.2.1, by omega⟩ hl hb hb3
              exact ⟨f1, f2, fun i hi => f3 ⟨i, by omega⟩ hi⟩
            · have e1 : cFrom c = c.2.1 + 1 := if_neg h0
              have e2 : cTo c = c.2.1 := if_neg h0
              rw [e1] at hb ⊢
              rw [e2] at hb3 ⊢
              obtain ⟨f1, f2, f3⟩ := seln_dn ⟨n, by omega⟩ ⟨s, by omega⟩ hs ⟨c.2.1, by omega⟩ hl hb hb3
              exact ⟨f1, f2, fun i hi => f3 ⟨i, by omega⟩ hi⟩
          obtain ⟨f1, f2, f3⟩ := F
          rw [ih _ t f1 ht (f2.trans hp), f2]
          have e4 : dt (popcS s) (setR g r.val (fun j => netM n cs (cTo c) (selN t n j))) = dt (popcS s) (fun i j => netM n cs (selN (s ^^^ 2 ^ cFrom c ^^^ 2 ^ cTo c) n i) (selN t n j)) := dt_congr _ fun i j hi hj => by
            rw [f3 i hi]
            unfold setR
            by_cases e : i = r.val
            · subst e; rw [if_pos rfl, if_pos hra]
            · rw [if_neg e, if_neg (fun x => e (hinj i r.val hi hr (x.trans hra.symm))), hgv]
          rw [e4]
      · rw [if_neg (fun x => hb x.1), ihs, Int.add_zero]
        refine dt_congr _ fun i j hi hj => ?_
        rw [key i j hi, if_neg h2, if_neg (fun x => hb (by rw [← x]; exact (hin i hi).2)), Int.add_zero]

end Go.Proofs.Ytcnbffflgodheaa
end

section
namespace Go.Proofs.Ytcnbffflgodheaa

def allH : List CH → Int
  | [] => 1
  | c :: cs => if c.1 = 2 then c.2.2 * allH cs else allH cs
theorem full_bit {n i : Nat} (h : i < n) : (2 ^ n - 1).testBit i = true := by
  rw [Nat.testBit_two_pow_sub_one]; simpa using h
theorem fam_full {n : Nat} : ∀ (cs : List CH), (∀ c ∈ cs, chOk n c) → famN cs (2 ^ n - 1) (2 ^ n - 1) = allH cs
  | [], _ => by unfold famN allH; rw [if_pos rfl]
  | c :: cs, h => by
    have hc := h c (by simp)
    have ih := fam_full cs (fun c hc => h c (by simp [hc]))
    unfold famN allH
    by_cases h2 : c.1 = 2
    · have hl : c.2.1 < n := by have := hc.2; rw [if_pos h2] at this; exact this
      rw [if_pos h2, if_pos h2, if_pos (full_bit hl), ih]
    · obtain ⟨h3, h4, _⟩ := ch_ft hc h2
      rw [if_neg h2, if_neg h2, if_neg (fun x => by rw [full_bit h4] at x; cases x.2), ih, Int.add_zero]
theorem seln_full : ∀ n : Fin 6, popcS (2 ^ n.val - 1) = n.val ∧ ∀ i : Fin 6, i.val < n.val → selN (2 ^ n.val - 1) n.val i.val = i.val := by decide +kernel
theorem net_value {n : Nat} (h5 : n ≤ 5) (cs : List CH) (h : ∀ c ∈ cs, chOk n c) : dt n (netM n cs) = allH cs := by
  have hp := Nat.two_pow_pos n
  have e := fam_minor h5 cs h (2 ^ n - 1) (2 ^ n - 1) (by omega) (by omega) rfl
  obtain ⟨k1, k2⟩ := seln_full ⟨n, by omega⟩
  simp only at k1 k2
  rw [fam_full cs h, k1] at e
  rw [e]
  refine dt_congr n fun i j hi hj => ?_
  have e1 := k2 ⟨i, by omega⟩ hi
  have e2 := k2 ⟨j, by omega⟩ hj
  simp only at e1 e2
  rw [e1, e2]

def oneZ (c : CH) : CH := (c.1, c.2.1, if c.2.2 = 0 then 0 else 1)
theorem oneZ_nn (cs : List CH) : ∀ c ∈ cs.map oneZ, 0 ≤ c.2.2 := by
  intro c hc
  rw [List.mem_map] at hc
  obtain ⟨d, _, rfl⟩ := hc
  unfold oneZ
  simp only
  split <;> omega
theorem fam_some : ∀ (cs : List CH) (s t : Nat), famN cs s t ≠ 0 → 0 < famN (cs.map oneZ) s t
  | [], s, t, h => by
    unfold famN at h
    by_cases e : s = t
    · subst e; show 0 < famN [] s s; unfold famN; rw [if_pos rfl]; decide
    · rw [if_neg e] at h; exact absurd rfl h
  | c :: cs, s, t, h => by
    have ih := fam_some cs
    have hn := fam_nn (cs.map oneZ) (oneZ_nn cs)
    unfold famN at h
    show 0 < famN (oneZ c :: cs.map oneZ) s t
    unfold famN
    have e1 : (oneZ c).1 = c.1 := rfl
    have e2 : (oneZ c).2.1 = c.2.1 := rfl
    have e3 : cFrom (oneZ c) = cFrom c := rfl
    have e4 : cTo (oneZ c) = cTo c := rfl
    have hw : ∀ x : Int, c.2.2 * x ≠ 0 → (oneZ c).2.2 = 1 ∧ x ≠ 0 := fun x hx => by
      by_cases e0 : c.2.2 = 0
      · rw [e0, Int.zero_mul] at hx; exact absurd rfl hx
      · exact ⟨by unfold oneZ; simp only; rw [if_neg e0], fun e => hx (by rw [e, Int.mul_zero])⟩
    have h0 : 0 ≤ (oneZ c).2.2 := by unfold oneZ; simp only; split <;> omega
    rw [e1, e2, e3, e4]
    by_cases h2 : c.1 = 2
    · rw [if_pos h2] at h ⊢
      by_cases hb : s.testBit c.2.1 = true
      · rw [if_pos hb] at h ⊢
        obtain ⟨k1, k2⟩ := hw _ h
        rw [k1, Int.one_mul]
        exact ih _ _ k2
      · rw [if_neg hb] at h ⊢
        exact ih _ _ h
    · rw [if_neg h2] at h ⊢
      by_cases hb : s.testBit (cFrom c) = true ∧ s.testBit (cTo c) = false
      · rw [if_pos hb] at h ⊢
        have n1 := hn s t
        have n2 := hn (s ^^^ 2 ^ cFrom c ^^^ 2 ^ cTo c) t
        by_cases e5 : famN cs s t = 0
        · rw [e5, Int.zero_add] at h
          obtain ⟨k1, k2⟩ := hw _ h
          have := ih _ _ k2
          rw [k1, Int.one_mul]
          omega
        · have := ih _ _ e5
          have := Int.mul_nonneg h0 n2
          omega
      · rw [if_neg hb, Int.add_zero] at h ⊢
        exact ih _ _ h
theorem fam_plain : ∀ (cs : List CH), (∀ c ∈ cs, 0 ≤ c.2.2) → ∀ s t, 0 < famN (cs.map oneZ) s t → 0 < famN cs s t
  | [], _, s, t, h => h
  | c :: cs, hp, s, t, h => by
    have hc := hp c (by simp)
    have ih := fam_plain cs (fun c hc => hp c (by simp [hc]))
    have hn := fam_nn cs (fun c hc => hp c (by simp [hc]))
    have hz := fam_nn (cs.map oneZ) (oneZ_nn cs)
    have hw : ∀ x y : Int, (0 < y → 0 < x) → 0 ≤ y → 0 < (oneZ c).2.2 * y → 0 < c.2.2 * x := fun x y hxy hy hx => by
      by_cases e0 : c.2.2 = 0
      · have : (oneZ c).2.2 = 0 := by unfold oneZ; simp only; rw [if_pos e0]
        rw [this, Int.zero_mul] at hx; omega
      · have : (oneZ c).2.2 = 1 := by unfold oneZ; simp only; rw [if_neg e0]
        rw [this, Int.one_mul] at hx
        exact Int.mul_pos (by omega) (hxy hx)
    have h' : 0 < famN (oneZ c :: cs.map oneZ) s t := h
    unfold famN at h' ⊢
    have e1 : (oneZ c).1 = c.1 := rfl
    have e2 : (oneZ c).2.1 = c.2.1 := rfl
    have e3 : cFrom (oneZ c) = cFrom c := rfl
    have e4 : cTo (oneZ c) = cTo c := rfl
    rw [e1, e2, e3, e4] at h'
    by_cases h2 : c.1 = 2
    · rw [if_pos h2] at h' ⊢
      by_cases hb : s.testBit c.2.1 = true
      · rw [if_pos hb] at h' ⊢
        exact hw _ _ (ih s t) (hz s t) h'
      · rw [if_neg hb] at h' ⊢
        exact ih _ _ h'
    · rw [if_neg h2] at h' ⊢
      by_cases hb : s.testBit (cFrom c) = true ∧ s.testBit (cTo c) = false
      · rw [if_pos hb] at h' ⊢
        have n1 := hn s t
        have n2 := Int.mul_nonneg hc (hn (s ^^^ 2 ^ cFrom c ^^^ 2 ^ cTo c) t)
        by_cases e5 : 0 < famN (cs.map oneZ) s t
        · have := ih _ _ e5; omega
        · have z1 := hz s t
          have := hw _ _ (ih (s ^^^ 2 ^ cFrom c ^^^ 2 ^ cTo c) t) (hz _ t) (by omega)
          omega
      · rw [if_neg hb, Int.add_zero] at h' ⊢
        exact ih _ _ h'

end Go.Proofs.Ytcnbffflgodheaa
end

section
namespace Go.Proofs.Ytcnbffflgodheaa
open Go.RowKit Go.Deep

noncomputable def oneL (q : Int) (cs : List RC) : List CH := (cs.map (oneC q)).map toC
theorem one_rc {q : Int} (hq : 0 ≤ q ∧ q ≤ 1) {n : Nat} {c : RC} (h : RCok c ∧ chOk n (toC c)) : RCok (oneC q c) ∧ chOk n (toC (oneC q c)) := by
  obtain ⟨⟨h1, h2, h3⟩, h4⟩ := h
  refine ⟨⟨h1, h2, ?_⟩, h4⟩
  unfold oneC
  simp only
  split <;> omega
theorem NetOk.ones {n : Nat} {cs : List RC} (h : NetOk n cs) {q : Int} (hq : 0 ≤ q ∧ q ≤ 1) : NetOk n (cs.map (oneC q)) :=
  ⟨h.lo, h.hi, by rw [List.length_map]; exact h.len, fun c hc => by
    obtain ⟨d, hd, rfl⟩ := List.mem_map.1 hc
    exact one_rc hq (h.ok d hd)⟩

noncomputable def countV (n : Int) (cs : List RC) (i k : Int) : Int := if linesB n cs i k = true then pathN (oneL 1 cs) i.toNat k.toNat else 0

def anyTo (cs : List CH) (f t : Nat) : Bool := (List.range t).any fun u => popcS f == popcS u && decide (0 < famN cs f u)
theorem anyTo_succ (cs : List CH) (f t : Nat) : anyTo cs f (t + 1) = (anyTo cs f t || (popcS f == popcS t && decide (0 < famN cs f t))) := by
  unfold anyTo
  rw [List.range_succ, List.any_append]
  simp
def mostTo (cs : List CH) (M : Nat) : Nat → Nat
  | 0 => 0
  | f + 1 => if anyTo cs f M = true then max (mostTo cs M f) (popcS f) else mostTo cs M f
theorem mostTo_le (cs : List CH) (M : Nat) : ∀ f, mostTo cs M f ≤ 6
  | 0 => by unfold mostTo; omega
  | f + 1 => by
    have h1 := mostTo_le cs M f
    have h2 : popcS f ≤ 6 := sel_length f 6 6
    unfold mostTo
    split <;> omega
def mostAt (cs : List CH) (M f t : Nat) : Nat := if anyTo cs f t = true then max (mostTo cs M f) (popcS f) else mostTo cs M f
theorem mostAt_zero (cs : List CH) (M f : Nat) : mostAt cs M f 0 = mostTo cs M f := by
  unfold mostAt anyTo
  rw [if_neg (by simp)]
theorem mostAt_all (cs : List CH) (M f : Nat) : mostAt cs M f M = mostTo cs M (f + 1) := rfl
theorem mostAt_yes {cs : List CH} {M f t : Nat} (h1 : popcS f = popcS t) (h2 : mostAt cs M f t < popcS f) (h3 : 0 < famN cs f t) : mostAt cs M f (t + 1) = popcS f := by
  have hy : anyTo cs f (t + 1) = true := by rw [anyTo_succ, decide_eq_true h3, beq_iff_eq.2 h1]; simp
  unfold mostAt at h2 ⊢
  rw [if_pos hy]
  split at h2 <;> omega
theorem mostAt_no {cs : List CH} {M f t : Nat} (h : ¬ (popcS f = popcS t ∧ mostAt cs M f t < popcS f ∧ 0 < famN cs f t)) : mostAt cs M f (t + 1) = mostAt cs M f t := by
  unfold mostAt at h ⊢
  rw [anyTo_succ]
  by_cases hy : anyTo cs f t = true
  · rw [hy, Bool.true_or]
  · rw [if_neg hy] at h ⊢
    by_cases h1 : popcS f = popcS t
    · by_cases h3 : 0 < famN cs f t
      · have h2 : ¬ mostTo cs M f < popcS f := fun h2 => h ⟨h1, h2, h3⟩
        split <;> omega
      · rw [decide_eq_false h3, Bool.and_false, Bool.or_false, if_neg hy]
    · rw [show (popcS f == popcS t) = false by simpa using h1, Bool.false_and, Bool.or_false, if_neg hy]
theorem mostAt_le (cs : List CH) (M f t : Nat) : mostAt cs M f t ≤ 6 := by
  have h1 := mostTo_le cs M f
  have h2 : popcS f ≤ 6 := sel_length f 6 6
  unfold mostAt
  split <;> omega
noncomputable def mostV (n : Int) (cs : List RC) : Int := if netB n cs = true then (mostTo (oneL 0 cs) (2 ^ n.toNat) (2 ^ n.toNat) : Nat) else 0

set_option maxRecDepth 100000 in
set_option maxHeartbeats 1000000 in
theorem specNetMost_any (a : Option Addr) (cap N : Nat) (n : Int) (cs : List RC) (w : World) (hN : cs.length = N) (h63 : N ≤ 9223372036854775807) (hm : ChipsR w a cs) :
    Calls Try.prog 29 #[.int .i64 n, .slice a N cap] w fun e w' => e = .returned (.tuple #[.int .i64 (mostV n cs), .bool (netB n cs)]) ∧ w.Since w.heap.size w' := by
  have E := specNetIn_any a cap N n cs w hN h63 hm
  unfold mostV
  cases hb : netB n cs with
  | false =>
    rw [if_neg (by simp)]
    rw [hb] at E
    replace E := Lib.hid E
    clear hb hm hN
    go_enter Try.func29, Try.ntmps29
    go_wp2_with (go_at_call 72; refine (E.out).mono ?_; rintro e w1 ⟨rfl, hs1⟩; have HS1 := Lib.hid hs1; clear hs1)
    go_ret2
    exact ⟨rfl, HS1.out⟩
  | true =>
    rw [if_pos rfl]
    obtain ⟨m, rfl, ho⟩ := netB_ok hb
    rw [hb] at E
    replace E := Lib.hid E
    have hm5 := ho.hi
    have h10 := ho.len
    rw [hN] at h10
    have ho0 := ho.ones (q := 0) (by omega)
    obtain ⟨⟨p1, p2⟩, p3, p4, p5⟩ := p5_fin ⟨m, by omega⟩
    simp only at p1 p2 p3 p4 p5
    rw [Int.toNat_natCast]
    obtain ⟨M, hM⟩ : ∃ M : Nat, 2 ^ m = M := ⟨_, rfl⟩
    rw [hM] at p1 p2 p4 p5 ⊢
    have E1 := Lib.hid (fun (W : World) (hs : w.Since w.heap.size W) => l6cOnes_any a cap N 0 cs W hN h10 (hm.since hs))
    have E2 := Lib.hid (fun (W : World) (a' : Option Addr) (cap' s t : Nat) (h1 : N ≤ cap') (h2 : cap' ≤ 9223372036854775807) (hs : s ≤ 31) (hm : ChipsR W a' (cs.map (oneC 0))) => l6cFamilies_any (cs.map (oneC 0)) a' N cap' s t W (by rw [List.length_map]; exact hN) h10 h1 h2 ho0.five hs hm)
    have hD : oneL 0 cs = (cs.map (oneC 0)).map toC := rfl
    rw [← hD] at E2
    have hfb := fun (s t : Nat) => fam_bd (oneL 0 cs) (fun d hd => by
      obtain ⟨e, he, rfl⟩ := List.mem_map.1 hd
      exact (ho0.rc e he).2.2) s t
    have hp10 : p10 (oneL 0 cs).length ≤ 10000000000 := p10_le (by unfold oneL; rw [List.length_map, List.length_map]; omega)
    obtain ⟨D, hDD⟩ : ∃ D, oneL 0 cs = D := ⟨_, rfl⟩
    rw [hDD] at E2 hfb hp10 ⊢
    have HFB := Lib.hid hfb
    have HP := Lib.hid hp10
    have HCH := Lib.hid (show ∀ (W : World) (a' : Option Addr), (∃ V : World, ChipsR V a' (cs.map (oneC 0)) ∧ V.Since V.heap.size W) → ChipsR W a' (cs.map (oneC 0)) from fun W a' ⟨V, h1, h2⟩ => h1.since h2)
    clear hb hm hN hM h10 ho0 p3 hD hDD hfb hp10 ho
    go_enter Try.func29, Try.ntmps29
    go_wp2_with (first
      | (go_at_call 72; refine (E.out).mono ?_; rintro e w1 ⟨rfl, hs1⟩; have HS1 := Lib.hid hs1; clear hs1)
      | (go_at_call 73; refine (E1.out _ HS1.out).mono ?_; rintro e w2 ⟨a2, c2, rfl, hs2, ho2, hc2, hc63⟩; have HS2 := Lib.hid (HS1.out.trans (since_mono hs2 HS1.out.size)); have HO2 := Lib.hid ho2.chips; clear hs2 ho2))
    go_loopg [6, 8, 9] M (fun g v i _ wr => ∃ f : Nat, f ≤ M ∧ g = M - f ∧ i = .int .i64 f ∧ v = .int .i64 (mostTo D M f : Nat) ∧ w.Since w.heap.size wr ∧ ChipsR wr a2 (cs.map (oneC 0)))
    case atStart => exact ⟨0, Nat.zero_le _, rfl, rfl, rfl, HS2.out, HO2.out⟩
    case round =>
      obtain ⟨f, hf, rfl, rfl, rfl, hS, hC⟩ := hrel
      by_cases hlt : f < M
      · have EP := Lib.hid (fun (W : World) => l2Size_any f (by omega) W)
        have hz := mostAt_zero D M f
        have hall := mostAt_all D M f
        have hpf : popcS f ≤ 6 := sel_length f 6 6
        have HZ := Lib.hid hz
        have HALL := Lib.hid hall
        have HS := Lib.hid hS
        have HC := Lib.hid hC
        clear hz hall hS hC
        go_wp2_with fail
        go_loopg [6, 9] M (fun g v i wi => ∃ t : Nat, t ≤ M ∧ g = M - t ∧ i = .int .i64 t ∧ v = .int .i64 (mostAt D M f t : Nat) ∧ w.Since w.heap.size wi ∧ ChipsR wi a2 (cs.map (oneC 0)))
        case atStart => exact ⟨0, Nat.zero_le _, rfl, rfl, by rw [HZ.out], HS.out, HC.out⟩
        case round =>
          obtain ⟨t, ht, rfl, rfl, rfl, hS2, hC2⟩ := hrel
          by_cases hlt2 : t < M
          · have EQ := Lib.hid (fun (W : World) => l2Size_any t (by omega) W)
            have hpt : popcS t ≤ 6 := sel_length t 6 6
            have hma := mostAt_le D M f t
            have EF := Lib.hid (E2.out wr a2 c2 f t hc2 hc63 (by omega) hC2)
            have hyes := fun h1 h2 h3 => mostAt_yes (cs := D) (M := M) (f := f) (t := t) h1 h2 h3
            have hno := fun h => mostAt_no (cs := D) (M := M) (f := f) (t := t) h
            have hfb := HFB.out f t
            obtain ⟨P, hP⟩ : ∃ P, famN D f t = P := ⟨_, rfl⟩
            obtain ⟨A, hA⟩ : ∃ A, popcS f = A := ⟨_, rfl⟩
            obtain ⟨B, hB⟩ : ∃ B, popcS t = B := ⟨_, rfl⟩
            obtain ⟨Z, hZ⟩ : ∃ Z, mostAt D M f t = Z := ⟨_, rfl⟩
            rw [hP] at EF hyes hno hfb
            rw [hA] at EP hyes hno hpf
            rw [hB] at EQ hyes hno hpt
            rw [hZ] at hyes hno hma ⊢
            have HY := Lib.hid hyes
            have HNO := Lib.hid hno
            have HS2 := Lib.hid hS2
            have HC2 := Lib.hid hC2
            clear hyes hno hP hA hB hZ hS2 hC2 hfb HFB HP
            by_cases g1 : A = B
            · subst g1
              by_cases g2 : Z < A
              · have g2' : decide ((Z : Int) < (A : Int)) = true := by simpa using g2
                by_cases g3 : 0 < P
                · have g3' : decide (0 < P) = true := by simpa using g3
                  have HR := Lib.hid (HY.out rfl g2 g3)
                  go_wp2_with (first
                    | (go_at_call 62; ((with_reducible refine (EP.out _).mono ?_); rintro e w2 ⟨rfl, rfl⟩))
                    | (go_at_call 62; ((with_reducible refine (EQ.out _).mono ?_); rintro e w2 ⟨rfl, rfl⟩))
                    | (go_at_call 74; refine (EF.out).mono ?_; rintro e w4 ⟨rfl, hs4⟩; have H4 := Lib.hid (And.intro (HS2.out.trans (since_mono hs4 HS2.out.size)) (HC2.out.since hs4)); clear hs4))
                  go_roundg (M - (t + 1))
                  case measure => omega
                  case rel => exact ⟨t + 1, by omega, rfl, by go_num, by rw [HR.out], H4.out.1, H4.out.2⟩
                · have g3' : decide (0 < P) = false := by simpa using g3
                  have HR := Lib.hid (HNO.out (fun h => g3 h.2.2))
                  go_wp2_with (first
                    | (go_at_call 62; ((with_reducible refine (EP.out _).mono ?_); rintro e w2 ⟨rfl, rfl⟩))
                    | (go_at_call 62; ((with_reducible refine (EQ.out _).mono ?_); rintro e w2 ⟨rfl, rfl⟩))
                    | (go_at_call 74; refine (EF.out).mono ?_; rintro e w4 ⟨rfl, hs4⟩; have H4 := Lib.hid (And.intro (HS2.out.trans (since_mono hs4 HS2.out.size)) (HC2.out.since hs4)); clear hs4))
                  go_roundg (M - (t + 1))
                  case measure => omega
                  case rel => exact ⟨t + 1, by omega, rfl, by go_num, by rw [HR.out], H4.out.1, H4.out.2⟩
              · have g2' : decide ((Z : Int) < (A : Int)) = false := by simpa using g2
                have HR := Lib.hid (HNO.out (fun h => g2 h.2.1))
                go_wp2_with (first
                  | (go_at_call 62; ((with_reducible refine (EP.out _).mono ?_); rintro e w2 ⟨rfl, rfl⟩))
                  | (go_at_call 62; ((with_reducible refine (EQ.out _).mono ?_); rintro e w2 ⟨rfl, rfl⟩)))
                go_roundg (M - (t + 1))
                case measure => omega
                case rel => exact ⟨t + 1, by omega, rfl, by go_num, by rw [HR.out], HS2.out, HC2.out⟩
            · have g1' : ((A : Int) == (B : Int)) = false := by simp; omega
              have g1'' : (A == B) = false := by simpa using g1
              have HR := Lib.hid (HNO.out (fun h => g1 h.1))
              go_wp2_with (first
                | (go_at_call 62; ((with_reducible refine (EP.out _).mono ?_); rintro e w2 ⟨rfl, rfl⟩))
                | (go_at_call 62; ((with_reducible refine (EQ.out _).mono ?_); rintro e w2 ⟨rfl, rfl⟩)))
              go_roundg (M - (t + 1))
              case measure => omega
              case rel => exact ⟨t + 1, by omega, rfl, by go_num, by rw [HR.out], HS2.out, HC2.out⟩
          · obtain rfl : t = M := by omega
            have HS3 := Lib.hid (And.intro hS2 hC2)
            clear hS2 hC2
            go_wp2_with fail
            go_roundg (t - (f + 1))
            case measure => omega
            case rel => exact ⟨f + 1, by omega, rfl, by go_num, by rw [← HALL.out], HS3.out.1, HS3.out.2⟩
      · obtain rfl : f = M := by omega
        have HS3 := Lib.hid hS
        clear hS hC
        go_wp2_with fail
        go_ret2
        exact ⟨rfl, HS3.out⟩

end Go.Proofs.Ytcnbffflgodheaa
end

section
namespace Go.Proofs.Ytcnbffflgodheaa
open Go.RowKit Go.Deep

def leadB (cs : List CH) (s : Nat) : Bool := (famL cs s 1).any fun x => decide (x.2 ≠ 0)
theorem lead_iff : ∀ (cs : List CH) (s : Nat) (x : Int), (∃ y ∈ famL cs s x, y.2 ≠ 0) ↔ x ≠ 0 ∧ ∃ t, 0 < famN (cs.map oneZ) s t
  | [], s, x => by
    unfold famL
    constructor
    · rintro ⟨y, hy, h⟩
      simp only [List.mem_singleton] at hy
      subst hy
      exact ⟨h, s, by show 0 < famN [] s s; unfold famN; rw [if_pos rfl]; decide⟩
    · rintro ⟨h, _⟩
      exact ⟨(s, x), by simp, h⟩
  | c :: cs, s, x => by
    have e1 : (oneZ c).1 = c.1 := rfl
    have e2 : (oneZ c).2.1 = c.2.1 := rfl
    have e3 : cFrom (oneZ c) = cFrom c := rfl
    have e4 : cTo (oneZ c) = cTo c := rfl
    have hn := fam_nn (cs.map oneZ) (oneZ_nn cs)
    have hz : (oneZ c).2.2 = if c.2.2 = 0 then 0 else 1 := rfl
    have hxw : x * c.2.2 ≠ 0 ↔ x ≠ 0 ∧ c.2.2 ≠ 0 := by rw [Ne, Int.mul_eq_zero]; omega
    show (∃ y ∈ famL (c :: cs) s x, y.2 ≠ 0) ↔ x ≠ 0 ∧ ∃ t, 0 < famN (oneZ c :: cs.map oneZ) s t
    unfold famL famN
    rw [e1, e2, e3, e4]
    by_cases h2 : c.1 = 2
    · rw [if_pos h2]
      simp only [if_pos h2]
      by_cases hb : s.testBit c.2.1 = true
      · rw [if_pos hb]
        simp only [if_pos hb]
        rw [lead_iff cs s (x * c.2.2), hxw, hz]
        by_cases h0 : c.2.2 = 0
        · simp [h0]
        · rw [if_neg h0]; simp [h0]
      · rw [if_neg hb]
        simp only [if_neg hb]
        exact lead_iff cs s x
    · rw [if_neg h2]
      simp only [if_neg h2]
      by_cases hb : s.testBit (cFrom c) = true ∧ s.testBit (cTo c) = false
      · rw [if_pos hb]
        simp only [if_pos hb]
        have i1 := lead_iff cs (s ^^^ 2 ^ cFrom c ^^^ 2 ^ cTo c) (x * c.2.2)
        have i2 := lead_iff cs s x
        constructor
        · rintro ⟨y, hy, h⟩
          rcases List.mem_append.1 hy with hy | hy
          · obtain ⟨g1, t, g2⟩ := i1.1 ⟨y, hy, h⟩
            obtain ⟨g3, g4⟩ := hxw.1 g1
            exact ⟨g3, t, by rw [hz, if_neg g4, Int.one_mul]; have := hn s t; omega⟩
          · obtain ⟨g1, t, g2⟩ := i2.1 ⟨y, hy, h⟩
            refine ⟨g1, t, ?_⟩
            have h3 := hn (s ^^^ 2 ^ cFrom c ^^^ 2 ^ cTo c) t
            rw [hz]
            split
            · simp; exact g2
            · simp; omega
        · rintro ⟨g1, t, g2⟩
          by_cases h0 : 0 < famN (cs.map oneZ) s t
          · obtain ⟨y, hy, h⟩ := i2.2 ⟨g1, t, h0⟩
            exact ⟨y, List.mem_append.2 (.inr hy), h⟩
          · rw [hz] at g2
            by_cases hc0 : c.2.2 = 0
            · rw [if_pos hc0] at g2; simp at g2; omega
            · rw [if_neg hc0, Int.one_mul] at g2
              obtain ⟨y, hy, h⟩ := i1.2 ⟨hxw.2 ⟨g1, hc0⟩, t, by omega⟩
              exact ⟨y, List.mem_append.2 (.inl hy), h⟩
      · rw [if_neg hb]
        simp only [if_neg hb, Int.add_zero]
        exact lead_iff cs s x
theorem pop_move : ∀ s : Fin 32, ∀ i k : Fin 5, i ≠ k → s.val.testBit i.val = true → s.val.testBit k.val = false → popcS (s.val ^^^ 2 ^ i.val ^^^ 2 ^ k.val) = popcS s.val := by decide +kernel
theorem fam_pop {n : Nat} (h5 : n ≤ 5) : ∀ (cs : List CH), (∀ c ∈ cs, chOk n c) → ∀ s t, s < 2 ^ n → famN cs s t ≠ 0 → t < 2 ^ n ∧ popcS s = popcS t
  | [], _, s, t, hs, h => by
    unfold famN at h
    by_cases e : s = t
    · subst e; exact ⟨hs, rfl⟩
    · rw [if_neg e] at h; exact absurd rfl h
  | c :: cs, hok, s, t, hs, h => by
    have ih := fam_pop h5 cs (fun d hd => hok d (by simp [hd]))
    have hc := hok c (by simp)
    have p5 : 2 ^ n ≤ 2 ^ 5 := Nat.pow_le_pow_right (by omega) h5
    unfold famN at h
    by_cases h2 : c.1 = 2
    · rw [if_pos h2] at h
      split at h
      · exact ih s t hs (fun e => h (by rw [e, Int.mul_zero]))
      · exact ih s t hs h
    · rw [if_neg h2] at h
      by_cases h0 : famN cs s t = 0
      · rw [h0, Int.zero_add] at h
        split at h
        · rename_i hb
          obtain ⟨f1, f2, f3⟩ := ch_ft hc h2
          have g := ih (s ^^^ 2 ^ cFrom c ^^^ 2 ^ cTo c) t (Nat.xor_lt_two_pow (Nat.xor_lt_two_pow hs (Nat.pow_lt_pow_right (by omega) f1)) (Nat.pow_lt_pow_right (by omega) f2)) (fun e => h (by rw [e, Int.mul_zero]))
          have hm := pop_move ⟨s, by omega⟩ ⟨cFrom c, by omega⟩ ⟨cTo c, by omega⟩ (fun e => f3 (by injection e)) hb.1 hb.2
          simp only at hm
          exact ⟨g.1, hm.symm.trans g.2⟩
        · exact absurd rfl h
      · exact ih s t hs h0
theorem oneZ_ok {n : Nat} {cs : List CH} (h : ∀ c ∈ cs, chOk n c) : ∀ c ∈ cs.map oneZ, chOk n c := by
  intro c hc
  obtain ⟨d, hd, rfl⟩ := List.mem_map.1 hc
  exact h d hd
theorem lead_any {n : Nat} (h5 : n ≤ 5) {cs : List CH} (hok : ∀ c ∈ cs, chOk n c) {s : Nat} (hs : s < 2 ^ n) : leadB cs s = anyTo (cs.map oneZ) s (2 ^ n) := by
  have hl : leadB cs s = true ↔ ∃ y ∈ famL cs s 1, y.2 ≠ 0 := by unfold leadB; rw [List.any_eq_true]; simp
  have ha : anyTo (cs.map oneZ) s (2 ^ n) = true ↔ ∃ t, 0 < famN (cs.map oneZ) s t := by
    unfold anyTo
    rw [List.any_eq_true]
    constructor
    · rintro ⟨t, _, h⟩
      rw [Bool.and_eq_true] at h
      exact ⟨t, of_decide_eq_true h.2⟩
    · rintro ⟨t, h⟩
      obtain ⟨g1, g2⟩ := fam_pop h5 _ (oneZ_ok hok) s t hs (by omega)
      exact ⟨t, List.mem_range.2 g1, by rw [g2]; simp [h]⟩
  have hi := (lead_iff cs s 1)
  have : leadB cs s = true ↔ anyTo (cs.map oneZ) s (2 ^ n) = true := by
    rw [hl, ha, hi]
    exact ⟨fun h => h.2, fun h => ⟨by decide, h⟩⟩
  cases e1 : leadB cs s <;> cases e2 : anyTo (cs.map oneZ) s (2 ^ n) <;> simp_all
theorem one_zero (cs : List RC) : oneL 0 cs = (cs.map toC).map oneZ := by
  unfold oneL
  rw [List.map_map, List.map_map]
  apply List.map_congr_left
  intro c _
  rfl

end Go.Proofs.Ytcnbffflgodheaa
end

section
namespace Go.Proofs.Ytcnbffflgodheaa
open Go.RowKit Go.Deep Go.Shelf
attribute [local go_sem] Oper.semAt_some

structure LQ (w : World) (b : Bool) (W : World) : Prop where
  br : Boxed W w.heap.size 4 (.bool b)
  sn : w.Since w.heap.size W
theorem LQ.kept {w W W' : World} {b : Bool} {row : Option Nat} (h : LQ w b W) (hg : W.grownBy W' row) (hr : ∀ r, row = some r → w.heap.size + 1 ≤ r) : LQ w b W' :=
  ⟨h.br.kept hg (fun e => by have := hr _ e.symm; omega), h.sn.grown hg h.sn.size (fun k e => by have := hr k e; omega)⟩

set_option maxRecDepth 100000 in
set_option maxHeartbeats 1000000 in
theorem leadsOn_any (a : Option Addr) (N cap s : Nat) (cs : List RC) (w : World) (hN : cs.length = N) (h10 : N ≤ 10) (hcap : N ≤ cap) (hc63 : cap ≤ 9223372036854775807) (hok : ∀ c ∈ cs, RCok c ∧ chOk 5 (toC c)) (hs : s ≤ 31) (hm : ChipsR w a cs) :
    Calls Try.prog 77 #[.slice a N cap, .int .i64 s] w fun e w' => e = .returned (.bool (leadB (cs.map toC) s)) ∧ w.Since w.heap.size w' := by
  have HM := Lib.hid hm
  have HOK := Lib.hid hok
  have HNO := Lib.hid (show (∀ x ∈ famL (cs.map toC) s 1, x.2 = 0) → leadB (cs.map toC) s = false from fun h => by
    cases e : leadB (cs.map toC) s with
    | false => rfl
    | true =>
      obtain ⟨x, hx, hx2⟩ := List.any_eq_true.1 e
      exact absurd (h x hx) (of_decide_eq_true hx2))
  have HYES := Lib.hid (show ∀ x ∈ famL (cs.map toC) s 1, x.2 ≠ 0 → leadB (cs.map toC) s = true from fun x hx h => List.any_eq_true.2 ⟨x, hx, by simpa using h⟩)
  clear hm hok
  refine (callsIn_wide (n := 9)).1 ?_
  refine callsIn_of_wp_marks Try.func77 rfl trivial ?_ rfl
  simp only [Try.ntmps77, List.size_toArray, List.length_cons, List.length_nil, Nat.reduceAdd, Nat.reduceSub, Array.replicate_succ, Array.replicate_zero, List.push_toArray, List.append_toArray, List.nil_append, List.cons_append]
  gi_wp2_with (refine ⟨trivial, ?_⟩; gi_at_call 106; refine (callsIn_wide.2 (families_any a N cap _ _)).mono ?_; rintro e w' ⟨rfl, rfl⟩)
  have hP2 : LQ w false (((w.alloc (.cells #[.bool false] 4)).alloc (.cells #[.slice a N cap] 38)).alloc (.cells #[.int .i64 (s : Int)] 3)) :=
    ((LQ.mk (Boxed.new w 4 (.bool false)) ((World.Since.refl _ w).alloc (Nat.le_refl _) _)).kept (World.grownBy_alloc _ (.cells #[.slice a N cap] 38) none) (fun r e => by cases e)).kept (World.grownBy_alloc _ (.cells #[.int .i64 (s : Int)] 3) none) (fun r e => by cases e)
  have hbc := cell_alloc_l (.cells #[.int .i64 (s : Int)] 3) (cell_new_l (w.alloc (.cells #[.bool false] 4)) (.slice a N cap) 38).1
  have hbf := (cell_new_l ((w.alloc (.cells #[.bool false] 4)).alloc (.cells #[.slice a N cap] 38)) (.int .i64 (s : Int)) 3).1
  have hz2 : (((w.alloc (.cells #[.bool false] 4)).alloc (.cells #[.slice a N cap] 38)).alloc (.cells #[.int .i64 (s : Int)] 3)).heap.size = w.heap.size + 3 := by simp
  simp only [World.size_alloc] at hbc hbf
  obtain ⟨W0, hW0⟩ : ∃ W0, ((w.alloc (.cells #[.bool false] 4)).alloc (.cells #[.slice a N cap] 38)).alloc (.cells #[.int .i64 (s : Int)] 3) = W0 := ⟨_, rfl⟩
  rw [hW0] at hbc hbf hP2 hz2 ⊢
  have hmW := HM.out.since hP2.sn
  clear hW0
  have hneed : ∀ q, (q = w.heap.size + 1 ∨ q = w.heap.size + 1 + 1 ∨ (0 < N ∧ ∃ b o, a = some ⟨b, o, none⟩ ∧ q = b)) → q < W0.heap.size ∧ q ≠ w.heap.size := fun q hq => by
    rcases hq with rfl | rfl | ⟨h0, b, o, e, rfl⟩
    · omega
    · omega
    · obtain ⟨b', o', e', hc⟩ := HM.out (by omega)
      have hl := World.block_lt_of_cell? _ _ (hc 0 (by omega)).1
      rw [e] at e'
      injection e' with e'
      injection e' with e1
      simp only at hl
      omega
  refine rangeF (F := Fence.wide) (n := 9) rfl (by omega) (gf := 120) (lb := #[.pointer (some ⟨w.heap.size + 1, 0, none⟩), .pointer (some ⟨w.heap.size + 1 + 1, 0, none⟩)]) rfl trivial (enters_of Try.func120 (by kernel_rfl) rfl)
    (families_stops 8 (w.heap.size + 1) (w.heap.size + 1 + 1) N cap s a cs W0 hN h10 hcap hc63 HOK.out hs hmW hbc hbf) (fun _ => rfl) (fun k => k = w.heap.size) (by rintro k rfl; exact ⟨by omega, fun h => (hneed _ h).2 rfl⟩) (fun k h => (hneed k h).1)
    (fun (pre : List (Nat × Int)) W => LQ w false W ∧ ∀ x ∈ pre, x.2 = 0)
    (fun c pre W => c = .ret ∧ LQ w true W ∧ ∃ x ∈ pre, x.2 ≠ 0)
    (fun pre X Y row hs hg hr => ⟨hs.1.kept hg (fun r e => by have := hr r e; omega), hs.2⟩)
    (fun c pre X Y row hs hg hr => ⟨hs.1, hs.2.1.kept hg (fun r e => by have := hr r e; omega), hs.2.2⟩)
    ⟨hP2, fun x hx => by cases hx⟩
    (fun x a'' _ => a'' = { tmps := #[.slice a N cap, .int .i64 s, undef, undef, .pointer (some ⟨w.heap.size, 0, none⟩), undef, .int .i64 x.2, .slice a N cap, .int .i64 s, .func (.func 120) #[] #[.pointer (some ⟨w.heap.size + 1, 0, none⟩), .pointer (some ⟨w.heap.size + 1 + 1, 0, none⟩)], .int .i64 (x.1 : Int), .int .i64 x.2, undef, undef], defers := [] })
    (fun _ _ _ _ _ _ hA _ _ => hA)
    ?assign ?body ?done ?stop
  case assign =>
    rintro lq ps x Y K _ hi _ hK
    simp only [encF]
    gi_wp2
    exact hK _ _ (Keeps.refl _ _) hi rfl
  case body =>
    rintro lq ps x a'' Y hlq hzY _ ⟨hS, hp⟩ hpx rfl hlen
    have cR := hS.br.cell
    have fR := hS.br.frozen
    have HSS := Lib.hid hS
    have HP := Lib.hid hp
    clear hS hp hpx
    obtain ⟨x1, v⟩ := x
    simp only
    by_cases hv0 : v = 0
    · have hvb : (v != 0) = false := by simp [hv0]
      gi_wp2
      exact ⟨Keeps.refl _ _, HSS.out, fun p hp => by
        rcases List.mem_append.1 hp with h | h
        · exact HP.out _ h
        · simp only [List.mem_singleton] at h
          rw [h]; exact hv0⟩
    · have hvb : (v != 0) = true := by simp [hv0]
      gi_wp2
      exact ⟨Keeps.grown (grownBy_setCell' Y w.heap.size _) (fun r e => by cases e; rfl), rfl, ⟨HSS.out.br.set _, HSS.out.sn.setCell (by simp) _⟩, (x1, v), by simp, hv0⟩
  case done =>
    rintro D ps X hD rfl ⟨hS, hp⟩ hK
    have cS := hS.br.cell
    have fS := hS.br.frozen
    have hb := HNO.out hp
    have hlt := (Array.getElem?_eq_some_iff.1 hK).1
    have hK2 : (X.setCell ⟨w.heap.size, 0, none⟩ (.bool false)).heap[D]? = some (.deferred (some [])) := ((grownBy_setCell' X w.heap.size (.bool false)).block D hlt (fun e => by injection e; omega)).trans hK
    have hB3 := (hS.br.set (.bool false)).kept (grownBy_putObj' (X.setCell ⟨w.heap.size, 0, none⟩ (.bool false)) D (.deferred none)) (fun e => by injection e; omega)
    have cB := hB3.cell
    have hsn := (hS.sn.setCell (a := ⟨w.heap.size, 0, none⟩) (by simp) (.bool false)).grown (grownBy_putObj' (X.setCell ⟨w.heap.size, 0, none⟩ (.bool false)) D (.deferred none)) (by simp; exact hS.sn.size) (fun r e => by cases e; omega)
    gi_wp2
    refine ⟨by simp, .inl ⟨_, _, rfl, run_takeDeferred hK2, ?_⟩⟩
    refine ⟨.bool false, ?_, by rw [hb], hsn⟩
    have cB' := cB
    simp [results, Try.f77, go_sem, cB']
  case stop =>
    rintro D c ps X hD hsp ⟨rfl, hS, x, hx, hx0⟩ hK
    have hb := HYES.out x (hsp.subset hx) hx0
    have hB3 := hS.br.kept (grownBy_putObj' X D (.deferred none)) (fun e => by injection e; omega)
    have cB := hB3.cell
    have hsn := hS.sn.grown (grownBy_putObj' X D (.deferred none)) hS.sn.size (fun r e => by cases e; omega)
    gi_wp2
    refine ⟨by simp, .inl ⟨_, _, rfl, run_takeDeferred hK, ?_⟩⟩
    refine ⟨.bool true, ?_, by rw [hb], hsn⟩
    have cB' := cB
    simp [results, Try.f77, go_sem, cB']

end Go.Proofs.Ytcnbffflgodheaa
end

section
namespace Go.Proofs.Ytcnbffflgodheaa
open Go.RowKit Go.Deep

theorem chOk_mono {n : Nat} {c : CH} (h : chOk n c) (hn : n ≤ 5) : chOk 5 c := by
  unfold chOk at h ⊢
  refine ⟨h.1, ?_⟩
  have h2 := h.2
  split
  · rename_i e
    rw [if_pos e] at h2
    omega
  · rename_i e
    rw [if_neg e] at h2
    omega

end Go.Proofs.Ytcnbffflgodheaa
end

section
namespace Go.Proofs.Ytcnbffflgodheaa
open Go.RowKit Go.Deep

set_option maxHeartbeats 1000000 in
theorem implNetMost_any (a : Option Addr) (cap N : Nat) (n : Int) (cs : List RC) (w : World) (hN : cs.length = N) (hcap : N ≤ cap) (h63 : cap ≤ 9223372036854775807) (hm : ChipsR w a cs) :
    Calls Try.prog 31 #[.int .i64 n, .slice a N cap] w fun e w' => e = .returned (.tuple #[.int .i64 (mostV n cs), .bool (netB n cs)]) ∧ w.Since w.heap.size w' := by
  have E := implNetIn_any a cap N n cs w hN (by omega) hm
  unfold mostV
  cases hb : netB n cs with
  | false =>
    rw [if_neg (by simp)]
    rw [hb] at E
    replace E := Lib.hid E
    clear hb hm hN
    go_enter Try.func31, Try.ntmps31
    go_wp2_with (go_at_call 76; refine (E.out).mono ?_; rintro e w1 ⟨rfl, hs1⟩; have HS1 := Lib.hid hs1; clear hs1)
    go_ret2
    exact ⟨rfl, HS1.out⟩
  | true =>
    rw [if_pos rfl]
    obtain ⟨m, rfl, ho⟩ := netB_ok hb
    rw [hb] at E
    replace E := Lib.hid E
    have hm5 := ho.hi
    have h10 := ho.len
    rw [hN] at h10
    obtain ⟨⟨p1, p2⟩, p3, p4, p5⟩ := p5_fin ⟨m, by omega⟩
    simp only at p1 p2 p3 p4 p5
    rw [Int.toNat_natCast, one_zero]
    have hany := fun (s : Nat) (hs : s < 2 ^ m) => lead_any (n := m) hm5 (cs := cs.map toC) (fun c hc => by
      obtain ⟨d, hd, rfl⟩ := List.mem_map.1 hc
      exact (ho.ok d hd).2) hs
    have hok5 : ∀ c ∈ cs, RCok c ∧ chOk 5 (toC c) := fun c hc => ⟨(ho.ok c hc).1, chOk_mono (ho.ok c hc).2 hm5⟩
    have E1 := Lib.hid (fun (W : World) (s : Nat) (hs : w.Since w.heap.size W) (h31 : s ≤ 31) => leadsOn_any a N cap s cs W hN h10 hcap h63 hok5 h31 (hm.since hs))
    have E2 := Lib.hid (fun (W : World) (s : Nat) (h : s < 64) => members_any s h W)
    have HAN := Lib.hid hany
    have p31 : 2 ^ m ≤ 2 ^ 5 := Nat.pow_le_pow_right (by omega) hm5
    obtain ⟨L, hL⟩ : ∃ L, (cs.map toC).map oneZ = L := ⟨_, rfl⟩
    rw [hL] at HAN ⊢
    obtain ⟨M, hM⟩ : ∃ M : Nat, 2 ^ m = M := ⟨_, rfl⟩
    rw [hM] at p1 p2 p4 p5 p31 ⊢
    simp only [hM] at HAN
    have HW := Lib.hid (show mostTo L M 0 = 0 from rfl)
    clear hb hm hN hany hok5 hL
    go_enter Try.func31, Try.ntmps31
    go_wp2_with (go_at_call 76; refine (E.out).mono ?_; rintro e w1 ⟨rfl, hs1⟩; have HS1 := Lib.hid hs1; clear hs1)
    go_loopg [6, 7, 14] M (fun g mv _ kv wr => ∃ f : Nat, f ≤ M ∧ g = M - f ∧ kv = .int .i64 f ∧ mv = .int .i64 (mostTo L M f : Nat) ∧ w.Since w.heap.size wr)
    case atStart => exact ⟨0, Nat.zero_le _, rfl, rfl, by rw [HW.out]; rfl, HS1.out⟩
    case round =>
      obtain ⟨f, hf, rfl, rfl, rfl, hS⟩ := hrel
      have HSS := Lib.hid hS
      clear hS
      by_cases hlt : f < M
      · have EL := E1.out wr f HSS.out (by omega)
        rw [HAN.out f hlt] at EL
        have hst : mostTo L M (f + 1) = if anyTo L f M = true then max (mostTo L M f) (popcS f) else mostTo L M f := rfl
        have EM := fun (W : World) => E2.out W f (by omega)
        obtain ⟨x, hx⟩ : ∃ x, popcS f = x := ⟨_, rfl⟩
        obtain ⟨y, hy⟩ : ∃ y, mostTo L M f = y := ⟨_, rfl⟩
        rw [hx, hy] at hst
        rw [hy]
        simp only [hx] at EM
        replace EM := Lib.hid EM
        cases hA : anyTo L f M with
        | true =>
          rw [hA, if_pos rfl] at hst
          rw [hA] at EL
          replace EL := Lib.hid EL
          have HST := Lib.hid hst
          clear hst hx hy hA
          rcases Nat.lt_or_ge y x with hxy | hxy
          all_goals
            go_wp2_with fail
            refine (EL.out).mono ?_
            rintro e w2 ⟨rfl, hs2⟩
            have HS2 := Lib.hid (HSS.out.trans (since_mono hs2 HSS.out.size))
            clear hs2
            go_wp2_with fail
            refine (EM.out w2).mono ?_
            rintro e w3 ⟨rfl, rfl⟩
            go_wp2
            go_roundg (M - (f + 1))
            case measure => omega
            case rel => exact ⟨f + 1, by omega, rfl, by go_num, by rw [HST.out]; congr 1; omega, HS2.out⟩
        | false =>
          rw [hA, if_neg (by simp)] at hst
          rw [hA] at EL
          replace EL := Lib.hid EL
          have HST := Lib.hid hst
          clear hst hx hy hA
          go_wp2_with fail
          refine (EL.out).mono ?_
          rintro e w2 ⟨rfl, hs2⟩
          have HS2 := Lib.hid (HSS.out.trans (since_mono hs2 HSS.out.size))
          clear hs2
          go_wp2
          go_roundg (M - (f + 1))
          case measure => omega
          case rel => exact ⟨f + 1, by omega, rfl, by go_num, by rw [HST.out], HS2.out⟩
      · obtain rfl : f = M := by omega
        go_wp2
        go_ret2
        exact ⟨rfl, HSS.out⟩

end Go.Proofs.Ytcnbffflgodheaa
end

section
namespace Go.Proofs.Ytcnbffflgodheaa
open Go.RowKit Go.Deep

theorem lawNetMost (x0 : Int) (a : Option Addr) (cap n : Nat) (l : List RC) (w : World) (hn : l.length = n) (h63 : n ≤ 9223372036854775807) (hs : ShortL l) (hm : ChipsR w a l) :
    Calls Try.prog 7 #[.int .i64 x0, .slice a n cap] w fun e w' => e = .returned (.bool true) ∧ w.Since w.heap.size w' :=
  lawNetMost_aux x0 a cap n l (mostV x0 l) (netB x0 l) w hn h63 hs hm (fun _ W b c _ _ _ hb => specNetMost_any b c n x0 l W hn h63 hb) (fun _ W b c h1 h2 _ hb => implNetMost_any b c n x0 l W hn h1 h2 hb)

end Go.Proofs.Ytcnbffflgodheaa
end

section
namespace Go.Proofs.Ytcnbffflgodheaa
open Go.ChangeShapes Go.WideShapes Go.ChangeAt Go.RowKit Go.Deep

theorem below_since' {B : Nat} {w w' : World} (h : Below B w w') : w.Since B w' := ⟨h.os, h.tape, h.output, h.size, h.block⟩
theorem since_below' {B : Nat} {w w' : World} (h : w.Since B w') : Below B w w' := ⟨h.os, h.tape, h.output, h.size, h.block⟩

section
variable {H : Type} {enc : TypeId × Value → H} {P : Program}
theorem post_of_below {f : Func} {s : ChangeSpec} {apart fresh handsOn again : Bool} {W W' : World} {args : Array Value} {v : Value} {ds gs : List (DataW H)} {before pa pv : List MemPlace}
    (hW : DataW.Whole enc P f.params.toList s.vars apart W args.toList ds gs before)
    (hres : ∀ (b : Nat) (sp : Nat → Bool) (hd : Bool), DataW.TrodAll enc P W' b sp hd f.resultTypes.toList (v.resultList f.resultTypes.size) (s.fn H (ds ++ gs)).results [])
    (hargs : ∀ sp : Nat → Bool, (∀ p ∈ before, sp p.block = true) → DataW.TrodAll enc P W' 0 sp true f.params.toList args.toList (s.fn H (ds ++ gs)).args pa)
    (hvars : ∀ sp : Nat → Bool, (∀ p ∈ before, sp p.block = true) → DataW.TrodVars enc P W' sp s.vars (s.fn H (ds ++ gs)).vars pv)
    (hps : before = pa ++ pv) (hb : Below W.heap.size W W') (hag : again = false) :
    s.post enc P f apart fresh handsOn again W args v W' := by
  have hlt : ∀ p ∈ before, p.block < W.heap.size := fun p hp => hW.lt p hp
  have hold : ∀ p ∈ before, (fun b => decide (b < W.heap.size)) p.block = true := fun p hp => by simpa using hlt p hp
  refine ⟨ds, gs, before, [], pa, pv, hW, hres _ _ _, hargs _ hold, hvars _ hold, World.keptBut_mono (fun p hp => ⟨hp, ?_⟩) (hb.frame (· ∈ before)), fun h => ?_⟩
  · rw [hps, List.mem_append] at hp
    exact Or.inr hp
  · rw [hag] at h; cases h

theorem open_mat {W : World} {t e q : TypeId} {a : Option Addr} {n cap : Nat} {d : DataW H} {p : List MemPlace} (ht : P.underlying t = some (.slice e)) (he : P.underlying e = some (.slice q)) (hq : P.underlying q = some (.int .i64))
    (ce : P.cellsOf e = 1) (cq : P.cellsOf q = 1) (h : DataW.Trod enc P W 0 (fun _ => true) true t (.slice a n cap) d p) :
    ∃ l : List (List Int), l.length = n ∧ MatR W a l ∧ n ≤ 9223372036854775807 ∧ ∀ r, r < l.length → (l.getD r []).length ≤ 9223372036854775807 := by
  obtain ⟨fuel, hf⟩ := h
  rcases open_int_rows ht he hq ce cq hf with ⟨hcs, _⟩ | ⟨a', len', cap', A, L, C, Z, hcs, _, hl, hm, _, hrows⟩
  · simp [Value.cells] at hcs
    obtain ⟨rfl, rfl, rfl⟩ := hcs
    exact ⟨[], rfl, (fun h => by simp at h), by omega, fun r hr => by simp at hr⟩
  · simp [Value.cells] at hcs
    obtain ⟨rfl, rfl, rfl⟩ := hcs
    have hmx : maxLen = 9223372036854775807 := rfl
    have hlen : ∀ r, r < n → ((Z r).take (L r)).length = L r := fun r hr => by
      obtain ⟨_, h1, _, h2, _⟩ := hrows r (by omega)
      rw [List.length_take]; omega
    have hget : ∀ r, r < n → ((List.range n).map fun r => (Z r).take (L r)).getD r [] = (Z r).take (L r) := fun r hr => by simp [List.getD, hr]
    refine ⟨(List.range n).map fun r => (Z r).take (L r), by simp, fun h => ?_, by omega, fun r hr => ?_⟩
    · obtain ⟨b, o, spot⟩ := a'
      simp at h
      have hspot : spot = none := by simpa [Addr.add] using World.cell?_spot (hrows 0 (by omega)).1
      subst hspot
      refine ⟨b, o, A, C, rfl, fun r hr => ?_⟩
      simp at hr
      rw [hget r hr, hlen r hr]
      obtain ⟨g1, g2, g3, g4, g5, g6, g7⟩ := hrows r (by omega)
      refine ⟨by rw [← add_plain]; exact g1, fun h0 => ?_⟩
      rw [hlen r hr] at h0
      cases hA : A r with
      | none => have := g6 hA; omega
      | some a'' =>
        obtain ⟨_, hcell⟩ := g7 a'' hA
        obtain ⟨b', o', sp⟩ := a''
        have hs : sp = none := by simpa [Addr.add] using World.cell?_spot (hcell 0 (by omega))
        subst hs
        refine ⟨b', o', rfl, fun i hi => ?_⟩
        rw [hlen r hr] at hi
        rw [← add_plain, hcell i (by omega)]
        congr 2
        simp [List.getD, hi]
    · simp at hr
      rw [hget r hr, hlen r hr]
      obtain ⟨_, h1, h2, _⟩ := hrows r (by omega)
      omega
end

theorem Try.own : ownKnob Try.prog.godebug = none := by kernel_rfl
theorem Try.laidOut : laidOutB Try.prog = true := by kernel_rfl
theorem Try.cellsR : Try.prog.cellsOf 42 = 1 := by kernel_rfl
theorem Try.cellsI : Try.prog.cellsOf 3 = 1 := by kernel_rfl

end Go.Proofs.Ytcnbffflgodheaa
end

section
namespace Go.Proofs.Ytcnbffflgodheaa
open Go.ChangeShapes Go.WideShapes Go.ChangeAt Go.RowKit Go.Deep

theorem addr_add0 (a : Addr) : a.add 0 = a := by
  cases a
  unfold Addr.add
  split <;> simp_all
theorem take_one {l : List Value} {i : Nat} (h : i < l.length) : ∃ v, l[i]? = some v ∧ (l.drop i).take 1 = [v] :=
  ⟨l[i], List.getElem?_eq_getElem h, by rw [List.drop_eq_getElem_cons h]; rfl⟩

theorem open_chips {H : Type} {enc : TypeId × Value → H} {P : Program} {W : World} {t e : TypeId} {f0 f1 f2 : Field} {a : Option Addr} {n cap : Nat} {d : DataW H} {p : List MemPlace} (ht : P.underlying t = some (.slice e)) (he : P.underlying e = some (.struct #[f0, f1, f2])) (ce : P.cellsOf e = 3)
    (u0 : P.underlying f0.type = some .string) (u1 : P.underlying f1.type = some (.int .i64)) (u2 : P.underlying f2.type = some (.int .i64)) (k0 : P.cellsOf f0.type = 1) (k1 : P.cellsOf f1.type = 1) (k2 : P.cellsOf f2.type = 1) (o0 : f0.offset = 0) (o1 : f1.offset = 1) (o2 : f2.offset = 2)
    (h : DataW.Trod enc P W 0 (fun _ => true) true t (.slice a n cap) d p) : ∃ cs : List RC, cs.length = n ∧ ChipsR W a cs ∧ n ≤ 9223372036854775807 ∧ ShortL cs := by
  have hmx : maxLen = 9223372036854775807 := rfl
  obtain ⟨fuel, hf⟩ := h
  rcases open_slice ht hf with ⟨hcs, _⟩ | ⟨a', len, cap', m, q, D, Pl, hcs, _, hl, hm, hmm, _, hi⟩
  · simp [Value.cells] at hcs
    obtain ⟨rfl, rfl, rfl⟩ := hcs
    exact ⟨[], rfl, (fun h => by simp at h), by omega, fun i hi => by simp at hi⟩
  · simp [Value.cells] at hcs
    obtain ⟨rfl, rfl, rfl⟩ := hcs
    have hnm : n ≤ m := by rw [hmm]; simp; exact hl
    -- one chip
    have hone : ∀ i, i < n → ∃ c : RC, (W.cell? (a'.add (i * 3)) = some (.string c.k) ∧ W.cell? ((a'.add (i * 3)).add 1) = some (.int .i64 c.l) ∧ W.cell? ((a'.add (i * 3)).add 2) = some (.int .i64 c.w)) ∧ c.k.size ≤ 9223372036854775807 := fun i hin => by
      obtain ⟨cs', hc, htr⟩ := hi i (by omega)
      rw [ce] at hc
      obtain ⟨_, hlen, hat⟩ := World.cells?_some hc
      obtain ⟨xs, q', _, _, _, hxl, hg⟩ := DataW.trod_struct he htr
      have g : ∀ j, j < 3 → ∃ x, xs[j]? = some x := fun j hj => ⟨xs[j]'(by rw [hxl]; exact hj), List.getElem?_eq_getElem _⟩
      obtain ⟨x0, y0⟩ := g 0 (by omega)
      obtain ⟨x1, y1⟩ := g 1 (by omega)
      obtain ⟨x2, y2⟩ := g 2 (by omega)
      have h0 := hg 0 f0 rfl
      have h1 := hg 1 f1 rfl
      have h2 := hg 2 f2 rfl
      obtain ⟨v0, e0, t0⟩ := take_one (show 0 < cs'.length by omega)
      obtain ⟨v1, e1, t1⟩ := take_one (show 1 < cs'.length by omega)
      obtain ⟨v2, e2, t2⟩ := take_one (show 2 < cs'.length by omega)
      rw [o0, k0, t0, y0] at h0
      rw [o1, k1, t1, y1] at h1
      rw [o2, k2, t2, y2] at h2
      obtain ⟨s, r0, _, hs⟩ := DataW.trod_string u0 h0
      obtain ⟨L, r1, _, _⟩ := DataW.trod_int u1 h1
      obtain ⟨V, r2, _, _⟩ := DataW.trod_int u2 h2
      cases r0; cases r1; cases r2
      refine ⟨⟨s, L, V⟩, ⟨?_, ?_, ?_⟩, by show s.size ≤ _; rw [← hmx]; exact hs⟩
      · have := hat 0 (by omega)
        rw [e0] at this
        rwa [addr_add0] at this
      · rw [hat 1 (by omega), e1]
      · rw [hat 2 (by omega), e2]
    refine ⟨(List.range n).map fun i => if hi : i < n then Classical.choose (hone i hi) else rc0, by simp, fun h0 => ?_, by omega, fun i hi => ?_⟩
    · have h0' : 0 < n := by simpa using h0
      obtain ⟨b, o, spot⟩ := a'
      obtain ⟨c, ⟨g0, _⟩, _⟩ := hone 0 h0'
      have hspot : spot = none := by simpa [Addr.add] using World.cell?_spot g0
      subst hspot
      refine ⟨b, o, rfl, fun i hi => ?_⟩
      have hi' : i < n := by simpa using hi
      have hget : ((List.range n).map fun i => if hi : i < n then Classical.choose (hone i hi) else rc0).getD i rc0 = Classical.choose (hone i hi') := by simp [List.getD, hi']
      rw [hget]
      have := (Classical.choose_spec (hone i hi')).1
      simpa [addr_add, Nat.add_assoc] using this
    · have hi' : i < n := by simpa using hi
      have hget : ((List.range n).map fun i => if hi : i < n then Classical.choose (hone i hi) else rc0).getD i rc0 = Classical.choose (hone i hi') := by simp [List.getD, hi']
      rw [hget]
      exact (Classical.choose_spec (hone i hi')).2

end Go.Proofs.Ytcnbffflgodheaa
end
