import Derived.Test.YtbedkjpbdkgjpaaMark
import Derived.Test.YtbedkjpbdkgjpaaUnitSpec
import Derived.Test.YtbedkjpbdkgjpaaRelI
import Derived.Test.YtbedkjpbdkgjpaaPlaceS
import Derived.Test.YtbedkjpbdkgjpaaRows
import Derived.Test.YtbedkjpbdkgjpaaData
import Derived.ProofKit
import Derived.Deep.Matrix

section
/- Rows that a call has made in a block of its own: what is said of them, how they stay, and what marking them does. -/
namespace Go.Proofs.Ytbedkjpbdkgjpaa
open Go.RowKit Go.Deep

/-- A row that reads as x, in the blocks from lo to hi. -/
def InR (lo hi : Nat) (w : World) (a : Option Addr) (x : List Int) : Prop :=
  0 < x.length → ∃ g o : Nat, a = some ⟨g, o, none⟩ ∧ (lo ≤ g ∧ g < hi) ∧ ∀ i, i < x.length → w.cell? ⟨g, o + i, none⟩ = some (.int .i64 (x.getD i 0))
/-- .. in a block of its own that may be written. -/
def OwnR (lo hi : Nat) (w : World) (a : Option Addr) (x : List Int) : Prop :=
  0 < x.length → ∃ g : Nat, a = some ⟨g, 0, none⟩ ∧ (lo ≤ g ∧ g < hi) ∧ ∀ i, i < x.length → w.cell? ⟨g, i, none⟩ = some (.int .i64 (x.getD i 0)) ∧ w.frozen? ⟨g, i, none⟩ = false
theorem OwnR.inR {lo hi : Nat} {w : World} {a : Option Addr} {x : List Int} (h : OwnR lo hi w a x) : InR lo hi w a x := fun h0 => by
  obtain ⟨g, e, hg, hc⟩ := h h0
  exact ⟨g, 0, e, hg, fun i hi => by rw [Nat.zero_add]; exact (hc i hi).1⟩
theorem InR.rowR {lo hi : Nat} {w : World} {a : Option Addr} {x : List Int} (h : InR lo hi w a x) : RowR w a x := fun h0 => by
  obtain ⟨g, o, e, _, hc⟩ := h h0
  exact ⟨g, o, e, hc⟩
theorem OwnR.rowR {lo hi : Nat} {w : World} {a : Option Addr} {x : List Int} (h : OwnR lo hi w a x) : RowR w a x := h.inR.rowR
theorem InR.nil (lo hi : Nat) (w : World) (a : Option Addr) : InR lo hi w a [] := fun h => by simp at h
theorem OwnR.nil (lo hi : Nat) (w : World) (a : Option Addr) : OwnR lo hi w a [] := fun h => by simp at h
theorem InR.mono {lo hi lo' hi' : Nat} {w : World} {a : Option Addr} {x : List Int} (h : InR lo hi w a x) (h1 : lo' ≤ lo) (h2 : hi ≤ hi') : InR lo' hi' w a x := fun h0 => by
  obtain ⟨g, o, e, hg, hc⟩ := h h0
  exact ⟨g, o, e, by omega, hc⟩
theorem OwnR.mono {lo hi lo' hi' : Nat} {w : World} {a : Option Addr} {x : List Int} (h : OwnR lo hi w a x) (h1 : lo' ≤ lo) (h2 : hi ≤ hi') : OwnR lo' hi' w a x := fun h0 => by
  obtain ⟨g, e, hg, hc⟩ := h h0
  exact ⟨g, e, by omega, hc⟩
theorem InR.frame {lo hi lo' hi' : Nat} {w w' : World} {a : Option Addr} {x : List Int} (h : InR lo hi w a x) (hf : Frame lo' hi' w w') (hd : hi ≤ lo' ∨ hi' ≤ lo) : InR lo hi w' a x := fun h0 => by
  obtain ⟨g, o, e, hg, hc⟩ := h h0
  exact ⟨g, o, e, hg, fun i hi1 => hf.cell (hc i hi1) (by show g < lo' ∨ hi' ≤ g; omega)⟩
theorem OwnR.frame {lo hi lo' hi' : Nat} {w w' : World} {a : Option Addr} {x : List Int} (h : OwnR lo hi w a x) (hf : Frame lo' hi' w w') (hd : hi ≤ lo' ∨ hi' ≤ lo) : OwnR lo hi w' a x := fun h0 => by
  obtain ⟨g, e, hg, hc⟩ := h h0
  exact ⟨g, e, hg, fun i hi1 => ⟨hf.cell (hc i hi1).1 (by show g < lo' ∨ hi' ≤ g; omega), (hf.frozen (hc i hi1).1 (by show g < lo' ∨ hi' ≤ g; omega)).trans (hc i hi1).2⟩⟩
theorem InR.since {lo hi : Nat} {w w' : World} {a : Option Addr} {x : List Int} (h : InR lo hi w a x) (hs : w.Since w.heap.size w') : InR lo hi w' a x := h.frame (frame_since hs hi hi) (.inl (Nat.le_refl _))
theorem OwnR.since {lo hi : Nat} {w w' : World} {a : Option Addr} {x : List Int} (h : OwnR lo hi w a x) (hs : w.Since w.heap.size w') : OwnR lo hi w' a x := h.frame (frame_since hs hi hi) (.inl (Nat.le_refl _))
theorem RowMade.ownR {w wr : World} {l : List Int} (h : RowMade w wr l l.length) : OwnR w.heap.size wr.heap.size wr (some ⟨w.heap.size, 0, none⟩) l := fun _ => by
  have hs := h.size
  refine ⟨w.heap.size, rfl, by omega, fun i hi => ⟨?_, h.row.frozen i⟩⟩
  have := h.row.cell (i := i) hi
  rw [if_pos hi] at this
  exact this

/-- A copy of a row. -/
theorem toIntR_any (a : Option Addr) (cap n : Nat) (l : List Int) (w : World) (hn : l.length = n) (hn1 : n ≤ 1048576) (hm : RowR w a l) :
    Calls Try.prog 16 #[.slice a n cap] w fun e w' => e = .returned (.slice (some ⟨w.heap.size, 0, none⟩) n n) ∧ w.Since w.heap.size w' ∧ OwnR w.heap.size w'.heap.size w' (some ⟨w.heap.size, 0, none⟩) l := by
  subst hn
  exact (toIntS_any a cap l w hn1 hm).mono fun _ _ h => ⟨h.1, h.2.since, h.2.ownR⟩

/-- A row of one's own is marked. -/
theorem markR_any (a : Option Addr) (lo hi cap m : Nat) (k : Int) (x : List Int) (w : World) (hx : x.length = m) (h0 : 0 ≤ k) (hk : k + m ≤ 4000000) (h : OwnR lo hi w a x) :
    Calls Try.prog 23 #[.slice a m cap, .int .i64 k] w fun e w' => e = .returned (.int .i64 (k + m)) ∧ OwnR lo hi w' a (markRow k m) ∧ Frame lo hi w w' ∧ w'.heap.size = w.heap.size := by
  by_cases h1 : 0 < m
  · obtain ⟨g, e, hg, hc⟩ := h (by omega)
    refine (markIntS_any a g cap m k x w hx h0 hk (fun _ => e) (fun i hi => (hc i (by omega)).1) (fun i hi => (hc i (by omega)).2)).mono ?_
    rintro r w' ⟨rfl, hM⟩
    refine ⟨rfl, fun _ => ⟨g, e, hg, fun i hi => ?_⟩, hM.frame (.inl hg), hM.size⟩
    rw [markRow_length] at hi
    refine ⟨?_, hM.frozen i hi⟩
    rw [hM.cell i hi, if_pos hi, markRow_get _ _ _ hi]
  · have hm : m = 0 := by omega
    subst hm
    have hxe : x = [] := List.length_eq_zero_iff.1 hx
    clear h
    go_enter Try.func23, Try.ntmps23
    go_wp2
    go_loopg [1, 5] 0 (fun g q i wr => q = .int .i64 k ∧ i = .int .i64 0 ∧ wr = w)
    case atStart => exact ⟨rfl, rfl, rfl⟩
    case round =>
      obtain ⟨rfl, rfl, rfl⟩ := hrel
      go_wp2
      go_ret
      exact ⟨ret_int (by simp), OwnR.nil _ _ _ _, Frame.refl _ _ _, rfl⟩

end Go.Proofs.Ytbedkjpbdkgjpaa
end

section
/- The walk of laws.FnExactPlaceRelated, over the contracts of spec.PlaceRelated and impl.PlaceRelated. -/
namespace Go.Proofs.Ytbedkjpbdkgjpaa
open Go.RowKit Go.Deep

set_option maxRecDepth 100000 in
set_option maxHeartbeats 1000000 in
theorem lawPlaceRelated_aux (k n : Int) (a0 : Option Addr) (cap0 n0 : Nat) (l0 : List Int) (ok : Bool) (w : World) (hn0 : l0.length = n0) (h630 : n0 ≤ 9223372036854775807) (hm0 : RowR w a0 l0)
    (hspec : n0 ≤ 1048576 → ∀ (W : World) (b0 : Option Addr) (c0 : Nat), RowR W b0 l0 → Calls Try.prog 19 #[.int .i64 k, .int .i64 n, .slice b0 n0 c0] W (fun e w' => e = .returned (.bool ok) ∧ W.Since W.heap.size w'))
    (himpl : n0 ≤ 1048576 → ∀ (W : World) (b0 : Option Addr) (c0 : Nat), RowR W b0 l0 → Calls Try.prog 20 #[.int .i64 k, .int .i64 n, .slice b0 n0 c0] W (fun e w' => e = .returned (.bool ok) ∧ W.Since W.heap.size w')) :
    Calls Try.prog 4 #[.int .i64 k, .int .i64 n, .slice a0 n0 cap0] w fun e w' => e = .returned (.bool true) ∧ w.Since w.heap.size w' := by
  have HN0 := Lib.hid hn0
  have HM0 := Lib.hid hm0
  have HSPEC := Lib.hid hspec
  have HIMPL := Lib.hid himpl
  clear hspec himpl hn0 hm0
  by_cases hbig0 : 1048576 < n0
  · have hb0 : decide ((1048576 : Int) < (n0 : Int)) = true := by simp; omega
    go_enter Try.func4, Try.ntmps4
    go_wp2
    go_ret
    exact ⟨rfl, World.Since.refl _ _⟩
  have hb0 : decide ((1048576 : Int) < (n0 : Int)) = false := by simp; omega
  have hm0 : n0 ≤ 1048576 := by omega
  have HCP0 := Lib.hid (fun (W : World) (hs : w.Since w.heap.size W) => toIntR_any a0 cap0 n0 l0 W HN0.out hm0 (HM0.out.since hs))
  have s0 : w.Since w.heap.size w := World.Since.refl _ _
  cases ok
  all_goals
    go_enter Try.func4, Try.ntmps4
    go_wp2_with fail
    refine (HCP0.out _ s0).mono ?_
    rintro e w1 ⟨rfl, t1, o1⟩
    have s1 : w.Since w.heap.size w1 := s0.trans (since_mono t1 s0.size)
    have z1 := t1.size
    go_wp2_with fail
    refine (HSPEC.out hm0 _ _ _ o1.rowR).mono ?_
    rintro e w2 ⟨rfl, t2⟩
    have s2 : w.Since w.heap.size w2 := s1.trans (since_mono t2 s1.size)
    have z2 := t2.size
    replace o1 := o1.since t2
    clear o1
    go_wp2_with fail
    refine (HCP0.out _ s2).mono ?_
    rintro e w3 ⟨rfl, t3, gx0⟩
    have s3 : w.Since w.heap.size w3 := s2.trans (since_mono t3 s2.size)
    have z3 := t3.size
    go_wp2_with fail
    refine (HIMPL.out hm0 _ _ _ gx0.rowR).mono ?_
    rintro e w4 ⟨rfl, t4⟩
    have s4 : w.Since w.heap.size w4 := s3.trans (since_mono t4 s3.size)
    have z4 := t4.size
    replace gx0 := gx0.since t4
    go_wp2_with fail
    refine (HCP0.out _ s4).mono ?_
    rintro e w5 ⟨rfl, t5, o5⟩
    have s5 : w.Since w.heap.size w5 := s4.trans (since_mono t5 s4.size)
    have z5 := t5.size
    replace gx0 := gx0.since t5
    go_wp2_with fail
    refine (eqIntS_same _ _ _ _ _ l0 _ HN0.out h630 gx0.rowR o5.rowR).mono ?_
    rintro e w6 ⟨rfl, d6⟩
    have t6 := d6.since w5.heap.size
    clear d6
    have s6 : w.Since w.heap.size w6 := s5.trans (since_mono t6 s5.size)
    have z6 := t6.size
    replace gx0 := gx0.since t6
    replace o5 := o5.since t6
    clear o5
    go_wp2
    go_ret
    exact ⟨rfl, s6⟩

end Go.Proofs.Ytbedkjpbdkgjpaa
end

section
/- The contract of impl.PlaceRelated: it lies in RelI. -/
namespace Go.Proofs.Ytbedkjpbdkgjpaa
end Go.Proofs.Ytbedkjpbdkgjpaa
end

section
/- The walk of laws.FnExactPlaceRelated at any arguments. -/
namespace Go.Proofs.Ytbedkjpbdkgjpaa
open Go.RowKit Go.Deep

theorem lawPlaceRelated (k n : Int) (a0 : Option Addr) (cap0 n0 : Nat) (l0 : List Int) (w : World) (hn0 : l0.length = n0) (h630 : n0 ≤ 9223372036854775807) (hm0 : RowR w a0 l0) :
    Calls Try.prog 4 #[.int .i64 k, .int .i64 n, .slice a0 n0 cap0] w fun e w' => e = .returned (.bool true) ∧ w.Since w.heap.size w' :=
  lawPlaceRelated_aux k n a0 cap0 n0 l0 (relB k n l0) w hn0 h630 hm0 (fun q0 W b0 c0 hb0 => specPlaceRelated_any k n b0 c0 n0 l0 W hn0 q0 hb0) (fun q0 W b0 c0 hb0 => implPlaceRelated_any k n b0 c0 n0 l0 W hn0 q0 hb0)

end Go.Proofs.Ytbedkjpbdkgjpaa
end

section
/- What an argument reads as, in the words of the walks; the last step of a row. -/
namespace Go.Proofs.Ytbedkjpbdkgjpaa
open Go.ChangeShapes Go.WideShapes Go.ChangeAt Go.RowKit Go.Deep

theorem below_since' {B : Nat} {w w' : World} (h : Below B w w') : w.Since B w' := ⟨h.os, h.tape, h.output, h.size, h.block⟩
theorem since_below' {B : Nat} {w w' : World} (h : w.Since B w') : Below B w w' := ⟨h.os, h.tape, h.output, h.size, h.block⟩

section
variable {H : Type} {enc : TypeId × Value → H} {P : Program}
theorem post_of_below {f : Func} {s : ChangeSpec} {apart fresh handsOn again : Bool} {W W' : World} {args : Array Value} {v : Value} {ds gs : List (DataW H)} {before pa pv : List MemPlace}
    (hW : DataW.Whole enc P f.params.toList s.vars apart W args.toList ds gs before)
    (hres : ∀ (b : Nat) (sp : Nat → Bool) (hd : Bool), DataW.TrodAll enc P W' b sp hd f.resultTypes.toList (v.resultList f.resultTypes.size) (s.fn H (ds ++ gs)).results [])
    (hargs : ∀ sp : Nat → Bool, (∀ p ∈ before, sp p.block = true) → DataW.TrodAll enc P W' 0 sp true f.params.toList args.toList (s.fn H (ds ++ gs)).args pa)
    (hvars : ∀ sp : Nat → Bool, (∀ p ∈ before, sp p.block = true) → DataW.TrodVars enc P W' sp s.vars (s.fn H (ds ++ gs)).vars pv)
    (hps : before = pa ++ pv) (hb : Below W.heap.size W W') (hag : again = false) :
    s.post enc P f apart fresh handsOn again W args v W' := by
  have hlt : ∀ p ∈ before, p.block < W.heap.size := fun p hp => hW.lt p hp
  have hold : ∀ p ∈ before, (fun b => decide (b < W.heap.size)) p.block = true := fun p hp => by simpa using hlt p hp
  refine ⟨ds, gs, before, [], pa, pv, hW, hres _ _ _, hargs _ hold, hvars _ hold, World.keptBut_mono (fun p hp => ⟨hp, ?_⟩) (hb.frame (· ∈ before)), fun h => ?_⟩
  · rw [hps, List.mem_append] at hp
    exact Or.inr hp
  · rw [hag] at h; cases h

/-- An argument of slices of integers reads as a list of lists. -/
theorem open_mat {W : World} {t e q : TypeId} {a : Option Addr} {n cap : Nat} {d : DataW H} {p : List MemPlace} (ht : P.underlying t = some (.slice e)) (he : P.underlying e = some (.slice q)) (hq : P.underlying q = some (.int .i64))
    (ce : P.cellsOf e = 1) (cq : P.cellsOf q = 1) (h : DataW.Trod enc P W 0 (fun _ => true) true t (.slice a n cap) d p) :
    ∃ l : List (List Int), l.length = n ∧ MatR W a l ∧ n ≤ 9223372036854775807 ∧ ∀ r, r < l.length → (l.getD r []).length ≤ 9223372036854775807 := by
  obtain ⟨fuel, hf⟩ := h
  rcases open_int_rows ht he hq ce cq hf with ⟨hcs, _⟩ | ⟨a', len', cap', A, L, C, Z, hcs, _, hl, hm, _, hrows⟩
  · simp [Value.cells] at hcs
    obtain ⟨rfl, rfl, rfl⟩ := hcs
    exact ⟨[], rfl, (fun h => by simp at h), by omega, fun r hr => by simp at hr⟩
  · simp [Value.cells] at hcs
    obtain ⟨rfl, rfl, rfl⟩ := hcs
    have hmx : maxLen = 9223372036854775807 := rfl
    have hlen : ∀ r, r < n → ((Z r).take (L r)).length = L r := fun r hr => by
      obtain ⟨_, h1, _, h2, _⟩ := hrows r (by omega)
      rw [List.length_take]; omega
    have hget : ∀ r, r < n → ((List.range n).map fun r => (Z r).take (L r)).getD r [] = (Z r).take (L r) := fun r hr => by simp [List.getD, hr]
    refine ⟨(List.range n).map fun r => (Z r).take (L r), by simp, fun h => ?_, by omega, fun r hr => ?_⟩
    · obtain ⟨b, o, spot⟩ := a'
      simp at h
      have hspot : spot = none := by simpa [Addr.add] using World.cell?_spot (hrows 0 (by omega)).1
      subst hspot
      refine ⟨b, o, A, C, rfl, fun r hr => ?_⟩
      simp at hr
      rw [hget r hr, hlen r hr]
      obtain ⟨g1, g2, g3, g4, g5, g6, g7⟩ := hrows r (by omega)
      refine ⟨by rw [← add_plain]; exact g1, fun h0 => ?_⟩
      rw [hlen r hr] at h0
      cases hA : A r with
      | none => have := g6 hA; omega
      | some a'' =>
        obtain ⟨_, hcell⟩ := g7 a'' hA
        obtain ⟨b', o', sp⟩ := a''
        have hs : sp = none := by simpa [Addr.add] using World.cell?_spot (hcell 0 (by omega))
        subst hs
        refine ⟨b', o', rfl, fun i hi => ?_⟩
        rw [hlen r hr] at hi
        rw [← add_plain, hcell i (by omega)]
        congr 2
        simp [List.getD, hi]
    · simp at hr
      rw [hget r hr, hlen r hr]
      obtain ⟨_, h1, h2, _⟩ := hrows r (by omega)
      omega
end

theorem Try.own : ownKnob Try.prog.godebug = none := by kernel_rfl
theorem Try.laidOut : laidOutB Try.prog = true := by kernel_rfl
theorem Try.cellsR : Try.prog.cellsOf 22 = 1 := by kernel_rfl
theorem Try.cellsI : Try.prog.cellsOf 3 = 1 := by kernel_rfl

end Go.Proofs.Ytbedkjpbdkgjpaa
end

section
/- An argument of integers reads as a row. -/
namespace Go.Proofs.Ytbedkjpbdkgjpaa
open Go.ChangeShapes Go.WideShapes Go.ChangeAt Go.RowKit Go.Deep

theorem open_row {H : Type} {enc : TypeId × Value → H} {P : Program} {W : World} {t e : TypeId} {a : Option Addr} {n cap : Nat} {d : DataW H} {p : List MemPlace} (ht : P.underlying t = some (.slice e)) (he : P.underlying e = some (.int .i64)) (ce : P.cellsOf e = 1)
    (h : DataW.Trod enc P W 0 (fun _ => true) true t (.slice a n cap) d p) : ∃ x : List Int, x.length = n ∧ RowR W a x ∧ n ≤ 9223372036854775807 := by
  obtain ⟨fuel, hf⟩ := h
  rcases open_ints ht he ce hf with ⟨hcs, _⟩ | ⟨a', len, cap', zs, hcs, _, hl, hm, hlen, _, hcell, _⟩
  · simp [Value.cells] at hcs
    obtain ⟨rfl, rfl, rfl⟩ := hcs
    exact ⟨[], rfl, (fun h => by simp at h), by omega⟩
  · simp [Value.cells] at hcs
    obtain ⟨rfl, rfl, rfl⟩ := hcs
    have hmx : maxLen = 9223372036854775807 := rfl
    have hzl : zs.length = cap := by simpa using hlen
    refine ⟨zs.take n, by rw [List.length_take]; omega, fun h0 => ?_, by omega⟩
    have h0' : 0 < n := by rw [List.length_take] at h0; omega
    obtain ⟨b, o, spot⟩ := a'
    have hspot : spot = none := by simpa [Addr.add] using World.cell?_spot (hcell 0 (by omega))
    subst hspot
    refine ⟨b, o, rfl, fun i hi => ?_⟩
    have hi2 : i < n := by rw [List.length_take] at hi; omega
    rw [← add_plain, hcell i (by omega)]
    congr 2
    simp [List.getD, hi2]

end Go.Proofs.Ytbedkjpbdkgjpaa
end

section
/- The statement FnExactPlaceRelated, proved: for every input the law returns true and each argument reads as before. No conditions. -/
namespace Go.Proofs.Ytbedkjpbdkgjpaa
open Go.ChangeShapes Go.WideShapes Go.ChangeAt Go.RowKit Go.Deep

set_option maxRecDepth 100000 in
theorem lifted_PlaceRelated (os : Os) (started : os.Started) (H : Type) (enc : TypeId × Value → H) :
    ReturnsInHanded {} Try.checked os 4 .any (Rows.fnExactPlaceRelatedSpec.pre6 enc Try.prog Try.f4 Rows.fnExactPlaceRelatedRow.domain false) (Rows.fnExactPlaceRelatedSpec.post enc Try.prog Try.f4 false true false false) := by
  refine returnsInHanded_of_change (C := Try.checked) Try.own started (by kernel_rfl) Try.func4
    (ChangeSpec.witness6 (enc := enc) (C := Try.checked) false ⟨#[], #[.int .i64 0, .int .i64 0, .slice none 0 0], []⟩ 8 (by kernel_rfl) (by kernel_rfl) (by kernel_rfl) (by kernel_rfl)) ?_
  intro W base args ds gs before hval0 hW _ _
  have hval : ∀ (j : Nat) t v, Try.f4.params[j]? = some t → args[j]? = some v → Value.okWide Try.prog W .any base t v := hval0
  have hW' := hW
  obtain ⟨p, q, hA0, hV, rfl, hfz, hnd⟩ := hW
  have hA : DataW.TrodAll enc Try.prog W 0 (fun _ => true) true Try.f4.params.toList args.toList ds p := hA0
  rw [Try.params4] at hA hval
  obtain ⟨v0, v1, v2, d0, d1, d2, p0, p1, p2, rfl, rfl, rfl, h0, h1, h2⟩ := trodAll_three hA
  obtain ⟨rfl, rfl⟩ := trodVars_none hV
  obtain ⟨x0, rfl, rfl, rfl, wx0⟩ := open_int Try.underlying3 (hval 0 3 v0 rfl rfl) h0
  obtain ⟨x1, rfl, rfl, rfl, wx1⟩ := open_int Try.underlying3 (hval 1 3 v1 rfl rfl) h1
  obtain ⟨a2, n2, cap2, rfl⟩ := okWide_slice Try.underlying22 (hval 2 22 v2 rfl rfl)
  obtain ⟨l2, hl2, hm2, h632⟩ := open_row Try.underlying22 Try.underlying3 Try.cellsI h2
  clear hA0 hval0
  simp only [List.append_nil, List.nil_append] at hW'
  have hlt2 : ∀ x ∈ p2, x.block < W.heap.size := fun x hx => hW'.lt x (by simp [hx])
  refine (lawPlaceRelated x0 x1 a2 cap2 n2 l2 W hl2 h632 hm2).mono fun e W' ⟨he, hs⟩ => ?_
  subst he
  have hb := since_below' hs
  have ht2 : ∀ sp : Nat → Bool, (∀ x ∈ p2, sp x.block = true) → DataW.Trod enc Try.prog W' 0 sp true 22 (.slice a2 n2 cap2) d2 p2 := fun sp hsp =>
    WideElems.Trod_stays Try.laidOut (by kernel_rfl) (of_decide_eq_true (by kernel_rfl)) h2 (fun x hx => hb.same (hlt2 x hx)) hsp
  have hargs : ∀ sp : Nat → Bool, (∀ x ∈ (p2), sp x.block = true) → DataW.TrodAll enc Try.prog W' 0 sp true [3, 3, 22] [.int .i64 x0, .int .i64 x1, .slice a2 n2 cap2] [.lit (.int .i64 x0), .lit (.int .i64 x1), d2] (p2) := fun sp hsp => by
    have := trodAll_mk3 (enc := enc) (P := Try.prog) (w := W') (base := 0) (spare := sp) (held := true) (shut_int Try.underlying3 wx0) (shut_int Try.underlying3 wx1) (ht2 sp (fun x hx => hsp x (by simp [hx])))
    simpa using this
  exact ⟨_, rfl, post_of_below (pa := p2) (pv := []) hW' (fun _ _ _ => trodAll_mk1 (shut_bool Try.underlying4 true)) (fun sp hsp => hargs sp (fun x hx => hsp x (by simpa using hx))) (fun _ _ => rfl) (by simp) hb rfl⟩

theorem FnExactPlaceRelated_holds : Rows.FnExactPlaceRelatedSaid :=
  OpenClaim.holds_of_wide 4 Try.f4 rfl rfl rfl rfl rfl rfl rfl ⟨rfl, rfl, rfl, rfl, rfl⟩ rfl rfl rfl rfl rfl (by kernel_rfl) Try.func4 (by kernel_rfl)
    (of_decide_eq_true (by kernel_rfl)) (by unfold Func.isWrapper; first | (rw [if_pos (by decide +kernel)]; kernel_rfl) | (rw [if_neg (by decide +kernel)]; exact ⟨rfl, rfl⟩))
    (fun os started H enc _ => lifted_PlaceRelated os started H enc)

end Go.Proofs.Ytbedkjpbdkgjpaa
end
