import Derived.Test.YthdemjfllfhhpaaCopyG
import Derived.Test.YthdemjfllfhhpaaDraws
import Derived.Test.YthdemjfllfhhpaaWR
import Derived.Deep.RegionHeld3
import Derived.RangeFuncBox
import Derived.Test.YthdemjfllfhhpaaTurnImpl
import Derived.Test.YthdemjfllfhhpaaGrid
import Derived.Test.YthdemjfllfhhpaaDet
import Derived.Test.YthdemjfllfhhpaaRowsF
import Derived.RangeFuncNested
import Derived.RangeFuncBound
import Derived.RangeFuncCalls
import Derived.RangeFuncLeaves
import Derived.Shelf.Abstract
import Derived.Shelf.RegionOpen
import Derived.WalkKit
import Derived.OwnWalkIn
import Derived.TacticsInMore
import Derived.LoopNIn
import Derived.LoopIn
import Derived.Test.YthdemjfllfhhpaaImpl1
import Derived.Test.YthdemjfllfhhpaaSetsK
import Derived.Test.YthdemjfllfhhpaaRoads
import Derived.Test.YthdemjfllfhhpaaSig
import Derived.Test.YthdemjfllfhhpaaMembers
import Derived.Test.YthdemjfllfhhpaaPivotsI
import Derived.Test.YthdemjfllfhhpaaMinorV
import Derived.Test.YthdemjfllfhhpaaSets
import Derived.Deep.QuietTactic
import Derived.BigQuiet
import Derived.Deep.AppendLies
import Derived.Laws.EntriesVeiled
import Derived.WalkHide
import Derived.Test.YthdemjfllfhhpaaRankV
import Derived.Test.YthdemjfllfhhpaaHarn2
import Derived.Test.YthdemjfllfhhpaaDrawOne
import Derived.Test.YthdemjfllfhhpaaRows
import Derived.Test.YthdemjfllfhhpaaData
import Derived.ProofKit
import Derived.Deep.Matrix
import Derived.Test.YthdemjfllfhhpaaDraw0

section
namespace Go.Proofs.Ythdemjfllfhhpaa
open Go.RowKit Go.Deep

theorem grown_of_since' {w w' : World} {G : Nat} (h : w.Since w.heap.size w') : w.grownBy w' (some G) := ⟨h.os, h.tape, h.output, h.size, fun k hk _ => h.block k hk⟩
theorem grown_of_drew {w w' : World} {row : Option Nat} (h : w.drew.grownBy w' row) : w.grownBy w' row := ⟨h.os, h.tape, h.output, h.size, h.block⟩
theorem heap_cell {X Y : World} {b : Nat} (e : Y.heap[b]? = X.heap[b]?) (k : Nat) : Y.cell? ⟨b, k, none⟩ = X.cell? ⟨b, k, none⟩ ∧ Y.frozen? ⟨b, k, none⟩ = X.frozen? ⟨b, k, none⟩ := by
  constructor
  · simp only [World.cell?, e]
  · simp only [World.frozen?, e]
theorem OwnT.grown {lo hi G0 : Nat} {w W : World} {a : Option Addr} {l : List (List Int)} (h : OwnT lo hi w a l) (hg : w.grownBy W (some G0)) (h0 : G0 < lo) (hh : hi ≤ w.heap.size) : OwnT lo hi W a l := by
  intro hl
  obtain ⟨b, A, G, C, e, hb, hr, hd⟩ := h hl
  have kp : ∀ g, lo ≤ g → g < hi → W.heap[g]? = w.heap[g]? := fun g g1 g2 => hg.block g (by omega) (fun e => by injection e; omega)
  refine ⟨b, A, G, C, e, hb, fun r h1 => ?_, hd⟩
  obtain ⟨c1, c2⟩ := hr r h1
  refine ⟨(heap_cell (kp b hb.1 hb.2) r).1.trans c1, fun h2 => ?_⟩
  obtain ⟨d1, d2, d3⟩ := c2 h2
  exact ⟨d1, d2, fun i hi => ⟨(heap_cell (kp _ d2.1 d2.2.1) i).1.trans (d3 i hi).1, (heap_cell (kp _ d2.1 d2.2.1) i).2.trans (d3 i hi).2⟩⟩
theorem OwnT.setNum {lo hi : Nat} {w : World} {a : Option Addr} {l : List (List Int)} (h : OwnT lo hi w a l) {r k : Nat} (hr : r < l.length) (hk : k < (l.getD r []).length) :
    ∃ b g c, a = some ⟨b, 0, none⟩ ∧ w.cell? ⟨b, r, none⟩ = some (.slice (some ⟨g, 0, none⟩) (l.getD r []).length c) ∧ w.cell? ⟨g, k, none⟩ = some (.int .i64 ((l.getD r []).getD k 0)) ∧ (lo ≤ g ∧ g ≠ b) ∧
      ∀ W : World, (∀ g', lo ≤ g' → g' < hi → W.heap[g']? = w.heap[g']?) → W.cell? ⟨b, r, none⟩ = some (.slice (some ⟨g, 0, none⟩) (l.getD r []).length c) ∧ W.cell? ⟨g, k, none⟩ = some (.int .i64 ((l.getD r []).getD k 0)) ∧ W.frozen? ⟨g, k, none⟩ = false ∧ ∀ v : Int, MatR (W.setCell ⟨g, k, none⟩ (.int .i64 v)) a (l.set r ((l.getD r []).set k v)) := by
  obtain ⟨b, A, G, C, e, hb, hc0, hd⟩ := h (by omega)
  obtain ⟨c1, c2⟩ := hc0 r hr
  obtain ⟨d1, d2, d3⟩ := c2 (by omega)
  rw [d1] at c1
  refine ⟨b, G r, C r, e, c1, (d3 k hk).1, ⟨d2.1, d2.2.2⟩, fun W hW => ?_⟩
  have hc : ∀ r, r < l.length → W.cell? ⟨b, r, none⟩ = some (.slice (A r) (l.getD r []).length (C r)) ∧
      (0 < (l.getD r []).length → A r = some ⟨G r, 0, none⟩ ∧ (lo ≤ G r ∧ G r < hi ∧ G r ≠ b) ∧ ∀ i, i < (l.getD r []).length → W.cell? ⟨G r, i, none⟩ = some (.int .i64 ((l.getD r []).getD i 0)) ∧ W.frozen? ⟨G r, i, none⟩ = false) := fun r h1 => by
    obtain ⟨c1, c2⟩ := hc0 r h1
    refine ⟨(heap_cell (hW b hb.1 hb.2) r).1.trans c1, fun h2 => ?_⟩
    obtain ⟨d1, d2, d3⟩ := c2 h2
    exact ⟨d1, d2, fun i hi => ⟨(heap_cell (hW _ d2.1 d2.2.1) i).1.trans (d3 i hi).1, (heap_cell (hW _ d2.1 d2.2.1) i).2.trans (d3 i hi).2⟩⟩
  clear c1 c2 d3 hc0
  obtain ⟨c1, c2⟩ := hc r hr
  obtain ⟨d1, d2, d3⟩ := c2 (by omega)
  rw [d1] at c1
  refine ⟨c1, (d3 k hk).1, (d3 k hk).2, fun v => ?_⟩
  subst e
  intro _
  refine ⟨b, 0, A, C, rfl, fun s hs => ?_⟩
  rw [List.length_set] at hs
  obtain ⟨s1, s2⟩ := hc s hs
  have hrow : (l.set r ((l.getD r []).set k v)).getD s [] = if s = r then (l.getD r []).set k v else l.getD s [] := by
    by_cases e : s = r
    · subst e; rw [if_pos rfl]; simp [List.getD, hs]
    · rw [if_neg e]; simp [List.getD, Ne.symm e]
  have hlen : ((l.set r ((l.getD r []).set k v)).getD s []).length = (l.getD s []).length := by
    rw [hrow]
    split
    · rename_i e; subst e; exact List.length_set
    · rfl
  rw [hlen, Nat.zero_add]
  refine ⟨cell_set_ne s1 (show b ≠ G r from fun e => d2.2.2 e.symm), fun h0 => ?_⟩
  rw [hlen] at h0
  obtain ⟨t1, t2, t3⟩ := s2 h0
  refine ⟨G s, 0, t1, fun i hi => ?_⟩
  rw [Nat.zero_add]
  rw [hlen] at hi
  by_cases e : s = r
  · subst e
    rw [hrow, if_pos rfl]
    by_cases ek : i = k
    · subst ek
      rw [World.cell?_setCell_same W _ _ (d3 i hk).1]
      have e3 : ((l.getD s []).set i v).getD i 0 = v := by
        generalize l.getD s [] = x at hk
        simp [List.getD, hk]
      rw [e3]
    · rw [World.cell?_setCell_other _ _ _ _ (by intro h; simp only [Addr.mk.injEq] at h; omega)]
      have e2 : ((l.getD s []).set k v).getD i 0 = (l.getD s []).getD i 0 := by simp [List.getD, Ne.symm ek]
      rw [e2]
      exact (d3 i hi).1
  · rw [hrow, if_neg e]
    exact cell_set_ne (t3 i hi).1 (show G s ≠ G r from fun e2 => e (hd s r hs hr h0 (by omega) e2))

end Go.Proofs.Ythdemjfllfhhpaa
end

section
namespace Go.Proofs.Ythdemjfllfhhpaa
open Go.RowKit Go.Deep

theorem grown_setCell5 {w : World} {g : Nat} {v : Value} : w.grownBy (w.setCell ⟨g, 0, none⟩ v) (some g) := grownBy_setCell' w g v
theorem since_rowG {w W W' : World} {g : Nat} (h : w.Since w.heap.size W) (hg : W.grownBy W' (some g)) (hr : w.heap.size ≤ g) : w.Since w.heap.size W' :=
  ⟨hg.os.trans h.os, hg.tape.trans h.tape, hg.output.trans h.output, Nat.le_trans h.size hg.size, fun k hk => (hg.block k (by have := h.size; omega) (fun e => by injection e; omega)).trans (h.block k hk)⟩

theorem InT.above {lo hi g : Nat} {w W : World} {a : Option Addr} {l : List (List Int)} (h : InT lo hi w a l) (hg : w.grownBy W (some g)) (h0 : hi ≤ g) (hh : hi ≤ w.heap.size) : InT lo hi W a l := by
  intro hl
  obtain ⟨b, o, A, G, O, C, e, hb, hr⟩ := h hl
  have kp : ∀ g', lo ≤ g' → g' < hi → W.heap[g']? = w.heap[g']? := fun g' g1 g2 => hg.block g' (by omega) (fun e => by injection e; omega)
  refine ⟨b, o, A, G, O, C, e, hb, fun r h1 => ?_⟩
  obtain ⟨c1, c2⟩ := hr r h1
  refine ⟨(heap_cell (kp b hb.1 hb.2) _).1.trans c1, fun h2 => ?_⟩
  obtain ⟨d1, d2, d3⟩ := c2 h2
  exact ⟨d1, d2, fun i hi => (heap_cell (kp _ d2.1 d2.2) _).1.trans (d3 i hi)⟩

set_option maxRecDepth 100000 in
set_option maxHeartbeats 2000000 in
theorem drawSame_any (a : Option Addr) (nb cb : Nat) (w : World) (hc : nb ≤ cb) (h63 : cb ≤ 9223372036854775807) (hb : BytR w a nb) :
    Calls Try.prog 12 #[.slice a nb cb] w fun e w' => ∃ a' cap l b' cap2 u, e = .returned (.tuple #[.slice a' l.length cap, .slice b' u.length cap2]) ∧ w.Since w.heap.size w' ∧ DrawnT w w' 4 4 a' l ∧ u.length ≤ 4 ∧ (∀ j, j < u.length → (u.getD j []).length ≤ 5) ∧ MatR w' b' u := by
  have E := Lib.hid (l6Open_any a nb cb w hc h63 hb)
  clear hb
  go_enter Try.func12, Try.ntmps12
  go_wp2_with fail
  refine (E.out).mono ?_
  rintro e w1 ⟨n', c', rfl, hs, hz, hd⟩
  have HD0 := Lib.hid hd
  clear hd
  have hz1 : w.heap.size < w1.heap.size := by omega
  clear hz
  go_wp2_with fail
  refine (l91Some_any w w1 w.heap.size n' c' 0 4 4 a HD0.out (by omega) (by omega) (by omega) (by omega) (by omega)).mono ?_
  rintro e w2 ⟨a', cap', l, p', rfl, hg, hd2, hp, h1, h5, hl, hit⟩
  have HG0 := Lib.hid hg
  have HIT := Lib.hid hit
  have HL := Lib.hid hl
  have HD := Lib.hid hd2
  obtain ⟨nn, hnn⟩ : ∃ n, l.length = n := ⟨_, rfl⟩
  rw [hnn] at h1 h5 ⊢
  have HN := Lib.hid hnn
  clear hg hit hl hd2 hnn
  go_wp2_with fail
  refine (pick_any w w2 w.heap.size n' c' p' a 2 HD.out (by omega)).mono ?_
  rintro e w3 ⟨y, rfl, hy, hg3, hd3⟩
  have hsa : w.Since w.heap.size w2 := hs.trans (since_grown HG0.out (Nat.le_refl _) hs.size)
  have hsb : w.Since w.heap.size w3 := hsa.trans (since_grown hg3 (Nat.le_refl _) hsa.size)
  have hit3 := HIT.out.kept hg3 hz1
  have hz2 := HG0.out.size
  have hz3 := hg3.size
  have EC := Lib.hid (l1Copy_gen a' cap' nn l w3 HN.out (by omega) (fun r hr => by have := HL.out r (by rw [HN.out]; exact hr); omega) hit3.matR)
  have HD3 := Lib.hid hd3
  have HS3 := Lib.hid hsb
  have HI3 := Lib.hid hit3
  have hle : w.heap.size ≤ w1.heap.size := by omega
  clear hg3 hd3 hsa hsb hit3
  by_cases hy0 : y = 0
  · subst hy0
    go_wp2_with fail
    refine (EC.out).mono ?_
    rintro e w4 ⟨b', cap2, rfl, hs4, ho4, _⟩
    have HS4 := Lib.hid hs4
    have HO4 := Lib.hid ho4
    clear hs4 ho4
    go_wp2
    go_ret2
    exact ⟨_, _, l, _, _, l, by rw [HN.out]; rfl, HS3.out.trans (since_mono HS4.out HS3.out.size), ⟨by rw [HN.out]; exact h1, by rw [HN.out]; exact h5, HL.out, (HI3.out.kept (grown_of_since' HS4.out) (by omega)).mono hle (Nat.le_trans hz3 HS4.out.size)⟩, by rw [HN.out]; exact h5, fun j hj => (HL.out j hj).2, HO4.out.matR⟩
  · have hy1 : ((y : Int) == 0) = false := by simp; omega
    go_wp2_with fail
    refine (EC.out).mono ?_
    rintro e w4 ⟨b', cap2, rfl, hs4, ho4, _⟩
    obtain ⟨s, hns⟩ : ∃ s, nn = s + 1 := ⟨nn - 1, by omega⟩
    have hr1 : IntKind.i64.wrap ((nn : Int) - 1) = (s : Int) := by rw [show (nn : Int) - 1 = s by omega]; exact IntWalk.i64_in _ ⟨by omega, by omega⟩
    have hsl := HL.out s (by rw [HN.out]; omega)
    obtain ⟨b, g, c, rfl, t1, t2, ⟨hgl, hgb⟩, hset⟩ := ho4.setNum (r := s) (k := 0) (by rw [HN.out]; omega) (by omega)
    obtain ⟨mm, hmm⟩ : ∃ m, (l.getD s []).length = m := ⟨_, rfl⟩
    obtain ⟨z, hz⟩ : ∃ z, (l.getD s []).getD 0 0 = z := ⟨_, rfl⟩
    rw [hmm] at t1 hsl
    rw [hz] at t2
    simp only [hz, hmm] at hset
    have hz4 := hs4.size
    have HD4 := Lib.hid ((HD3.out.later hs4).later (World.Since.refl _ _).drew)
    have HSET := Lib.hid hset
    have HS4 := Lib.hid hs4
    have HHM := Lib.hid hmm
    have hm0 : 0 < mm := by omega
    have hsn : s < nn := by omega
    have hwg : w.heap.size ≤ g := by omega
    have hwg2 : w2.heap.size ≤ g := by omega
    have t1d : w4.drew.cell? ⟨b, s, none⟩ = some (.slice (some ⟨g, 0, none⟩) mm c) := t1
    have t2d : w4.drew.cell? ⟨g, 0, none⟩ = some (.int .i64 z) := t2
    clear hset hs4 hz ho4 hmm hns
    go_wp2
    go_region_with
      (first
        | (go_at_call 48; refine (pick_any w w4.drew w.heap.size n' c' _ a 2 HD4.out (by omega)).mono ?_; rintro e w5 ⟨y2, rfl, hy2, hg5, _⟩; obtain ⟨f0, f1, f2, f3⟩ := HSET.out w5 (fun g' g1 g2 => hg5.block g' (show g' < w4.heap.size by omega) (fun e => by injection e; omega)); have HF3 := Lib.hid f3; have HG5 := Lib.hid hg5; have hz5 := hg5.size; clear f3 hg5))
    all_goals
      have hsx : w4.drew.Since w4.drew.heap.size w4.drew := World.Since.refl _ _
      have hs5 : w.Since w.heap.size w5 := (HS3.out.trans (since_mono HS4.out HS3.out.size)).trans (since_grown (grown_of_drew HG5.out) (Nat.le_refl _) (Nat.le_trans HS3.out.size HS4.out.size))
      have hI5 := (HI3.out.kept (grown_of_since' HS4.out) (by omega)).kept (grown_of_drew HG5.out) (by omega)
      go_wp2
      go_ret2
      have hrow : ∀ j, j < (l.set s ((l.getD s []).set 0 (IntKind.i64.wrap (z + (y2 : Int))))).length → ((l.set s ((l.getD s []).set 0 (IntKind.i64.wrap (z + (y2 : Int))))).getD j []).length ≤ 5 := fun j hj => by
        rw [List.length_set] at hj
        by_cases e : j = s
        · subst e
          have : (l.set j ((l.getD j []).set 0 (IntKind.i64.wrap (z + (y2 : Int))))).getD j [] = (l.getD j []).set 0 (IntKind.i64.wrap (z + (y2 : Int))) := by simp [List.getD, hj]
          rw [this, List.length_set]
          exact (HL.out j hj).2
        · have : (l.set s ((l.getD s []).set 0 (IntKind.i64.wrap (z + (y2 : Int))))).getD j [] = l.getD j [] := by simp [List.getD, Ne.symm e]
          rw [this]
          exact (HL.out j hj).2
      have hsl2 : (l.set s ((l.getD s []).set 0 (IntKind.i64.wrap (z + (y2 : Int))))).length = nn := by rw [List.length_set]; exact HN.out
      have hwg3 : w2.heap.size ≤ w5.heap.size := by
        have hz5' : w4.heap.size ≤ w5.heap.size := hz5
        omega
      have hgs := grown_setCell5 (w := w5) (g := g) (v := .int .i64 (IntKind.i64.wrap (z + (y2 : Int))))
      exact ⟨_, _, l, _, _, l.set s ((l.getD s []).set 0 (IntKind.i64.wrap (z + (y2 : Int)))), by rw [HN.out, hsl2]; rfl, since_rowG hs5 hgs hwg, ⟨by rw [HN.out]; exact h1, by rw [HN.out]; exact h5, HL.out, (hI5.above hgs hwg2 hwg3).mono hle (by simp; omega)⟩, by rw [hsl2]; exact h5, hrow, HF3.out _⟩

end Go.Proofs.Ythdemjfllfhhpaa
end

section
namespace Go.Proofs.Ythdemjfllfhhpaa
open Go.RowKit Go.Deep

def timesL (l : List (List Int)) (f : Int) : List (List Int) := tabF l.length (l.getD 0 []).length fun i k => at2 l i k * f
theorem timesL_length (l : List (List Int)) (f : Int) : (timesL l f).length = l.length := tabF_length _ _ _
theorem mul_bd {a b : Int} (h1 : -30 ≤ a) (h2 : a ≤ 30) (h3 : -30 ≤ b) (h4 : b ≤ 30) : -900 ≤ a * b ∧ a * b ≤ 900 := by
  have h : ∀ x : Nat, ∀ y : Nat, x ≤ 30 → y ≤ 30 → x * y ≤ 900 := fun x y hx hy => Nat.le_trans (Nat.mul_le_mul hx hy) (by decide)
  have h5 := h a.natAbs b.natAbs (by omega) (by omega)
  rw [← Int.natAbs_mul] at h5
  omega

set_option maxHeartbeats 1000000 in
theorem timesEntry_any (p r i k n cap : Nat) (f : Int) (a : Option Addr) (l : List (List Int)) (w : World) (hn : l.length = n) (hT : TabIn l) (hbox : w.cell? ⟨p, 0, none⟩ = some (.slice a n cap)) (hbox2 : w.cell? ⟨r, 0, none⟩ = some (.int .i64 f)) (hm : MatR w a l) (hi : i < n) (hk : k < (l.getD 0 []).length)
    (hf1 : -30 ≤ f) (hf2 : f ≤ 30) :
    Calls Try.prog 127 #[.int .i64 i, .int .i64 k, .pointer (some ⟨p, 0, none⟩), .pointer (some ⟨r, 0, none⟩)] w fun e w' => e = .returned (.int .i64 (at2 l i k * f)) ∧ w.Since w.heap.size w' := by
  have hb := hT.at (i := i) (k := k) (by rw [hn]; exact hi) hk
  have hkr : k < (l.getD i []).length := by rw [hT.row (by rw [hn]; exact hi)]; exact hk
  obtain ⟨b, o, b', o', c, rfl, h1, h2⟩ := hm.entry (by rw [hn]; exact hi) hkr
  obtain ⟨y, hy⟩ : ∃ y, y = at2 l i k := ⟨_, rfl⟩
  obtain ⟨m, hmm⟩ : ∃ m, m = (l.getD i []).length := ⟨_, rfl⟩
  rw [← hy] at h2 hb ⊢
  rw [← hmm] at h1 hkr
  have hp := mul_bd hb.1 hb.2 hf1 hf2
  have hwr : IntKind.i64.wrap (y * f) = y * f := IntWalk.i64_in _ ⟨by omega, by omega⟩
  clear hy hmm hn hm hT hb hk hf1 hf2
  go_enter Try.func127, Try.ntmps127
  go_wp2
  go_quiet (fail)
  go_wp2
  go_ret
  exact ⟨rfl, since_drewN (World.Since.refl _ _) _⟩

set_option maxRecDepth 100000 in
set_option maxHeartbeats 2000000 in
theorem times_any (a : Option Addr) (cap n : Nat) (l : List (List Int)) (f : Int) (w : World) (hn : l.length = n) (hT : TabIn l) (hm : MatR w a l) (hf1 : -30 ≤ f) (hf2 : f ≤ 30) :
    Calls Try.prog 113 #[.slice a n cap, .int .i64 f] w fun e w' => e = .returned (.slice (some ⟨w.heap.size + 1 + 1, 0, none⟩) n n) ∧ w.Since w.heap.size w' ∧ OwnT w.heap.size w'.heap.size w' (some ⟨w.heap.size + 1 + 1, 0, none⟩) (timesL l f) := by
  have hw := hT.width
  have h6 := hT.2.1
  rw [hn] at h6
  have h1 := hT.1
  rw [hn] at h1
  have hwid := fun (W : World) (hs : w.Since w.heap.size W) => width_any a cap n l W hn (by omega) (by omega) (hm.since hs)
  have hnt := fun (W : World) (hs : w.Since w.heap.size W) (hb0 : W.cell? ⟨w.heap.size, 0, none⟩ = some (.slice a n cap)) (hb1 : W.cell? ⟨w.heap.size + 1, 0, none⟩ = some (.int .i64 f)) =>
    newTable_any 127 #[.pointer (some ⟨w.heap.size, 0, none⟩), .pointer (some ⟨w.heap.size + 1, 0, none⟩)] n (l.getD 0 []).length (fun i k => at2 l i k * f) W (by omega) (by omega) (enters_of Try.func127 (by kernel_rfl) rfl)
      (fun W' i k hs' hi hk => timesEntry_any w.heap.size (w.heap.size + 1) i k n cap f a l W' hn hT ((hs'.cell (a := ⟨w.heap.size, 0, none⟩) (World.block_lt_of_cell? _ _ hb0)).trans hb0) ((hs'.cell (a := ⟨w.heap.size + 1, 0, none⟩) (World.block_lt_of_cell? _ _ hb1)).trans hb1) (hm.since (hs.trans (since_mono hs' hs.size))) hi hk hf1 hf2)
  obtain ⟨m, hmm⟩ : ∃ m, (l.getD 0 []).length = m := ⟨_, rfl⟩
  have htl : timesL l f = tabF n m (fun i k => at2 l i k * f) := by unfold timesL; rw [hmm, hn]
  rw [hmm] at hwid hnt hw
  rw [htl]
  have HW := Lib.hid hwid
  have HNT := Lib.hid hnt
  have HS1 := Lib.hid (show w.Since w.heap.size ((w.alloc (.cells #[.slice a n cap] 48)).alloc (.cells #[.int .i64 f] 3)) from (((World.Since.refl _ _).alloc (Nat.le_refl _) _).alloc (by simp) _))
  have hc0 := cell_new_l w (.slice a n cap) 48
  have hc1 := cell_new_l (w.alloc (.cells #[.slice a n cap] 48)) (.int .i64 f) 3
  simp only [World.size_alloc] at hc1
  have hcb0 : ((w.alloc (.cells #[.slice a n cap] 48)).alloc (.cells #[.int .i64 f] 3)).cell? ⟨w.heap.size, 0, none⟩ = some (.slice a n cap) := (cell_alloc_l _ hc0.1)
  have hcb1 : ((w.alloc (.cells #[.slice a n cap] 48)).alloc (.cells #[.int .i64 f] 3)).cell? ⟨w.heap.size + 1, 0, none⟩ = some (.int .i64 f) := hc1.1
  clear hwid hnt hm hT hn hmm htl hc0 hc1
  go_enter Try.func113, Try.ntmps113
  go_wp2
  go_region_held3 (fun w' => w'.cell? ⟨w.heap.size, 0, none⟩ = some (.slice a n cap)) (go_keep)
    (first
      | (go_at_call 58; refine (HW.out _ ?_).mono ?_; (exact World.Since.drew HS1.out); rintro e w1 ⟨rfl, rfl⟩)
      | (go_at_call 79; refine (HNT.out _ ?_ ?_ ?_).mono ?_; (exact World.Since.drew HS1.out); (exact hcb0); (exact hcb1); rintro e w1 ⟨rfl, hs2, ho⟩; have hcc := hs2.cell (a := ⟨w.heap.size, 0, none⟩) (World.block_lt_of_cell? _ _ hcb0); simp only [World.cell?_drew, hcb0] at hcc))
  all_goals
    go_wp2
    go_ret
    refine ⟨rfl, HS1.out.trans (since_mono (since_of_drew hs2) (by simp; omega)), ?_⟩
    have hz : ((w.alloc (.cells #[.slice a n cap] 48)).alloc (.cells #[.int .i64 f] 3)).drew.heap.size = w.heap.size + 1 + 1 := by simp
    rw [hz] at ho
    exact ho.mono (by omega) (Nat.le_refl _)

noncomputable def timesOk (l : List (List Int)) (f : Int) : Bool := tabIn l && (inB f (-30) 30 && tabIn (timesL l f))
theorem szL_times {l : List (List Int)} (f : Int) (h : TabIn l) : szL (timesL l f) ≤ 1048576 := szL_tabF _ _ _ (by have := h.2.1; omega) (by have := h.width; omega)

end Go.Proofs.Ythdemjfllfhhpaa
end

section
namespace Go.Proofs.Ythdemjfllfhhpaa
open Go.RowKit Go.Deep

theorem szL_timesOk (l : List (List Int)) (f : Int) (h : timesOk l f = true) : szL (timesL l f) ≤ 1048576 := by
  unfold timesOk at h
  rw [Bool.and_eq_true] at h
  exact szL_times f (tabIn_of h.1)

end Go.Proofs.Ythdemjfllfhhpaa
end

section
namespace Go.Proofs.Ythdemjfllfhhpaa
open Go.RowKit Go.Deep

def sumL (l u : List (List Int)) : List (List Int) := tabF l.length (l.getD 0 []).length fun i k => at2 l i k + at2 u i k
theorem sumL_length (l u : List (List Int)) : (sumL l u).length = l.length := tabF_length _ _ _

def alikeB (l u : List (List Int)) : Bool := (l.length == u.length) && ((l.getD 0 []).length == (u.getD 0 []).length)
noncomputable def sumOk (l u : List (List Int)) : Bool := tabIn l && (tabIn u && (alikeB l u && tabIn (sumL l u)))
theorem szL_sum {l : List (List Int)} (u : List (List Int)) (h : TabIn l) : szL (sumL l u) ≤ 1048576 := szL_tabF _ _ _ (by have := h.2.1; omega) (by have := h.width; omega)

set_option maxHeartbeats 1000000 in
theorem alike_any (a a2 : Option Addr) (cap cap2 n n2 : Nat) (l u : List (List Int)) (w : World) (hn : l.length = n) (hu : u.length = n2) (hT : TabIn l) (hTu : TabIn u) (hm : MatR w a l) (hmu : MatR w a2 u) :
    Calls Try.prog 101 #[.slice a n cap, .slice a2 n2 cap2] w fun e w' => e = .returned (.bool (alikeB l u)) ∧ w = w' := by
  have h6 := hT.2.1
  have h1 := hT.1
  have g6 := hTu.2.1
  have g1 := hTu.1
  have hw := hT.width
  have gw := hTu.width
  have E1 := width_any a cap n l w hn (by omega) (by omega) hm
  have E2 := width_any a2 cap2 n2 u w hu (by omega) (by omega) hmu
  unfold alikeB
  rw [hn, hu]
  rw [hn] at h1 h6
  rw [hu] at g1 g6
  obtain ⟨m, hmm⟩ : ∃ m, (l.getD 0 []).length = m := ⟨_, rfl⟩
  obtain ⟨m', hmm'⟩ : ∃ m, (u.getD 0 []).length = m := ⟨_, rfl⟩
  rw [hmm] at E1 hw ⊢
  rw [hmm'] at E2 gw ⊢
  have HE1 := Lib.hid E1
  have HE2 := Lib.hid E2
  clear E1 E2 hmm hmm' hm hmu hT hTu hn hu
  by_cases hne : n = n2
  · subst hne
    by_cases hw2 : m = m'
    · subst hw2
      go_enter Try.func101, Try.ntmps101
      go_wp2_with fail
      refine (HE1.out).mono ?_
      rintro e w' ⟨rfl, rfl⟩
      go_wp2_with fail
      refine (HE2.out).mono ?_
      rintro e w' ⟨rfl, rfl⟩
      go_wp2
      go_ret
      exact ⟨ret_bool (by simp), rfl⟩
    · have hb : ((m : Int) == (m' : Int)) = false := by simp; omega
      have HB : Hid ((n == n && m == m') = false) := by show _ = _; simp [hw2]
      go_enter Try.func101, Try.ntmps101
      go_wp2_with fail
      refine (HE1.out).mono ?_
      rintro e w' ⟨rfl, rfl⟩
      go_wp2_with fail
      refine (HE2.out).mono ?_
      rintro e w' ⟨rfl, rfl⟩
      go_wp2
      go_ret
      exact ⟨ret_bool (by first | exact HB.out.symm | (simp; omega) | simp [hw2]), rfl⟩
  · have hb : ((n : Int) == (n2 : Int)) = false := by simp; omega
    have HB : Hid ((n == n2 && m == m') = false) := by show _ = _; simp [hne]
    go_enter Try.func101, Try.ntmps101
    go_wp2
    go_ret
    exact ⟨ret_bool (by first | exact HB.out.symm | (simp; omega) | simp [hne]), rfl⟩

end Go.Proofs.Ythdemjfllfhhpaa
end

section
namespace Go.Proofs.Ythdemjfllfhhpaa
open Go.RowKit Go.Deep

end Go.Proofs.Ythdemjfllfhhpaa
end

section
namespace Go.Proofs.Ythdemjfllfhhpaa
open Go.RowKit Go.Deep

theorem szL_sumOk (l u : List (List Int)) (h : sumOk l u = true) : szL (sumL l u) ≤ 1048576 := by
  unfold sumOk at h
  rw [Bool.and_eq_true] at h
  exact szL_sum u (tabIn_of h.1)

end Go.Proofs.Ythdemjfllfhhpaa
end

section
namespace Go.Proofs.Ythdemjfllfhhpaa

noncomputable def sameOk (l u : List (List Int)) : Bool := tabIn l && (tabIn u && decide (l = u))

end Go.Proofs.Ythdemjfllfhhpaa
end

section
namespace Go.Proofs.Ythdemjfllfhhpaa
open Go.RowKit Go.Deep Go.Shelf

set_option maxHeartbeats 1000000 in
theorem slicesEqual_any (a b : Option Addr) (ca cb m : Nat) (x y : List Int) (w : World) (hx : x.length = m) (hy : y.length = m) (h63 : m ≤ 1048576) (ha : RowR w a x) (hb : RowR w b y) :
    Calls Try.prog 104 #[.slice a m ca, .slice b m cb] w fun e w' => e = .returned (.bool (decide (x = y))) ∧ Drawn w w' := by
  have hext : (∀ j, j < m → x.getD j 0 = y.getD j 0) → x = y := fun h => by
    refine List.ext_getElem (by omega) fun c g1 g2 => ?_
    have := h c (by omega)
    simpa [List.getD, g1, g2] using this
  have HX := Lib.hid hx
  have HY := Lib.hid hy
  have HEXT := Lib.hid hext
  clear hx hy hext
  go_enter Try.func104, Try.ntmps104
  go_wp2
  go_loopg [5, 13] m (fun g _ i wr => ∃ k : Nat, k ≤ m ∧ g = m - k ∧ i = .int .i64 k ∧ Drawn w wr ∧ ∀ j, j < k → x.getD j 0 = y.getD j 0)
  case atStart => exact ⟨0, Nat.zero_le _, rfl, rfl, Drawn.refl w, fun j hj => absurd hj (Nat.not_lt_zero _)⟩
  case round =>
    obtain ⟨k, hk, rfl, rfl, hD, hS⟩ := hrel
    have HS := Lib.hid hS
    clear hS
    by_cases hlt : k < m
    · obtain ⟨b1, o1, rfl, hc1⟩ := ha (by rw [HX.out]; omega)
      obtain ⟨b2, o2, rfl, hc2⟩ := hb (by rw [HY.out]; omega)
      have c1 := hc1 k (by rw [HX.out]; exact hlt)
      have c2 := hc2 k (by rw [HY.out]; exact hlt)
      obtain ⟨p, hp⟩ : ∃ p, x.getD k 0 = p := ⟨_, rfl⟩
      obtain ⟨q, hq⟩ : ∃ q, y.getD k 0 = q := ⟨_, rfl⟩
      rw [hp] at c1
      rw [hq] at c2
      rw [← hD.cell] at c1 c2
      have HP := Lib.hid hp
      have HQ := Lib.hid hq
      clear hp hq hc1 hc2 ha hb
      by_cases hpq : p = q
      · subst hpq
        go_wp2
        go_quiet (fail)
        go_wp2
        go_roundg (m - (k + 1))
        case measure => omega
        case rel => exact ⟨k + 1, by omega, rfl, by go_num, hD.trans (Drawn.mk _ _), fun j hj => by
          by_cases e : j = k
          · subst e; rw [HP.out, HQ.out]
          · exact HS.out j (by omega)⟩
      · have hne : (p != q) = true := by simp [hpq]
        go_wp2
        go_quiet (fail)
        go_wp2
        go_ret
        refine ⟨ret_bool (decide_eq_false fun e => ?_).symm, hD.trans (Drawn.mk _ _)⟩
        subst e
        exact hpq (by rw [← HP.out, ← HQ.out])
    · have : k = m := by omega
      subst this
      have HXY := Lib.hid (HEXT.out HS.out)
      go_wp2
      go_ret
      exact ⟨ret_bool (decide_eq_true HXY.out).symm, hD⟩

theorem rows_eq {l u : List (List Int)} {n : Nat} (hn : l.length = n) (hu : u.length = n) (h : ∀ r, r < n → l.getD r [] = u.getD r []) : l = u := by
  refine List.ext_getElem (by omega) fun c g1 g2 => ?_
  have := h c (by omega)
  simpa [List.getD, g1, g2] using this

attribute [local go_sem] Oper.semAt_some

set_option maxRecDepth 100000 in
set_option maxHeartbeats 2000000 in
theorem same_any (a a2 : Option Addr) (cap cap2 n n2 : Nat) (l u : List (List Int)) (w : World) (hn : l.length = n) (hu : u.length = n2) (hm : MatR w a l) (hmu : MatR w a2 u) (hT : TabIn l) (hTu : TabIn u) :
    Calls Try.prog 51 #[.slice a n cap, .slice a2 n2 cap2] w fun e w' => e = .returned (.bool (decide (l = u))) ∧ w.Since w.heap.size w' := by
  have h6 := hT.2.1
  have h1 := hT.1
  rw [hn] at h1 h6
  have hw := hT.width
  have E := Lib.hid (fun (W : World) (hs : Below w.heap.size w W) => alike_any a a2 cap cap2 n n2 l u W hn hu hT hTu (hm.since (below_since hs)) (hmu.since (below_since hs)))
  refine (callsIn_wide (n := 9)).1 ?_
  refine callsIn_of_wp_marks Try.func51 rfl trivial ?_ rfl
  simp only [Try.ntmps51, List.size_toArray, List.length_cons, List.length_nil, Nat.reduceAdd, Nat.reduceSub, Array.replicate_succ, Array.replicate_zero, List.push_toArray, List.append_toArray, List.nil_append, List.cons_append]
  have hB2 : Below w.heap.size w ((w.alloc (.cells #[.slice a2 n2 cap2] 48)).alloc (.cells #[.bool false] 4)) := ((Below.refl _ w).alloc (Nat.le_refl _) _).alloc (by simp) _
  have HB2 := Lib.hid hB2
  clear hB2
  cases hal : alikeB l u with
  | false =>
    rw [hal] at E
    have hno : l ≠ u := by
      rintro rfl
      unfold alikeB at hal
      simp at hal
    have HNO := Lib.hid hno
    clear hm hmu hT hTu hn hu hno hal
    gi_wp2_with (refine ⟨trivial, ?_⟩; gi_at_call 101; refine (callsIn_wide.2 (E.out _ HB2.out)).mono ?_; rintro e w' ⟨rfl, rfl⟩)
    refine ⟨.bool false, ?_, ret_bool (decide_eq_false HNO.out).symm, below_since HB2.out⟩
    simp [results, Try.f51, go_sem]
  | true =>
    rw [hal] at E
    unfold alikeB at hal
    rw [Bool.and_eq_true, beq_iff_eq, beq_iff_eq] at hal
    obtain rfl : n2 = n := by omega
    obtain ⟨m, hmm⟩ : ∃ m, (l.getD 0 []).length = m := ⟨_, rfl⟩
    have hrow : ∀ r, r < n2 → (l.getD r []).length = m := fun r hr => by rw [hT.row (by omega), hmm]
    have hrowu : ∀ r, r < n2 → (u.getD r []).length = m := fun r hr => by rw [hTu.row (by omega), ← hal.2, hmm]
    rw [hmm] at hw
    obtain ⟨b, o, A, C, ha, hc⟩ := hm (by omega)
    obtain ⟨d, q, A2, C2, ha2, hc2⟩ := hmu (by omega)
    have hbl : b < w.heap.size := World.block_lt_of_cell? _ _ (hc 0 (by omega)).1
    have hdl : d < w.heap.size := World.block_lt_of_cell? _ _ (hc2 0 (by omega)).1
    have hc1 : ∀ r, r < n2 → w.cell? ⟨b, o + r, none⟩ = some (.slice (A r) m (C r)) ∧ RowR w (A r) (l.getD r []) := fun r hr => by
      have := hc r (by omega); rw [hrow r hr] at this; exact this
    have hc3 : ∀ r, r < n2 → w.cell? ⟨d, q + r, none⟩ = some (.slice (A2 r) m (C2 r)) ∧ RowR w (A2 r) (u.getD r []) := fun r hr => by
      have := hc2 r (by omega); rw [hrowu r hr] at this; exact this
    subst ha
    subst ha2
    have HC := Lib.hid hc1
    have HC2 := Lib.hid hc3
    have HROW := Lib.hid hrow
    have HROWU := Lib.hid hrowu
    have HEQ := Lib.hid (rows_eq hn hu)
    have hpow : 2 ^ n2 - 1 ≤ 63 := by have : 2 ^ n2 ≤ 2 ^ 6 := Nat.pow_le_pow_right (by omega) h6; omega
    clear hm hmu hT hTu hn hu hal hmm hc hc2 hc1 hc3 hrow hrowu
    gi_wp2_with (first
      | (refine ⟨trivial, ?_⟩; gi_at_call 101; refine (callsIn_wide.2 (E.out _ HB2.out)).mono ?_; rintro e w' ⟨rfl, rfl⟩)
      | (refine ⟨trivial, ?_⟩; gi_at_call 103; refine (callsIn_wide.2 (allRows_any _ _ _ _ h6)).mono ?_; rintro e w' ⟨rfl, rfl⟩)
      | (refine ⟨trivial, ?_⟩; gi_at_call 102; refine (callsIn_wide.2 (rows_any _ _ _ _ _)).mono ?_; rintro e w' ⟨rfl, rfl⟩))
    obtain ⟨W0, hW0⟩ : ∃ W0, W0 = (((w.alloc (.cells #[.slice (some ⟨d, q, none⟩) n2 cap2] 48)).alloc (.cells #[.bool false] 4)).alloc (.cells #[.slice (some ⟨b, o, none⟩) n2 cap] 48)).alloc (.cells #[.int .i64 (2 ^ n2 - 1 : Nat)] 3) := ⟨_, rfl⟩
    rw [← hW0]
    have hsz0 : W0.heap.size = w.heap.size + 1 + 1 + 1 + 1 := by rw [hW0]; simp
    have hB0 : Below w.heap.size w W0 := by rw [hW0]; exact (HB2.out.alloc (by simp; omega) _).alloc (by simp; omega) _
    have c0 := cell_new_l w (.slice (some ⟨d, q, none⟩) n2 cap2) 48
    have c1 := cell_new_l (w.alloc (.cells #[.slice (some ⟨d, q, none⟩) n2 cap2] 48)) (.bool false) 4
    have c2 := cell_new_l ((w.alloc (.cells #[.slice (some ⟨d, q, none⟩) n2 cap2] 48)).alloc (.cells #[.bool false] 4)) (.slice (some ⟨b, o, none⟩) n2 cap) 48
    have c3 := cell_new_l (((w.alloc (.cells #[.slice (some ⟨d, q, none⟩) n2 cap2] 48)).alloc (.cells #[.bool false] 4)).alloc (.cells #[.slice (some ⟨b, o, none⟩) n2 cap] 48)) (.int .i64 (2 ^ n2 - 1 : Nat)) 3
    simp only [World.size_alloc] at c1 c2 c3
    have d0 : W0.cell? ⟨w.heap.size, 0, none⟩ = some (.slice (some ⟨d, q, none⟩) n2 cap2) := by rw [hW0]; exact cell_alloc_l _ (cell_alloc_l _ (cell_alloc_l _ c0.1))
    have d1 : W0.cell? ⟨w.heap.size + 1, 0, none⟩ = some (.bool false) := by rw [hW0]; exact cell_alloc_l _ (cell_alloc_l _ c1.1)
    have d1f : W0.frozen? ⟨w.heap.size + 1, 0, none⟩ = false := by rw [hW0]; exact frozen_alloc_l _ (cell_alloc_l _ c1.1) (frozen_alloc_l _ c1.1 c1.2)
    have d2 : W0.cell? ⟨w.heap.size + 1 + 1, 0, none⟩ = some (.slice (some ⟨b, o, none⟩) n2 cap) := by rw [hW0]; exact cell_alloc_l _ c2.1
    have d3 : W0.cell? ⟨w.heap.size + 1 + 1 + 1, 0, none⟩ = some (.int .i64 (2 ^ n2 - 1 : Nat)) := by rw [hW0]; exact c3.1
    clear c0 c1 c2 c3
    have hc0' : ∀ k, k < n2 → W0.cell? ⟨b, o + k, none⟩ = some (.slice (A k) m (C k)) := fun k hk => (hB0.cell (p := ⟨b, o + k, none⟩) hbl).trans (HC.out k hk).1
    have hstops := rows_stops 8 (by omega) (w.heap.size + 1 + 1) (w.heap.size + 1 + 1 + 1) b o n2 cap (2 ^ n2 - 1) W0.heap.size (by omega) hpow A (fun _ => m) C W0 (Nat.le_refl _) (by omega) (by omega) (by omega) d2 d3 hc0'
    clear hc0' d2 d3
    refine wpIn_rangeFunc_ownF (F := Fence.wide) (n := 9) rfl (by omega) (gf := 117) (lb := #[.pointer (some ⟨w.heap.size + 1 + 1, 0, none⟩), .pointer (some ⟨w.heap.size + 1 + 1 + 1, 0, none⟩)]) rfl trivial (enters_of Try.func117 (by kernel_rfl) rfl)
      hstops belowK_t (belowK_b (Nat.le_refl _)) (Below.refl _ _) (fun _ => rfl)
      (fun pre W => (W.cell? ⟨w.heap.size, 0, none⟩ = some (.slice (some ⟨d, q, none⟩) n2 cap2) ∧ W.cell? ⟨w.heap.size + 1, 0, none⟩ = some (.bool false) ∧ W.frozen? ⟨w.heap.size + 1, 0, none⟩ = false ∧ ∀ x ∈ pre, l.getD x.1 [] = u.getD x.1 []) ∧ Below w.heap.size w W)
      (fun c _ W => (c = .ret ∧ l ≠ u ∧ W.cell? ⟨w.heap.size + 1, 0, none⟩ = some (.bool false)) ∧ Below w.heap.size w W)
      (OwnFrom.and (Own.from (fun s A B row hs hg hr => ⟨cell_kept hs.1 hg hr, cell_kept hs.2.1 hg hr, (frozen_kept hs.2.1 hg hr).trans hs.2.2.1, hs.2.2.2⟩) _) (ownFrom_below (Nat.le_refl _) (by omega)))
      (fun c => OwnFrom.and (Own.from (fun s A B row hs hg hr => ⟨hs.1, hs.2.1, cell_kept hs.2.2 hg hr⟩) _) (ownFrom_below (Nat.le_refl _) (by omega)))
      ⟨⟨d0, d1, d1f, by simp⟩, hB0⟩
      (fun x => { tmps := #[.slice (some ⟨b, o, none⟩) n2 cap, .slice (some ⟨d, q, none⟩) n2 cap2, undef, .pointer (some ⟨w.heap.size, 0, none⟩), .pointer (some ⟨w.heap.size + 1, 0, none⟩), .int .i64 x.1, .slice (A x.1) m (C x.1), .slice (some ⟨b, o, none⟩) n2 cap, .slice (some ⟨d, q, none⟩) n2 cap2,
          .bool true, .bool false, .slice (some ⟨b, o, none⟩) n2 cap, .slice (some ⟨b, o, none⟩) n2 cap, .int .i64 (2 ^ n2 - 1 : Nat),
          .func (.func 117) #[] #[.pointer (some ⟨w.heap.size + 1 + 1, 0, none⟩), .pointer (some ⟨w.heap.size + 1 + 1 + 1, 0, none⟩)],
          .int .i64 x.1, .slice (A x.1) m (C x.1), undef, undef, undef, undef, undef, undef, undef], defers := [] }) ?assign ?body ?done ?stop
    case assign =>
      intro lp x W K hK
      gi_wp2
      exact hK
    case body =>
      rintro lp pre x W ⟨⟨g0, g1, g2, g3⟩, gB⟩ hlen
      obtain ⟨_, r1⟩ := HC.out x.1 x.2
      obtain ⟨e2, r2⟩ := HC2.out x.1 x.2
      rw [← gB.cell (p := ⟨d, q + x.1, none⟩) hdl] at e2
      have hx2 := x.2
      obtain ⟨X, hX⟩ : ∃ X, l.getD x.1 [] = X := ⟨_, rfl⟩
      obtain ⟨Y, hY⟩ : ∃ Y, u.getD x.1 [] = Y := ⟨_, rfl⟩
      have hXm := HROW.out x.1 x.2
      have hYm := HROWU.out x.1 x.2
      rw [hX] at r1 hXm
      rw [hY] at r2 hYm
      have E5 := slicesEqual_any (A x.1) (A2 x.1) (C x.1) (C2 x.1) m X Y W hXm hYm (by omega) (r1.since (below_since gB)) (r2.since (below_since gB))
      have HX := Lib.hid hX
      have HY := Lib.hid hY
      obtain ⟨bb, hbb⟩ : ∃ bb, decide (X = Y) = bb := ⟨_, rfl⟩
      rw [hbb] at E5
      have HBB := Lib.hid hbb
      replace E5 := Lib.hid E5
      clear hX hY hXm hYm r1 r2 hbb
      cases bb with
      | true =>
        gi_wp2_with (refine ⟨trivial, ?_⟩; gi_at_call 104; refine (CallsIn.inRound lp (callsIn_wide.2 E5.out)).mono ?_; rintro e w' ⟨rfl, qq, rfl⟩)
        have hxy : X = Y := of_decide_eq_true HBB.out
        refine ⟨⟨Nat.le_refl _, fun _ _ h _ => h⟩, ⟨rfl, rfl, rfl, Nat.le_refl _, fun _ _ => rfl⟩, ⟨g0, g1, g2, fun y hy => ?_⟩, ⟨gB.os, gB.tape, gB.output, gB.size, gB.block⟩⟩
        rcases List.mem_append.1 hy with hy | hy
        · exact g3 y hy
        · simp at hy
          subst hy
          rw [HX.out, HY.out]; exact hxy
      | false =>
        gi_wp2_with (refine ⟨trivial, ?_⟩; gi_at_call 104; refine (CallsIn.inRound lp (callsIn_wide.2 E5.out)).mono ?_; rintro e w' ⟨rfl, qq, rfl⟩)
        have hxy : X ≠ Y := of_decide_eq_false HBB.out
        have gB' : Below w.heap.size w (W.drewN qq) := ⟨gB.os, gB.tape, gB.output, gB.size, gB.block⟩
        have g1' : (W.drewN qq).cell? ⟨w.heap.size + 1, 0, none⟩ = some (.bool false) := g1
        have hk0 : KeepsOthers W (W.drewN qq) := ⟨Nat.le_refl _, fun _ _ h _ => h⟩
        exact ⟨hk0.trans (KeepsOthers.setCell _ _ _), ⟨rfl, fun e => hxy (by rw [← HX.out, ← HY.out, e]), World.cell?_setCell_same' _ _ _ (by rw [g1']; rfl)⟩, gB'.setCell (p := ⟨w.heap.size + 1, 0, none⟩) (by simp) _⟩
    case done =>
      rintro D ys W hD rfl ⟨⟨g0, g1, g2, g3⟩, gB⟩ hK
      have hlu : l = u := HEQ.out fun r hr => g3 ⟨r, hr⟩ (sel_mem (2 ^ n2 - 1) n2 hr (Nat.le_refl _) (by rw [Nat.testBit_two_pow_sub_one]; simpa using hr))
      have HLU := Lib.hid hlu
      clear hlu
      gi_wp2
      have hK' := (KeepsOthers.setCell W ⟨w.heap.size + 1, 0, none⟩ (.bool true)).same D _ hK rfl
      refine ⟨by simp, .inl ⟨_, _, rfl, run_takeDeferred hK', ?_⟩⟩
      have hc5 := cell_kept (World.cell?_setCell_same' W ⟨w.heap.size + 1, 0, none⟩ (.bool true) (by rw [g1]; rfl)) (grownBy_putObj' _ D (.deferred none)) (fun r e => by cases e; exact ⟨_, hK', rfl⟩)
      refine ⟨.bool true, ?_, ret_bool (decide_eq_true HLU.out).symm, below_since ((gB.setCell (p := ⟨w.heap.size + 1, 0, none⟩) (by simp) _).trans (belowK_b (w := w) (Nat.le_refl _) _ D _ _ (by omega) hK' rfl rfl))⟩
      simp [results, Try.f51, go_sem, hc5]
    case stop =>
      rintro D c pre W hD hpre ⟨⟨rfl, hnot, hcr⟩, gB⟩ hK
      have HNOT := Lib.hid hnot
      clear hnot
      gi_wp2
      refine ⟨by simp, .inl ⟨_, _, rfl, run_takeDeferred hK, ?_⟩⟩
      have hc5 := cell_kept hcr (grownBy_putObj' _ D (.deferred none)) (fun r e => by cases e; exact ⟨_, hK, rfl⟩)
      refine ⟨.bool false, ?_, ret_bool (decide_eq_false HNOT.out).symm, below_since (gB.trans (belowK_b (w := w) (Nat.le_refl _) W D _ _ (by omega) hK rfl rfl))⟩
      simp [results, Try.f51, go_sem, hc5]

set_option maxHeartbeats 1000000 in
theorem implTableSame_any (a a2 : Option Addr) (cap cap2 n n2 : Nat) (l u : List (List Int)) (w : World) (hn : l.length = n) (hu : u.length = n2) (hsz : szL l ≤ 1048576) (hszu : szL u ≤ 1048576) (hm : MatR w a l) (hmu : MatR w a2 u) :
    Calls Try.prog 13 #[.slice a n cap, .slice a2 n2 cap2] w fun e w' => e = .returned (.bool (sameOk l u)) ∧ w.Since w.heap.size w' := by
  have E := Lib.hid (implTableIn_any a cap n l w hn hsz hm)
  have E2 := Lib.hid (fun (W : World) (hs : w.Since w.heap.size W) => implTableIn_any a2 cap2 n2 u W hu hszu (hmu.since hs))
  cases hT : tabIn l with
  | false =>
    have hok : sameOk l u = false := by unfold sameOk; rw [hT]; rfl
    rw [hT] at E
    rw [hok]
    clear hT hsz hm hn hok E2 hszu hmu hu
    go_enter Try.func13, Try.ntmps13
    go_wp2_with fail
    refine (E.out).mono ?_
    rintro e w1 ⟨rfl, hs⟩
    go_wp2
    go_ret
    exact ⟨rfl, hs⟩
  | true =>
    have hTT := tabIn_of hT
    rw [hT] at E
    cases hTu : tabIn u with
    | false =>
      have hok : sameOk l u = false := by unfold sameOk; rw [hT, hTu]; rfl
      rw [hTu] at E2
      rw [hok]
      clear hT hsz hm hn hok hTT hTu hszu hmu hu
      go_enter Try.func13, Try.ntmps13
      go_wp2_with fail
      refine (E.out).mono ?_
      rintro e w1 ⟨rfl, hs⟩
      go_wp2_with fail
      refine (E2.out w1 hs).mono ?_
      rintro e w2 ⟨rfl, hs2⟩
      go_wp2
      go_ret
      exact ⟨rfl, hs.trans (since_mono hs2 hs.size)⟩
    | true =>
      have hTTu := tabIn_of hTu
      rw [hTu] at E2
      have hok : sameOk l u = decide (l = u) := by unfold sameOk; rw [hT, hTu]; rfl
      rw [hok]
      have E3 := Lib.hid (fun (W : World) (hs : w.Since w.heap.size W) => same_any a a2 cap cap2 n n2 l u W hn hu (hm.since hs) (hmu.since hs) hTT hTTu)
      obtain ⟨bb, hb⟩ : ∃ bb, decide (l = u) = bb := ⟨_, rfl⟩
      rw [hb] at E3 ⊢
      clear hT hsz hm hn hok hTT hTu hszu hmu hu hTTu hb
      go_enter Try.func13, Try.ntmps13
      go_wp2_with fail
      refine (E.out).mono ?_
      rintro e w1 ⟨rfl, hs⟩
      go_wp2_with fail
      refine (E2.out w1 hs).mono ?_
      rintro e w2 ⟨rfl, hs2⟩
      have hs12 := hs.trans (since_mono hs2 hs.size)
      go_wp2_with fail
      refine (E3.out w2 hs12).mono ?_
      rintro e w3 ⟨rfl, hs3⟩
      go_wp2
      go_ret
      exact ⟨rfl, hs12.trans (since_mono hs3 hs12.size)⟩

end Go.Proofs.Ythdemjfllfhhpaa
end

section
namespace Go.Proofs.Ythdemjfllfhhpaa
open Go.RowKit Go.Deep

theorem same_ext {l u : List (List Int)} {n m : Nat} (hn : l.length = n) (hu : u.length = n) (hl : ∀ r, r < n → (l.getD r []).length = m) (hul : ∀ r, r < n → (u.getD r []).length = m) (h : ∀ r c, r < n → c < m → at2 l r c = at2 u r c) : l = u := by
  refine List.ext_getElem (by omega) fun r h1 h2 => ?_
  have e1 : l.getD r [] = l[r] := by simp [List.getD, h1]
  have e2 : u.getD r [] = u[r] := by simp [List.getD, h2]
  have l1 := hl r (by omega)
  have l2 := hul r (by omega)
  rw [e1] at l1
  rw [e2] at l2
  refine List.ext_getElem (by omega) fun c g1 g2 => ?_
  have := h r c (by omega) (by omega)
  unfold at2 at this
  rw [e1, e2] at this
  simpa [List.getD, g1, g2] using this

def SameTo (l u : List (List Int)) (m r c : Nat) : Prop := (∀ i j, i < r → j < m → at2 l i j = at2 u i j) ∧ ∀ j, j < c → at2 l r j = at2 u r j
theorem SameTo.next {l u : List (List Int)} {m r : Nat} (h : SameTo l u m r m) : SameTo l u m (r + 1) 0 :=
  ⟨fun i j hi hj => by
    by_cases e : i = r
    · subst e; exact h.2 j hj
    · exact h.1 i j (by omega) hj, fun j hj => absurd hj (Nat.not_lt_zero _)⟩
theorem SameTo.step {l u : List (List Int)} {m r c : Nat} (h : SameTo l u m r c) (e : at2 l r c = at2 u r c) : SameTo l u m r (c + 1) :=
  ⟨h.1, fun j hj => by
    by_cases e' : j = c
    · subst e'; exact e
    · exact h.2 j (by omega)⟩

set_option maxRecDepth 100000 in
set_option maxHeartbeats 2000000 in
theorem l1Same_any (a a2 : Option Addr) (cap cap2 n n2 : Nat) (l u : List (List Int)) (w : World) (hn : l.length = n) (hu : u.length = n2) (hm : MatR w a l) (hmu : MatR w a2 u) (hT : TabIn l) (hTu : TabIn u) :
    Calls Try.prog 53 #[.slice a n cap, .slice a2 n2 cap2] w fun e w' => e = .returned (.bool (decide (l = u))) ∧ Drawn w w' := by
  have h6 := hT.2.1
  have h1 := hT.1
  have g6 := hTu.2.1
  have hw := hT.width
  have gw := hTu.width
  rw [hn] at h1 h6
  rw [hu] at g6
  by_cases hne : n = n2
  · subst hne
    obtain ⟨m, hmm⟩ : ∃ m, (l.getD 0 []).length = m := ⟨_, rfl⟩
    obtain ⟨m', hmm'⟩ : ∃ m, (u.getD 0 []).length = m := ⟨_, rfl⟩
    have hrow : ∀ r, r < n → (l.getD r []).length = m := fun r hr => by rw [hT.row (by omega), hmm]
    have hrowu : ∀ r, r < n → (u.getD r []).length = m' := fun r hr => by rw [hTu.row (by omega), hmm']
    obtain ⟨bt, ot, At, Ct, rfl, hlen, hcell⟩ := hm.grid hn hT hmm
    obtain ⟨bu, ou, Au, Cu, rfl, hlenu, hcellu⟩ := hmu.grid hu hTu hmm'
    rw [hmm] at hw
    rw [hmm'] at gw
    have HC := Lib.hid hcell
    have HCU := Lib.hid hcellu
    have HL := Lib.hid hlen
    have HLU := Lib.hid hlenu
    by_cases hmm2 : m = m'
    · subst hmm2
      have hext := same_ext hn hu hrow hrowu
      have HEXT := Lib.hid hext
      clear hm hmu hT hTu hcell hcellu hlen hlenu hmm hmm' hext hrow hrowu hn hu
      go_enter Try.func53, Try.ntmps53
      go_wp2
      go_loopg [5, 6] n (fun g i _ wr => ∃ r : Nat, r ≤ n ∧ g = n - r ∧ i = .int .i64 r ∧ Drawn w wr ∧ SameTo l u m r 0)
      case atStart => exact ⟨0, Nat.zero_le _, rfl, rfl, Drawn.refl w, fun i j hi => absurd hi (Nat.not_lt_zero _), fun j hj => absurd hj (Nat.not_lt_zero _)⟩
      case round =>
        obtain ⟨r, hr, rfl, rfl, hD, hSm⟩ := hrel
        obtain ⟨wo, rfl⟩ : ∃ wo : World, wo = wr := ⟨_, rfl⟩
        by_cases hlt : r < n
        · have e1 := HL.out r hlt
          have e2 := HLU.out r hlt
          rw [← hD.cell] at e1 e2
          have HSm := Lib.hid hSm
          clear hSm
          go_wp2
          go_quiet (fail)
          go_wp2
          go_loopg [6] m (fun g j wi => ∃ c : Nat, c ≤ m ∧ g = m - c ∧ j = .int .i64 c ∧ Drawn wo wi ∧ SameTo l u m r c)
          case atStart => exact ⟨0, Nat.zero_le _, rfl, rfl, Drawn.mk _ _, HSm.out⟩
          case round =>
            obtain ⟨c, hc, rfl, rfl, hDi, hSi⟩ := hrel
            clear HSm
            rw [← hDi.cell] at e1 e2
            by_cases hcm : c < m
            · clear e1 e2
              obtain ⟨b', o', e1, e2, _, _⟩ := HC.out r c hlt hcm
              obtain ⟨d', q', g1, g2, _, _⟩ := HCU.out r c hlt hcm
              rw [← hD.cell, ← hDi.cell] at e1 e2 g1 g2
              obtain ⟨y, hy⟩ : ∃ y, at2 l r c = y := ⟨_, rfl⟩
              obtain ⟨z, hz⟩ : ∃ z, at2 u r c = z := ⟨_, rfl⟩
              rw [hy] at e2
              rw [hz] at g2
              have HY := Lib.hid hy
              have HZ := Lib.hid hz
              have HSi := Lib.hid hSi
              clear hy hz hSi
              by_cases hyz : y = z
              · subst hyz
                go_wp2
                go_quiet (fail)
                go_wp2
                go_roundg (m - (c + 1))
                case measure => omega
                case rel => exact ⟨c + 1, by omega, rfl, by go_num, hDi.trans (Drawn.mk _ _), HSi.out.step (by rw [HY.out, HZ.out])⟩
              · have hb : (y != z) = true := by simp [hyz]
                go_wp2
                go_quiet (fail)
                go_wp2
                go_ret
                refine ⟨ret_bool (decide_eq_false fun e => ?_).symm, (hD.trans hDi).trans (Drawn.mk _ _)⟩
                subst e
                exact hyz (by rw [← HY.out, ← HZ.out])
            · have : c = m := by omega
              subst this
              have HSn := Lib.hid hSi.next
              clear hSi
              go_wp2
              go_roundg (n - (r + 1))
              case measure => omega
              case rel => exact ⟨r + 1, by omega, rfl, by go_num, hD.trans hDi, HSn.out⟩
        · have : r = n := by omega
          subst this
          have hlu : l = u := HEXT.out fun i j hi hj => hSm.1 i j hi hj
          have HLUu := Lib.hid hlu
          clear hlu hSm
          go_wp2
          go_ret
          exact ⟨ret_bool (decide_eq_true HLUu.out).symm, hD⟩
    · have hb : ((m : Int) != (m' : Int)) = true := by simp; omega
      have hno : l ≠ u := by
        rintro rfl
        exact hmm2 (hmm.symm.trans hmm')
      have HNO := Lib.hid hno
      have e1 := HL.out 0 (by omega)
      have e2 := HLU.out 0 (by omega)
      rw [Nat.add_zero] at e1 e2
      clear hm hmu hT hTu hcell hcellu hlen hlenu hmm hmm' hrow hrowu hn hu hno
      go_enter Try.func53, Try.ntmps53
      go_wp2
      go_loopg [5, 6] 0 (fun g i _ wr => i = .int .i64 0 ∧ wr = w)
      case atStart => exact ⟨rfl, rfl⟩
      case round =>
        obtain ⟨rfl, rfl⟩ := hrel
        go_wp2
        go_quiet (fail)
        go_wp2
        go_ret
        exact ⟨ret_bool (decide_eq_false HNO.out).symm, Drawn.mk _ _⟩
  · have hb : ((n : Int) != (n2 : Int)) = true := by simp; omega
    have hno : l ≠ u := by
      rintro rfl
      exact hne (hn.symm.trans hu)
    have HNO := Lib.hid hno
    clear hm hmu hT hTu hn hu hno
    go_enter Try.func53, Try.ntmps53
    go_wp2
    go_ret
    exact ⟨ret_bool (decide_eq_false HNO.out).symm, Drawn.refl _⟩

set_option maxHeartbeats 1000000 in
theorem specTableSame_any (a a2 : Option Addr) (cap cap2 n n2 : Nat) (l u : List (List Int)) (w : World) (hn : l.length = n) (hu : u.length = n2) (hsz : szL l ≤ 1048576) (hszu : szL u ≤ 1048576) (hm : MatR w a l) (hmu : MatR w a2 u) :
    Calls Try.prog 14 #[.slice a n cap, .slice a2 n2 cap2] w fun e w' => e = .returned (.bool (sameOk l u)) ∧ w.Since w.heap.size w' := by
  have E := Lib.hid (specTableIn_any a cap n l w hn hsz hm)
  have E2 := Lib.hid (fun (W : World) (hs : Drawn w W) => specTableIn_any a2 cap2 n2 u W hu hszu (hmu.drawn hs))
  cases hT : tabIn l with
  | false =>
    have hok : sameOk l u = false := by unfold sameOk; rw [hT]; rfl
    rw [hT] at E
    rw [hok]
    clear hT hsz hm hn hok E2 hszu hmu hu
    go_enter Try.func14, Try.ntmps14
    go_wp2_with fail
    refine (E.out).mono ?_
    rintro e w1 ⟨rfl, hd⟩
    go_wp2
    go_ret
    exact ⟨rfl, hd.since _⟩
  | true =>
    have hTT := tabIn_of hT
    rw [hT] at E
    cases hTu : tabIn u with
    | false =>
      have hok : sameOk l u = false := by unfold sameOk; rw [hT, hTu]; rfl
      rw [hTu] at E2
      rw [hok]
      clear hT hsz hm hn hok hTT hTu hszu hmu hu
      go_enter Try.func14, Try.ntmps14
      go_wp2_with fail
      refine (E.out).mono ?_
      rintro e w1 ⟨rfl, hd⟩
      go_wp2_with fail
      refine (E2.out w1 hd).mono ?_
      rintro e w2 ⟨rfl, hd2⟩
      go_wp2
      go_ret
      exact ⟨rfl, (hd.trans hd2).since _⟩
    | true =>
      have hTTu := tabIn_of hTu
      rw [hTu] at E2
      have hok : sameOk l u = decide (l = u) := by unfold sameOk; rw [hT, hTu]; rfl
      rw [hok]
      have E3 := Lib.hid (fun (W : World) (hs : Drawn w W) => l1Same_any a a2 cap cap2 n n2 l u W hn hu (hm.drawn hs) (hmu.drawn hs) hTT hTTu)
      obtain ⟨b, hb⟩ : ∃ b, decide (l = u) = b := ⟨_, rfl⟩
      rw [hb] at E3 ⊢
      clear hT hsz hm hn hok hTT hTu hszu hmu hu hTTu hb
      go_enter Try.func14, Try.ntmps14
      go_wp2_with fail
      refine (E.out).mono ?_
      rintro e w1 ⟨rfl, hd⟩
      go_wp2_with fail
      refine (E2.out w1 hd).mono ?_
      rintro e w2 ⟨rfl, hd2⟩
      have hd12 := hd.trans hd2
      go_wp2_with fail
      refine (E3.out w2 hd12).mono ?_
      rintro e w3 ⟨rfl, hd3⟩
      go_wp2
      go_ret
      exact ⟨rfl, (hd12.trans hd3).since _⟩

end Go.Proofs.Ythdemjfllfhhpaa
end

section
namespace Go.Proofs.Ythdemjfllfhhpaa
open Go.RowKit Go.Deep

def lacks (n U : Nat) : List Nat := (List.range n).filter fun k => !U.testBit k
def gam (U j : Nat) : Nat := (lacks 6 U).getD j 0
def sgU (U : Nat) : Int := sn (((List.range 6).filter fun k => U.testBit k).foldl (· + ·) 0 + popcS U * (popcS U - 1) / 2)

theorem lacks_len : ∀ n : Fin 7, ∀ U : Fin 64, U.val < 2 ^ n.val → (lacks n.val U.val).length + popcS U.val = n.val := by decide +kernel
theorem lacks_get : ∀ n : Fin 7, ∀ U : Fin 64, ∀ j : Fin 6, U.val < 2 ^ n.val → j.val + popcS U.val < n.val → (lacks n.val U.val).getD j.val 0 = gam U.val j.val ∧ gam U.val j.val < n.val ∧ U.val.testBit (gam U.val j.val) = false := by decide +kernel
theorem gam_or : ∀ U : Fin 64, ∀ j j' : Fin 6, j.val + popcS U.val < 6 → j'.val + popcS U.val + 1 < 6 → gam (U.val ||| 2 ^ gam U.val j.val) j'.val = gam U.val (skip j.val j'.val) := by decide +kernel
theorem sgU_or : ∀ U : Fin 64, ∀ j : Fin 6, j.val + popcS U.val < 6 → sn (popcS (U.val / 2 ^ gam U.val j.val)) * sgU (U.val ||| 2 ^ gam U.val j.val) = sgU U.val * sn j.val := by decide +kernel
theorem popcS_add : ∀ U : Fin 64, ∀ k : Fin 6, U.val.testBit k.val = false → popcS (U.val ||| 2 ^ k.val) = popcS U.val + 1 := by decide +kernel

theorem sumL_get (F : Nat → Int) : ∀ l : List Nat, (l.map F).foldr (· + ·) 0 = sumN (fun j => F (l.getD j 0)) l.length
  | [] => rfl
  | x :: xs => by
    rw [List.length_cons, sumN_first, List.map_cons, List.foldr_cons, sumL_get F xs]
    rfl
theorem sumL_snoc (l : List Int) (x : Int) : (l ++ [x]).foldr (· + ·) 0 = l.foldr (· + ·) 0 + x := by
  induction l with
  | nil => simp
  | cons y ys ih => simp only [List.cons_append, List.foldr_cons, ih]; omega
theorem sumN_lacks (F : Nat → Int) (U : Nat) : ∀ n, sumN (fun k => if U.testBit k then 0 else F k) n = ((lacks n U).map F).foldr (· + ·) 0
  | 0 => rfl
  | n + 1 => by
    have e : lacks (n + 1) U = lacks n U ++ (if U.testBit n then [] else [n]) := by
      unfold lacks
      rw [List.range_succ, List.filter_append]
      cases h : U.testBit n <;> simp [h]
    unfold sumN
    rw [sumN_lacks F U n, e]
    cases h : U.testBit n
    · simp only [Bool.false_eq_true, if_false, List.map_append, List.map_cons, List.map_nil, sumL_snoc]
    · simp

theorem ordF_dt (l : List (List Int)) {n : Nat} (hn : n ≤ 6) : ∀ (d U : Nat), U < 2 ^ n → popcS U + d = n → ordF l n d U = sgU U * dt d (fun i j => at2 l (n - d + i) (gam U j))
  | 0, U, hU, hp => by
    rw [ordF_zero, dt_zero]
    have h : ∀ n : Fin 7, ∀ U : Fin 64, U.val < 2 ^ n.val → popcS U.val = n.val → sgU U.val = 1 := by decide +kernel
    have p : 2 ^ n ≤ 2 ^ 6 := Nat.pow_le_pow_right (by omega) hn
    have := h ⟨n, by omega⟩ ⟨U, by omega⟩ hU (by simpa using hp)
    simp only at this
    rw [this]; rfl
  | d + 1, U, hU, hp => by
    have p : 2 ^ n ≤ 2 ^ 6 := Nat.pow_le_pow_right (by omega) hn
    have hlen := lacks_len ⟨n, by omega⟩ ⟨U, by omega⟩ hU
    simp only at hlen
    rw [ordF_succ, dt_succ, ← sumN_mul]
    have e0 : ∀ k, ordT l (n - (d + 1)) U (ordF l n d) k = if U.testBit k then 0 else sn (popcS (U / 2 ^ k)) * (at2 l (n - (d + 1)) k * ordF l n d (U ||| 2 ^ k)) := fun k => by
      unfold ordT
      split
      · rfl
      · rw [sg_sn]
    rw [sumN_congr n (fun k _ => e0 k), sumN_lacks (fun k => sn (popcS (U / 2 ^ k)) * (at2 l (n - (d + 1)) k * ordF l n d (U ||| 2 ^ k))), sumL_get, show (lacks n U).length = d + 1 by omega]
    refine sumN_congr _ fun j hj => ?_
    obtain ⟨g1, g2, g3⟩ := lacks_get ⟨n, by omega⟩ ⟨U, by omega⟩ ⟨j, by omega⟩ hU (by simp only; omega)
    simp only at g1 g2 g3
    have hs := sgU_or ⟨U, by omega⟩ ⟨j, by omega⟩ (by simp only; omega)
    have ha := popcS_add ⟨U, by omega⟩ ⟨gam U j, by omega⟩ g3
    simp only at hs ha
    rw [g1, ordF_dt l hn d (U ||| 2 ^ gam U j) (Nat.or_lt_two_pow hU (Nat.pow_lt_pow_right (by omega) g2)) (by omega)]
    have ed : dt d (fun i j' => at2 l (n - d + i) (gam (U ||| 2 ^ gam U j) j')) = dt d (dr j (fun i j => at2 l (n - (d + 1) + i) (gam U j))) := dt_congr d fun i j' _ hj' => by
      have := gam_or ⟨U, by omega⟩ ⟨j, by omega⟩ ⟨j', by omega⟩ (by simp only; omega) (by simp only; omega)
      simp only at this
      rw [this]
      show _ = at2 l (n - (d + 1) + (i + 1)) (gam U (skip j j'))
      rw [show n - (d + 1) + (i + 1) = n - d + i by omega]
    rw [ed, Nat.add_zero]
    generalize dt d (dr j (fun i j => at2 l (n - (d + 1) + i) (gam U j))) = D
    generalize at2 l (n - (d + 1)) (gam U j) = y
    rw [show sn (popcS (U / 2 ^ gam U j)) * (y * (sgU (U ||| 2 ^ gam U j) * D)) = (sn (popcS (U / 2 ^ gam U j)) * sgU (U ||| 2 ^ gam U j)) * (y * D) by grind, hs, Int.mul_assoc]
theorem gam_zero : ∀ j : Fin 6, gam 0 j.val = j.val := by decide +kernel
theorem ordF_all (l : List (List Int)) {n : Nat} (hn : n ≤ 6) : ordF l n n 0 = dt n (at2 l) := by
  rw [ordF_dt l hn n 0 (Nat.pow_pos (by omega)) (by have : popcS 0 = 0 := by decide
                                                    omega)]
  have h1 : sgU 0 = 1 := by decide +kernel
  rw [h1, Int.one_mul]
  refine dt_congr n fun i j hi hj => ?_
  have := gam_zero ⟨j, by omega⟩
  simp only at this
  rw [this, Nat.sub_self, Nat.zero_add]

end Go.Proofs.Ythdemjfllfhhpaa
end

section
namespace Go.Proofs.Ythdemjfllfhhpaa
open Go.RowKit Go.Deep Go.Shelf

def FromB {β : Type} (B : Nat) (J : β → World → Prop) : Prop := ∀ s W W' row, J s W → W.grownBy W' row → (∀ r, row = some r → B ≤ r) → J s W'
theorem FromB.and {β : Type} {B : Nat} {I J : β → World → Prop} (h : FromB B I) (k : FromB B J) : FromB B (fun s W => I s W ∧ J s W) := fun s W W' row hs hg hr => ⟨h s W W' row hs.1 hg hr, k s W W' row hs.2 hg hr⟩
theorem FromB.alloc {β : Type} {B : Nat} {J : β → World → Prop} (h : FromB B J) {s : β} {W : World} (o : Obj) (hs : J s W) : J s (W.alloc o) := h s W _ none hs (World.grownBy_alloc W o none) (fun r e => by cases e)
theorem FromB.put {β : Type} {B : Nat} {J : β → World → Prop} (h : FromB B J) {s : β} {W : World} {l : Nat} (o : Obj) (hs : J s W) (hl : B ≤ l) : J s (W.putObj l o) := h s W _ (some l) hs (grownBy_putObj' W l o) (fun r e => by cases e; exact hl)

structure Keeps (own : Nat → Prop) (W W' : World) : Prop where
  size : W.heap.size ≤ W'.heap.size
  same : ∀ k o, ¬ own k → W.heap[k]? = some o → W'.heap[k]? = some o
theorem Keeps.refl (own : Nat → Prop) (W : World) : Keeps own W W := ⟨Nat.le_refl _, fun _ _ _ h => h⟩
theorem Keeps.trans {own : Nat → Prop} {A B C : World} (h : Keeps own A B) (k : Keeps own B C) : Keeps own A C := ⟨Nat.le_trans h.size k.size, fun i o hi ho => k.same i o hi (h.same i o hi ho)⟩
theorem Keeps.mono {own own' : Nat → Prop} {A B : World} (h : Keeps own A B) (hw : ∀ k, own k → own' k) : Keeps own' A B := ⟨h.size, fun k o hk ho => h.same k o (fun h => hk (hw k h)) ho⟩
theorem Keeps.grown {own : Nat → Prop} {A B : World} {row : Option Nat} (h : A.grownBy B row) (hr : ∀ r, row = some r → own r) : Keeps own A B :=
  ⟨h.size, fun k _ hk ho => (h.block k (Array.getElem?_eq_some_iff.1 ho).1 (fun e => hk (hr k e.symm))).trans ho⟩
theorem Keeps.cell {own : Nat → Prop} {A B : World} (h : Keeps own A B) {a : Addr} {v : Value} (ha : ¬ own a.block) (hc : A.cell? a = some v) : B.cell? a = some v := by
  obtain ⟨o, ho, _⟩ := cells_of_cell hc
  have := h.same _ _ ha ho
  unfold World.cell? at hc ⊢
  rw [ho] at hc
  rw [this]
  exact hc

def SeqC {α : Type} (F : Fence) (n : Nat) (P : Program) (g : Nat) (lb : Array Value) (encs : α → Array Value) (Px : α → World → Prop) (need : Nat → Prop) (S : List α → Prop) (N : Nat) (w : World) : Prop :=
  ∀ (l : Nat) (J : List α → World → Prop) (own : Nat → Prop) (W : World), Below w.heap.size w W → (∀ k, own k → k < W.heap.size ∧ ¬ need k) → FromB W.heap.size J →
    (∀ pre x W1, J pre W1 → Px x W1 → pre.length < N → YieldAt F (n - 1) P l (encs x) W1 fun e W' => e = .returned (.bool true) ∧ J (pre ++ [x]) W' ∧ Keeps own W1 W') →
    J [] W →
    CallsIn F n P g (#[.func (.yield l) #[] #[]] ++ lb) W fun e W' => (∃ v, e = .returned v) ∧ ∃ xs, S xs ∧ J xs W'

def roundC {α : Type} (own : Nat → Prop) (I : List α → World → Prop) (xs : List α) (W : World) : Exit → Act → World → Prop
  | .normal, _, W' => Keeps own W W' ∧ I xs W'
  | _, _, _ => False

theorem Keeps.put (own : Nat → Prop) (W : World) {l : Nat} (o : Obj) (hl : own l) : Keeps own W (W.putObj l o) := Keeps.grown (grownBy_putObj' W l o) (fun r e => by cases e; exact hl)

set_option maxHeartbeats 1000000 in
theorem rangeC {F : Fence} {n : Nat} {P : Program} {w : World} {α : Type} {g : Operand} {ps : Array Tmp} {assign body : Code} {Q : Exit → Act → World → Prop} {a : Act}
    (hro : F.round = none) (h1 : 1 ≤ n) {gf : Nat} {lb : Array Value} (hg : a.eval g = .func (.func gf) #[] lb) (hFg : F.fn gf) (eg : ∀ args w, (callFunc gf args).run P w = .ok (.enter gf args) w)
    {encs : α → Array Value} {Px : α → World → Prop} {need : Nat → Prop} {S : List α → Prop} {N : Nat} (hseq : SeqC F (n - 1) P gf lb encs Px need S N w) (hps : ∀ x, (encs x).size = ps.size)
    (hPx : ∀ x W l o o', Px x W → W.heap[l]? = some o → o.isCells = false → Px x (W.putObj l o'))
    (own : Nat → Prop) (hown : ∀ k, own k → k < w.heap.size ∧ ¬ need k) (hneed : ∀ k, need k → k < w.heap.size)
    (I : List α → World → Prop) (hI : FromB w.heap.size I) (h0 : I [] w) (a₁ : α → Act)
    (hassign : ∀ (l : Nat) (x : α) (W : World) (K : Act → World → Prop), K (a₁ x) W →
      assign.wpIn (F.inRound l) (n - 1 - 1) P (Exit.then K (fun _ _ _ => False)) { tmps := (ps.zip (encs x)).foldl (fun t (p, v) => t.setIfInBounds p v) a.tmps, defers := [] } W)
    (hbody : ∀ (l : Nat) (pre : List α) (x : α) (W : World), w.heap.size ≤ l → I pre W → Px x W → pre.length < N → body.wpIn (F.inRound l) (n - 1 - 1) P (roundC own I (pre ++ [x]) W) (a₁ x) W)
    (hdone : ∀ (D : Nat) (xs : List α) (W : World), w.heap.size ≤ D → S xs → I xs W → W.heap[D]? = some (.deferred (some [])) → Q .normal { a with defers := { target := .collected D, args := #[] } :: a.defers } W) :
    (Code.rangeFunc g ps assign body).wpIn F n P Q a w := by
  refine wpIn_rangeFunc fun fn hfn => ?_
  rw [hro]
  -- the two blocks of the loop: w.heap.size for deferred calls, L for its record
  obtain ⟨L, hL⟩ : ∃ L, L = w.heap.size + 1 := ⟨_, rfl⟩
  let R : LoopState → Option Code → Obj := fun st pe => .loop { state := st, pending := pe, fn := fn, tmps := a.tmps, params := ps, assign := assign, body := body, defers := w.heap.size }
  obtain ⟨V, hV⟩ : ∃ V, V = (w.alloc (.deferred (some []))).alloc (R .ready none) := ⟨_, rfl⟩
  have sV : V.heap.size = L + 1 := by rw [hV, hL]; simp
  have lV : V.heap[L]? = some (R .ready none) := by
    have := World.alloc_heap_new (w.alloc (.deferred (some []))) (R .ready none)
    rw [World.size_alloc] at this
    rw [hV, hL]; exact this
  have dV : V.heap[w.heap.size]? = some (.deferred (some [])) := by
    rw [hV]; exact (Below.heap_alloc _ _ _ (by simp)).trans (World.alloc_heap_new w _)
  have bV : Below w.heap.size w V := by rw [hV]; exact ((Below.refl _ w).alloc (Nat.le_refl _) _).alloc (by simp) _
  have iV : I [] V := by rw [hV]; exact hI.alloc _ (hI.alloc _ h0)
  have hen : (Instr.enterLoop fn a.tmps ps assign body none).run P w = .ok (L, [{ target := .collected w.heap.size, args := #[] }]) V := by
    rw [hV, hL]; exact run_enterLoop_outer _ _ _ _ _
  clear hV
  have hrec : FromB V.heap.size (fun (_ : Unit) W => W.heap[L]? = some (R .ready none) ∧ W.heap[w.heap.size]? = some (.deferred (some []))) := fun _ A B row hs hgr hr =>
    ⟨(hgr.block L (Array.getElem?_eq_some_iff.1 hs.1).1 (fun e => by have := hr L e.symm; omega)).trans hs.1, (hgr.block _ (Array.getElem?_eq_some_iff.1 hs.2).1 (fun e => by have := hr _ e.symm; omega)).trans hs.2⟩
  refine ⟨L, _, V, { target := .fn (.func gf) lb, args := #[.func (.yield L) #[] #[]] }, V, gf, #[.func (.yield L) #[] #[]] ++ lb, V, hen, ?_, ?_, ?_, fun _ => h1, ?_⟩
  · simp only [resolve, hg]
    simp [go_sem]
  · intro f' hf'
    simp [Target.leads] at hf'
    subst hf'
    exact hFg
  · simp [invoke, go_sem, eg]
  refine (hseq L (fun pre W => I pre W ∧ W.heap[L]? = some (R .ready none) ∧ W.heap[w.heap.size]? = some (.deferred (some [])))
    (fun k => own k ∨ k = L) V bV ?_ ?_ ?_ ⟨iV, lV, dV⟩).mono ?_
  · rintro k (hk | rfl)
    · exact ⟨by have := (hown k hk).1; omega, (hown k hk).2⟩
    · exact ⟨by omega, fun h => by have := hneed _ h; omega⟩
  · intro s A B row hs hgr hr
    exact ⟨hI s A B row hs.1 hgr (fun r e => by have := hr r e; omega), hrec () A B row hs.2 hgr hr⟩
  · rintro pre x W ⟨hi, hl, hd⟩ hpx hlen
    have lt : L < W.heap.size := (Array.getElem?_eq_some_iff.1 hl).1
    refine ⟨fn, _, assign, body, run_yield hl (hps x), roundIn_of_wpIn hfn (hassign L x W _ ⟨_, run_beginRound hl rfl, ?_⟩)⟩
    obtain ⟨X, hX⟩ : ∃ X, X = W.putObj L (R .busy none) := ⟨_, rfl⟩
    have lX : X.heap[L]? = some (R .busy none) := by rw [hX]; exact World.putObj_heap_same lt
    have dX : X.heap[w.heap.size]? = some (.deferred (some [])) := by rw [hX]; exact (World.putObj_heap_other (by omega)).trans hd
    have iX : I pre X := by rw [hX]; exact hI.put _ hi (by omega)
    have pX : Px x X := by rw [hX]; exact hPx x W L _ _ hpx hl rfl
    have kX : Keeps (fun k => own k ∨ k = L) W X := by rw [hX]; exact Keeps.put _ W _ (.inr rfl)
    have hno : ¬ own L := fun h => by have := (hown _ h).1; omega
    have hno2 : ¬ own w.heap.size := fun h => by have := (hown _ h).1; omega
    refine wpIn_mono (by rw [← hX]; exact hbody L pre x X (by omega) iX pX hlen) ?_
    rintro e b Y hp
    cases e with
    | normal =>
      have lY := hp.1.same _ _ hno lX
      have dY := hp.1.same _ _ hno2 dX
      exact ⟨_, _, run_endRound none lY, rfl, ⟨hI.put _ hp.2 (by omega), World.putObj_heap_same (Array.getElem?_eq_some_iff.1 lY).1, (World.putObj_heap_other (by omega)).trans dY⟩, (kX.trans (hp.1.mono fun _ h => .inl h)).trans (Keeps.put _ Y _ (.inr rfl))⟩
    | ret => exact hp.elim
    | exit id => exact hp.elim
    | goto t => exact hp.elim
    | panic ch => exact hp.elim
    | outgrown => exact hp.elim
  · rintro e Y ⟨⟨v, rfl⟩, xs, hS, hi, hl, hd⟩
    exact ⟨none, _, run_endLoop hl (by simp), hdone _ xs _ (Nat.le_refl _) hS (hI.put _ hi (by omega)) ((World.putObj_heap_other (by omega)).trans hd)⟩

end Go.Proofs.Ythdemjfllfhhpaa
end

section
namespace Go.Proofs.Ythdemjfllfhhpaa
open Go.RowKit Go.Deep Go.Shelf

def SeqE {α : Type} (F : Fence) (n : Nat) (P : Program) (g : Nat) (lb : Array Value) (encs : α → Array Value) (Px : α → World → Prop) (need : Nat → Prop) (S Sp : List α → Prop) (N : Nat) (w : World) : Prop :=
  ∀ (l : Nat) (J Jx : List α → World → Prop) (own : Nat → Prop) (W : World), Below w.heap.size w W → (∀ k, own k → k < W.heap.size ∧ ¬ need k) → FromB W.heap.size J → FromB W.heap.size Jx →
    (∀ pre x W1, J pre W1 → Px x W1 → pre.length < N → YieldAt F (n - 1) P l (encs x) W1 fun e W' => (e = .returned (.bool true) ∧ J (pre ++ [x]) W' ∧ Keeps own W1 W') ∨ (e = .returned (.bool false) ∧ Jx (pre ++ [x]) W' ∧ Keeps own W1 W')) →
    J [] W →
    CallsIn F n P g (#[.func (.yield l) #[] #[]] ++ lb) W fun e W' => (∃ v, e = .returned v) ∧ ((∃ xs, S xs ∧ J xs W') ∨ (∃ pre, Sp pre ∧ Jx pre W'))

def roundE {α : Type} (own : Nat → Prop) (I : List α → World → Prop) (Ix : Code → List α → World → Prop) (xs : List α) (W : World) : Exit → Act → World → Prop
  | .normal, _, W' => Keeps own W W' ∧ I xs W'
  | .ret, _, W' => Keeps own W W' ∧ Ix .ret xs W'
  | _, _, _ => False

set_option maxHeartbeats 1000000 in
theorem rangeE {F : Fence} {n : Nat} {P : Program} {w : World} {α : Type} {g : Operand} {ps : Array Tmp} {assign body : Code} {Q : Exit → Act → World → Prop} {a : Act}
    (hro : F.round = none) (h1 : 1 ≤ n) {gf : Nat} {lb : Array Value} (hg : a.eval g = .func (.func gf) #[] lb) (hFg : F.fn gf) (eg : ∀ args w, (callFunc gf args).run P w = .ok (.enter gf args) w)
    {encs : α → Array Value} {Px : α → World → Prop} {need : Nat → Prop} {S Sp : List α → Prop} {N : Nat} (hseq : SeqE F (n - 1) P gf lb encs Px need S Sp N w) (hps : ∀ x, (encs x).size = ps.size)
    (hPx : ∀ x W l o o', Px x W → W.heap[l]? = some o → o.isCells = false → Px x (W.putObj l o'))
    (own : Nat → Prop) (hown : ∀ k, own k → k < w.heap.size ∧ ¬ need k) (hneed : ∀ k, need k → k < w.heap.size)
    (I : List α → World → Prop) (Ix : Code → List α → World → Prop) (hI : FromB w.heap.size I) (hIx : ∀ c, FromB w.heap.size (Ix c)) (h0 : I [] w) (a₁ : α → Act)
    (hassign : ∀ (l : Nat) (x : α) (W : World) (K : Act → World → Prop), K (a₁ x) W →
      assign.wpIn (F.inRound l) (n - 1 - 1) P (Exit.then K (fun _ _ _ => False)) { tmps := (ps.zip (encs x)).foldl (fun t (p, v) => t.setIfInBounds p v) a.tmps, defers := [] } W)
    (hbody : ∀ (l : Nat) (pre : List α) (x : α) (W : World), w.heap.size ≤ l → I pre W → Px x W → pre.length < N → body.wpIn (F.inRound l) (n - 1 - 1) P (roundE own I Ix (pre ++ [x]) W) (a₁ x) W)
    (hdone : ∀ (D : Nat) (xs : List α) (W : World), w.heap.size ≤ D → S xs → I xs W → W.heap[D]? = some (.deferred (some [])) → Q .normal { a with defers := { target := .collected D, args := #[] } :: a.defers } W)
    (hstop : ∀ (D : Nat) (c : Code) (pre : List α) (W : World), w.heap.size ≤ D → Sp pre → Ix c pre W → W.heap[D]? = some (.deferred (some [])) → c.wpIn F n P Q { a with defers := { target := .collected D, args := #[] } :: a.defers } W) :
    (Code.rangeFunc g ps assign body).wpIn F n P Q a w := by
  refine wpIn_rangeFunc fun fn hfn => ?_
  rw [hro]
  -- the two blocks of the loop: w.heap.size for deferred calls, L for its record
  obtain ⟨L, hL⟩ : ∃ L, L = w.heap.size + 1 := ⟨_, rfl⟩
  let R : LoopState → Option Code → Obj := fun st pe => .loop { state := st, pending := pe, fn := fn, tmps := a.tmps, params := ps, assign := assign, body := body, defers := w.heap.size }
  obtain ⟨V, hV⟩ : ∃ V, V = (w.alloc (.deferred (some []))).alloc (R .ready none) := ⟨_, rfl⟩
  have sV : V.heap.size = L + 1 := by rw [hV, hL]; simp
  have lV : V.heap[L]? = some (R .ready none) := by
    have := World.alloc_heap_new (w.alloc (.deferred (some []))) (R .ready none)
    rw [World.size_alloc] at this
    rw [hV, hL]; exact this
  have dV : V.heap[w.heap.size]? = some (.deferred (some [])) := by
    rw [hV]; exact (Below.heap_alloc _ _ _ (by simp)).trans (World.alloc_heap_new w _)
  have bV : Below w.heap.size w V := by rw [hV]; exact ((Below.refl _ w).alloc (Nat.le_refl _) _).alloc (by simp) _
  have iV : I [] V := by rw [hV]; exact hI.alloc _ (hI.alloc _ h0)
  have hen : (Instr.enterLoop fn a.tmps ps assign body none).run P w = .ok (L, [{ target := .collected w.heap.size, args := #[] }]) V := by
    rw [hV, hL]; exact run_enterLoop_outer _ _ _ _ _
  clear hV
  have hrec : FromB V.heap.size (fun (_ : Unit) W => W.heap[L]? = some (R .ready none) ∧ W.heap[w.heap.size]? = some (.deferred (some []))) := fun _ A B row hs hgr hr =>
    ⟨(hgr.block L (Array.getElem?_eq_some_iff.1 hs.1).1 (fun e => by have := hr L e.symm; omega)).trans hs.1, (hgr.block _ (Array.getElem?_eq_some_iff.1 hs.2).1 (fun e => by have := hr _ e.symm; omega)).trans hs.2⟩
  refine ⟨L, _, V, { target := .fn (.func gf) lb, args := #[.func (.yield L) #[] #[]] }, V, gf, #[.func (.yield L) #[] #[]] ++ lb, V, hen, ?_, ?_, ?_, fun _ => h1, ?_⟩
  · simp only [resolve, hg]
    simp [go_sem]
  · intro f' hf'
    simp [Target.leads] at hf'
    subst hf'
    exact hFg
  · simp [invoke, go_sem, eg]
  refine (hseq L (fun pre W => I pre W ∧ W.heap[L]? = some (R .ready none) ∧ W.heap[w.heap.size]? = some (.deferred (some [])))
    (fun pre W => Ix .ret pre W ∧ W.heap[L]? = some (R .done (some .ret)) ∧ W.heap[w.heap.size]? = some (.deferred (some [])))
    (fun k => own k ∨ k = L) V bV ?_ ?_ ?_ ?_ ⟨iV, lV, dV⟩).mono ?_
  · rintro k (hk | rfl)
    · exact ⟨by have := (hown k hk).1; omega, (hown k hk).2⟩
    · exact ⟨by omega, fun h => by have := hneed _ h; omega⟩
  · intro s A B row hs hgr hr
    exact ⟨hI s A B row hs.1 hgr (fun r e => by have := hr r e; omega), hrec () A B row hs.2 hgr hr⟩
  · intro s A B row hs hgr hr
    exact ⟨hIx _ s A B row hs.1 hgr (fun r e => by have := hr r e; omega), (hgr.block L (Array.getElem?_eq_some_iff.1 hs.2.1).1 (fun e => by have := hr L e.symm; omega)).trans hs.2.1, (hgr.block _ (Array.getElem?_eq_some_iff.1 hs.2.2).1 (fun e => by have := hr _ e.symm; omega)).trans hs.2.2⟩
  · rintro pre x W ⟨hi, hl, hd⟩ hpx hlen
    have lt : L < W.heap.size := (Array.getElem?_eq_some_iff.1 hl).1
    refine ⟨fn, _, assign, body, run_yield hl (hps x), roundIn_of_wpIn hfn (hassign L x W _ ⟨_, run_beginRound hl rfl, ?_⟩)⟩
    obtain ⟨X, hX⟩ : ∃ X, X = W.putObj L (R .busy none) := ⟨_, rfl⟩
    have lX : X.heap[L]? = some (R .busy none) := by rw [hX]; exact World.putObj_heap_same lt
    have dX : X.heap[w.heap.size]? = some (.deferred (some [])) := by rw [hX]; exact (World.putObj_heap_other (by omega)).trans hd
    have iX : I pre X := by rw [hX]; exact hI.put _ hi (by omega)
    have pX : Px x X := by rw [hX]; exact hPx x W L _ _ hpx hl rfl
    have kX : Keeps (fun k => own k ∨ k = L) W X := by rw [hX]; exact Keeps.put _ W _ (.inr rfl)
    have hno : ¬ own L := fun h => by have := (hown _ h).1; omega
    have hno2 : ¬ own w.heap.size := fun h => by have := (hown _ h).1; omega
    refine wpIn_mono (by rw [← hX]; exact hbody L pre x X (by omega) iX pX hlen) ?_
    rintro e b Y hp
    cases e with
    | normal =>
      have lY := hp.1.same _ _ hno lX
      have dY := hp.1.same _ _ hno2 dX
      exact ⟨_, _, run_endRound none lY, .inl ⟨rfl, ⟨hI.put _ hp.2 (by omega), World.putObj_heap_same (Array.getElem?_eq_some_iff.1 lY).1, (World.putObj_heap_other (by omega)).trans dY⟩, (kX.trans (hp.1.mono fun _ h => .inl h)).trans (Keeps.put _ Y _ (.inr rfl))⟩⟩
    | ret =>
      have lY := hp.1.same _ _ hno lX
      have dY := hp.1.same _ _ hno2 dX
      exact ⟨_, _, run_endRound (some .ret) lY, .inr ⟨rfl, ⟨(hIx _).put _ hp.2 (by omega), World.putObj_heap_same (Array.getElem?_eq_some_iff.1 lY).1, (World.putObj_heap_other (by omega)).trans dY⟩, (kX.trans (hp.1.mono fun _ h => .inl h)).trans (Keeps.put _ Y _ (.inr rfl))⟩⟩
    | exit id => exact hp.elim
    | goto t => exact hp.elim
    | panic ch => exact hp.elim
    | outgrown => exact hp.elim
  · rintro e Y ⟨⟨v, rfl⟩, (⟨xs, hS, hi, hl, hd⟩ | ⟨pre, hSp, hi, hl, hd⟩)⟩
    · exact ⟨none, _, run_endLoop hl (by simp), hdone _ xs _ (Nat.le_refl _) hS (hI.put _ hi (by omega)) ((World.putObj_heap_other (by omega)).trans hd)⟩
    · exact ⟨some .ret, _, run_endLoop hl (by simp), hstop _ .ret pre _ (Nat.le_refl _) hSp ((hIx _).put _ hi (by omega)) ((World.putObj_heap_other (by omega)).trans hd)⟩

theorem SeqE.toC {α : Type} {F : Fence} {n : Nat} {P : Program} {g : Nat} {lb : Array Value} {encs : α → Array Value} {Px : α → World → Prop} {need : Nat → Prop} {S Sp : List α → Prop} {N : Nat} {w : World} (h : SeqE F n P g lb encs Px need S Sp N w) :
    SeqC F n P g lb encs Px need S N w := fun l J own W hW hown hJ hY hj =>
  (h l J (fun _ _ => False) own W hW hown hJ (fun _ _ _ _ hs _ _ => hs) (fun pre x W1 h1 h2 h3 => (hY pre x W1 h1 h2 h3).mono fun _ _ hh => .inl hh) hj).mono fun _ _ hh => ⟨hh.1, by
    rcases hh.2 with hh | ⟨_, _, hh⟩
    · exact hh
    · exact hh.elim⟩

end Go.Proofs.Ythdemjfllfhhpaa
end

section
namespace Go.Proofs.Ythdemjfllfhhpaa
open Go.RowKit Go.Deep Go.Shelf

theorem SeqE.inRound {α : Type} {F : Fence} {n : Nat} {P : Program} {g : Nat} {lb : Array Value} {encs : α → Array Value} {Px : α → World → Prop} {need : Nat → Prop} {S Sp : List α → Prop} {N : Nat} {w : World} (l : Nat) (h : SeqE F n P g lb encs Px need S Sp N w) : SeqE (F.inRound l) n P g lb encs Px need S Sp N w := h

set_option maxHeartbeats 1000000 in
theorem rangeF {F : Fence} {n : Nat} {P : Program} {w : World} {α : Type} {g : Operand} {ps : Array Tmp} {assign body : Code} {Q : Exit → Act → World → Prop} {a : Act}
    (hro : F.round = none) (h1 : 1 ≤ n) {gf : Nat} {lb : Array Value} (hg : a.eval g = .func (.func gf) #[] lb) (hFg : F.fn gf) (eg : ∀ args w, (callFunc gf args).run P w = .ok (.enter gf args) w)
    {encs : α → Array Value} {Px : α → Prop} {need : Nat → Prop} {S Sp : List α → Prop} {N : Nat} (hseq : SeqE F (n - 1) P gf lb encs (fun x _ => Px x) need S Sp N w) (hps : ∀ x, (encs x).size = ps.size)
    (own : Nat → Prop) (hown : ∀ k, own k → k < w.heap.size ∧ ¬ need k) (hneed : ∀ k, need k → k < w.heap.size)
    (I : List α → World → Prop) (Ix : Code → List α → World → Prop) (hI : FromB w.heap.size I) (hIx : ∀ c, FromB w.heap.size (Ix c)) (h0 : I [] w)
    (Ax : α → Act → World → Prop) (hAx : ∀ x a' W l o o', Ax x a' W → W.heap[l]? = some o → o.isCells = false → Ax x a' (W.putObj l o'))
    (hassign : ∀ (l : Nat) (pre : List α) (x : α) (W : World) (K : Act → World → Prop), w.heap.size ≤ W.heap.size → I pre W → Px x → (∀ a' W', Keeps own W W' → I pre W' → Ax x a' W' → K a' W') →
      assign.wpIn (F.inRound l) (n - 1 - 1) P (Exit.then K (fun _ _ _ => False)) { tmps := (ps.zip (encs x)).foldl (fun t (p, v) => t.setIfInBounds p v) a.tmps, defers := [] } W)
    (hbody : ∀ (l : Nat) (pre : List α) (x : α) (a' : Act) (W : World), w.heap.size ≤ l → w.heap.size ≤ W.heap.size → (∃ r, W.heap[l]? = some (.loop r)) → I pre W → Px x → Ax x a' W → pre.length < N → body.wpIn (F.inRound l) (n - 1 - 1) P (roundE own I Ix (pre ++ [x]) W) a' W)
    (hdone : ∀ (D : Nat) (xs : List α) (W : World), w.heap.size ≤ D → S xs → I xs W → W.heap[D]? = some (.deferred (some [])) → Q .normal { a with defers := { target := .collected D, args := #[] } :: a.defers } W)
    (hstop : ∀ (D : Nat) (c : Code) (pre : List α) (W : World), w.heap.size ≤ D → Sp pre → Ix c pre W → W.heap[D]? = some (.deferred (some [])) → c.wpIn F n P Q { a with defers := { target := .collected D, args := #[] } :: a.defers } W) :
    (Code.rangeFunc g ps assign body).wpIn F n P Q a w := by
  refine wpIn_rangeFunc fun fn hfn => ?_
  rw [hro]
  obtain ⟨L, hL⟩ : ∃ L, L = w.heap.size + 1 := ⟨_, rfl⟩
  let R : LoopState → Option Code → Obj := fun st pe => .loop { state := st, pending := pe, fn := fn, tmps := a.tmps, params := ps, assign := assign, body := body, defers := w.heap.size }
  obtain ⟨V, hV⟩ : ∃ V, V = (w.alloc (.deferred (some []))).alloc (R .ready none) := ⟨_, rfl⟩
  have sV : V.heap.size = L + 1 := by rw [hV, hL]; simp
  have lV : V.heap[L]? = some (R .ready none) := by
    have := World.alloc_heap_new (w.alloc (.deferred (some []))) (R .ready none)
    rw [World.size_alloc] at this
    rw [hV, hL]; exact this
  have dV : V.heap[w.heap.size]? = some (.deferred (some [])) := by
    rw [hV]; exact (Below.heap_alloc _ _ _ (by simp)).trans (World.alloc_heap_new w _)
  have bV : Below w.heap.size w V := by rw [hV]; exact ((Below.refl _ w).alloc (Nat.le_refl _) _).alloc (by simp) _
  have iV : I [] V := by rw [hV]; exact hI.alloc _ (hI.alloc _ h0)
  have hen : (Instr.enterLoop fn a.tmps ps assign body none).run P w = .ok (L, [{ target := .collected w.heap.size, args := #[] }]) V := by
    rw [hV, hL]; exact run_enterLoop_outer _ _ _ _ _
  clear hV
  have hrec : FromB V.heap.size (fun (_ : Unit) W => W.heap[L]? = some (R .ready none) ∧ W.heap[w.heap.size]? = some (.deferred (some []))) := fun _ A B row hs hgr hr =>
    ⟨(hgr.block L (Array.getElem?_eq_some_iff.1 hs.1).1 (fun e => by have := hr L e.symm; omega)).trans hs.1, (hgr.block _ (Array.getElem?_eq_some_iff.1 hs.2).1 (fun e => by have := hr _ e.symm; omega)).trans hs.2⟩
  refine ⟨L, _, V, { target := .fn (.func gf) lb, args := #[.func (.yield L) #[] #[]] }, V, gf, #[.func (.yield L) #[] #[]] ++ lb, V, hen, ?_, ?_, ?_, fun _ => h1, ?_⟩
  · simp only [resolve, hg]
    simp [go_sem]
  · intro f' hf'
    simp [Target.leads] at hf'
    subst hf'
    exact hFg
  · simp [invoke, go_sem, eg]
  refine (hseq L (fun pre W => I pre W ∧ W.heap[L]? = some (R .ready none) ∧ W.heap[w.heap.size]? = some (.deferred (some [])))
    (fun pre W => Ix .ret pre W ∧ W.heap[L]? = some (R .done (some .ret)) ∧ W.heap[w.heap.size]? = some (.deferred (some [])))
    (fun k => own k ∨ k = L) V bV ?_ ?_ ?_ ?_ ⟨iV, lV, dV⟩).mono ?_
  · rintro k (hk | rfl)
    · exact ⟨by have := (hown k hk).1; omega, (hown k hk).2⟩
    · exact ⟨by omega, fun h => by have := hneed _ h; omega⟩
  · intro s A B row hs hgr hr
    exact ⟨hI s A B row hs.1 hgr (fun r e => by have := hr r e; omega), hrec () A B row hs.2 hgr hr⟩
  · intro s A B row hs hgr hr
    exact ⟨hIx _ s A B row hs.1 hgr (fun r e => by have := hr r e; omega), (hgr.block L (Array.getElem?_eq_some_iff.1 hs.2.1).1 (fun e => by have := hr L e.symm; omega)).trans hs.2.1, (hgr.block _ (Array.getElem?_eq_some_iff.1 hs.2.2).1 (fun e => by have := hr _ e.symm; omega)).trans hs.2.2⟩
  · rintro pre x Wb ⟨hi, hl, hd⟩ hpx hlen
    have hno : ¬ own L := fun h => by have := (hown _ h).1; omega
    have hno2 : ¬ own w.heap.size := fun h => by have := (hown _ h).1; omega
    have ltb : L < Wb.heap.size := (Array.getElem?_eq_some_iff.1 hl).1
    refine ⟨fn, _, assign, body, run_yield hl (hps x), roundIn_of_wpIn hfn (hassign L pre x Wb _ (by omega) hi hpx ?_)⟩
    intro a' W hka hia hax
    replace hl := hka.same _ _ hno hl
    replace hd := hka.same _ _ hno2 hd
    have lt : L < W.heap.size := (Array.getElem?_eq_some_iff.1 hl).1
    refine ⟨_, run_beginRound hl rfl, ?_⟩
    obtain ⟨X, hX⟩ : ∃ X, X = W.putObj L (R .busy none) := ⟨_, rfl⟩
    have lX : X.heap[L]? = some (R .busy none) := by rw [hX]; exact World.putObj_heap_same lt
    have dX : X.heap[w.heap.size]? = some (.deferred (some [])) := by rw [hX]; exact (World.putObj_heap_other (by omega)).trans hd
    have iX : I pre X := by rw [hX]; exact hI.put _ hia (by omega)
    have aX : Ax x a' X := by rw [hX]; exact hAx x a' W L _ _ hax hl rfl
    have kX : Keeps (fun k => own k ∨ k = L) Wb X := by rw [hX]; exact (hka.mono fun _ h => .inl h).trans (Keeps.put _ W _ (.inr rfl))
    have zX : w.heap.size ≤ X.heap.size := by have := (Array.getElem?_eq_some_iff.1 lX).1; omega
    refine wpIn_mono (by rw [← hX]; exact hbody L pre x a' X (by omega) zX ⟨_, lX⟩ iX hpx aX hlen) ?_
    rintro e b Y hp
    cases e with
    | normal =>
      have lY := hp.1.same _ _ hno lX
      have dY := hp.1.same _ _ hno2 dX
      exact ⟨_, _, run_endRound none lY, .inl ⟨rfl, ⟨hI.put _ hp.2 (by omega), World.putObj_heap_same (Array.getElem?_eq_some_iff.1 lY).1, (World.putObj_heap_other (by omega)).trans dY⟩, (kX.trans (hp.1.mono fun _ h => .inl h)).trans (Keeps.put _ Y _ (.inr rfl))⟩⟩
    | ret =>
      have lY := hp.1.same _ _ hno lX
      have dY := hp.1.same _ _ hno2 dX
      exact ⟨_, _, run_endRound (some .ret) lY, .inr ⟨rfl, ⟨(hIx _).put _ hp.2 (by omega), World.putObj_heap_same (Array.getElem?_eq_some_iff.1 lY).1, (World.putObj_heap_other (by omega)).trans dY⟩, (kX.trans (hp.1.mono fun _ h => .inl h)).trans (Keeps.put _ Y _ (.inr rfl))⟩⟩
    | exit id => exact hp.elim
    | goto t => exact hp.elim
    | panic ch => exact hp.elim
    | outgrown => exact hp.elim
  · rintro e Y ⟨⟨v, rfl⟩, (⟨xs, hS, hi, hl, hd⟩ | ⟨pre, hSp, hi, hl, hd⟩)⟩
    · exact ⟨none, _, run_endLoop hl (by simp), hdone _ xs _ (Nat.le_refl _) hS (hI.put _ hi (by omega)) ((World.putObj_heap_other (by omega)).trans hd)⟩
    · exact ⟨some .ret, _, run_endLoop hl (by simp), hstop _ .ret pre _ (Nat.le_refl _) hSp ((hIx _).put _ hi (by omega)) ((World.putObj_heap_other (by omega)).trans hd)⟩

set_option maxHeartbeats 1000000 in
theorem rangeN {F : Fence} {n : Nat} {P : Program} {w : World} {α : Type} {g : Operand} {ps : Array Tmp} {assign body : Code} {Q : Exit → Act → World → Prop} {a : Act}
    {l₀ : Nat} {r₀ : Loop} (hro : F.round = some l₀) (hl₀ : w.heap[l₀]? = some (.loop r₀)) (h1 : 1 ≤ n) {gf : Nat} {lb : Array Value} (hg : a.eval g = .func (.func gf) #[] lb) (hFg : F.fn gf) (eg : ∀ args w, (callFunc gf args).run P w = .ok (.enter gf args) w)
    {encs : α → Array Value} {Px : α → Prop} {need : Nat → Prop} {S Sp : List α → Prop} {N : Nat} (hseq : SeqE F (n - 1) P gf lb encs (fun x _ => Px x) need S Sp N w) (hps : ∀ x, (encs x).size = ps.size)
    (own : Nat → Prop) (hown : ∀ k, own k → k < w.heap.size ∧ ¬ need k) (hneed : ∀ k, need k → k < w.heap.size)
    (I : List α → World → Prop) (Ix : Code → List α → World → Prop) (hI : FromB w.heap.size I) (hIx : ∀ c, FromB w.heap.size (Ix c)) (h0 : I [] w)
    (Ax : α → Act → World → Prop) (hAx : ∀ x a' W l o o', Ax x a' W → W.heap[l]? = some o → o.isCells = false → Ax x a' (W.putObj l o'))
    (hassign : ∀ (l : Nat) (pre : List α) (x : α) (W : World) (K : Act → World → Prop), w.heap.size ≤ W.heap.size → I pre W → Px x → (∀ a' W', Keeps own W W' → I pre W' → Ax x a' W' → K a' W') →
      assign.wpIn (F.inRound l) (n - 1 - 1) P (Exit.then K (fun _ _ _ => False)) { tmps := (ps.zip (encs x)).foldl (fun t (p, v) => t.setIfInBounds p v) a.tmps, defers := [] } W)
    (hbody : ∀ (l : Nat) (pre : List α) (x : α) (a' : Act) (W : World), w.heap.size ≤ l → w.heap.size ≤ W.heap.size → (∃ r, W.heap[l]? = some (.loop r)) → I pre W → Px x → Ax x a' W → pre.length < N → body.wpIn (F.inRound l) (n - 1 - 1) P (roundE own I Ix (pre ++ [x]) W) a' W)
    (hdone : ∀ (xs : List α) (W : World), S xs → I xs W → Q .normal a W)
    (hstop : ∀ (c : Code) (pre : List α) (W : World), Sp pre → Ix c pre W → c.wpIn F n P Q a W) :
    (Code.rangeFunc g ps assign body).wpIn F n P Q a w := by
  refine wpIn_rangeFunc fun fn hfn => ?_
  rw [hro]
  obtain ⟨L, hL⟩ : ∃ L, L = w.heap.size := ⟨_, rfl⟩
  let R : LoopState → Option Code → Obj := fun st pe => .loop { state := st, pending := pe, fn := fn, tmps := a.tmps, params := ps, assign := assign, body := body, defers := r₀.defers }
  obtain ⟨V, hV⟩ : ∃ V, V = w.alloc (R .ready none) := ⟨_, rfl⟩
  have sV : V.heap.size = L + 1 := by rw [hV, hL]; simp
  have lV : V.heap[L]? = some (R .ready none) := by rw [hV, hL]; exact World.alloc_heap_new w _
  have bV : Below w.heap.size w V := by rw [hV]; exact (Below.refl _ w).alloc (Nat.le_refl _) _
  have iV : I [] V := by rw [hV]; exact hI.alloc _ h0
  have hen : (Instr.enterLoop fn a.tmps ps assign body (some l₀)).run P w = .ok (L, []) V := by
    rw [hV, hL]; exact run_enterLoop_inner hl₀ _ _ _ _ _
  clear hV
  refine ⟨L, _, V, { target := .fn (.func gf) lb, args := #[.func (.yield L) #[] #[]] }, V, gf, #[.func (.yield L) #[] #[]] ++ lb, V, hen, ?_, ?_, ?_, fun _ => h1, ?_⟩
  · simp only [resolve, hg]
    simp [go_sem]
  · intro f' hf'
    simp [Target.leads] at hf'
    subst hf'
    exact hFg
  · simp [invoke, go_sem, eg]
  refine (hseq L (fun pre W => I pre W ∧ W.heap[L]? = some (R .ready none))
    (fun pre W => Ix .ret pre W ∧ W.heap[L]? = some (R .done (some .ret)))
    (fun k => own k ∨ k = L) V bV ?_ ?_ ?_ ?_ ⟨iV, lV⟩).mono ?_
  · rintro k (hk | rfl)
    · exact ⟨by have := (hown k hk).1; omega, (hown k hk).2⟩
    · exact ⟨by omega, fun h => by have := hneed _ h; omega⟩
  · intro s A B row hs hgr hr
    exact ⟨hI s A B row hs.1 hgr (fun r e => by have := hr r e; omega), (hgr.block L (Array.getElem?_eq_some_iff.1 hs.2).1 (fun e => by have := hr L e.symm; omega)).trans hs.2⟩
  · intro s A B row hs hgr hr
    exact ⟨hIx _ s A B row hs.1 hgr (fun r e => by have := hr r e; omega), (hgr.block L (Array.getElem?_eq_some_iff.1 hs.2).1 (fun e => by have := hr L e.symm; omega)).trans hs.2⟩
  · rintro pre x Wb ⟨hi, hl⟩ hpx hlen
    have hno : ¬ own L := fun h => by have := (hown _ h).1; omega
    have ltb : L < Wb.heap.size := (Array.getElem?_eq_some_iff.1 hl).1
    refine ⟨fn, _, assign, body, run_yield hl (hps x), roundIn_of_wpIn hfn (hassign L pre x Wb _ (by omega) hi hpx ?_)⟩
    intro a' W hka hia hax
    replace hl := hka.same _ _ hno hl
    have lt : L < W.heap.size := (Array.getElem?_eq_some_iff.1 hl).1
    refine ⟨_, run_beginRound hl rfl, ?_⟩
    obtain ⟨X, hX⟩ : ∃ X, X = W.putObj L (R .busy none) := ⟨_, rfl⟩
    have lX : X.heap[L]? = some (R .busy none) := by rw [hX]; exact World.putObj_heap_same lt
    have iX : I pre X := by rw [hX]; exact hI.put _ hia (by omega)
    have aX : Ax x a' X := by rw [hX]; exact hAx x a' W L _ _ hax hl rfl
    have kX : Keeps (fun k => own k ∨ k = L) Wb X := by rw [hX]; exact (hka.mono fun _ h => .inl h).trans (Keeps.put _ W _ (.inr rfl))
    have zX : w.heap.size ≤ X.heap.size := by have := (Array.getElem?_eq_some_iff.1 lX).1; omega
    refine wpIn_mono (by rw [← hX]; exact hbody L pre x a' X (by omega) zX ⟨_, lX⟩ iX hpx aX hlen) ?_
    rintro e b Y hp
    cases e with
    | normal =>
      have lY := hp.1.same _ _ hno lX
      exact ⟨_, _, run_endRound none lY, .inl ⟨rfl, ⟨hI.put _ hp.2 (by omega), World.putObj_heap_same (Array.getElem?_eq_some_iff.1 lY).1⟩, (kX.trans (hp.1.mono fun _ h => .inl h)).trans (Keeps.put _ Y _ (.inr rfl))⟩⟩
    | ret =>
      have lY := hp.1.same _ _ hno lX
      exact ⟨_, _, run_endRound (some .ret) lY, .inr ⟨rfl, ⟨(hIx _).put _ hp.2 (by omega), World.putObj_heap_same (Array.getElem?_eq_some_iff.1 lY).1⟩, (kX.trans (hp.1.mono fun _ h => .inl h)).trans (Keeps.put _ Y _ (.inr rfl))⟩⟩
    | exit id => exact hp.elim
    | goto t => exact hp.elim
    | panic ch => exact hp.elim
    | outgrown => exact hp.elim
  · rintro e Y ⟨⟨v, rfl⟩, (⟨xs, hS, hi, hl⟩ | ⟨pre, hSp, hi, hl⟩)⟩
    · exact ⟨none, _, run_endLoop hl (by simp), hdone xs _ hS (hI.put _ hi (by omega))⟩
    · exact ⟨some .ret, _, run_endLoop hl (by simp), hstop .ret pre _ hSp ((hIx _).put _ hi (by omega))⟩

end Go.Proofs.Ythdemjfllfhhpaa
end

section
namespace Go.Proofs.Ythdemjfllfhhpaa
open Go.RowKit Go.Deep Go.Shelf

theorem sets_seqE (n : Nat) (hn : 2 ≤ n) (Bn Bk N k M : Nat) (hN : N ≤ 6) (hM : 2 ^ N = M) (w : World) (h1 : Bn < w.heap.size) (h2 : Bk < w.heap.size)
    (hBn : w.cell? ⟨Bn, 0, none⟩ = some (.int .i64 N)) (hBk : w.cell? ⟨Bk, 0, none⟩ = some (.int .i64 k)) :
    SeqE Fence.wide n Try.prog 140 #[.pointer (some ⟨Bn, 0, none⟩), .pointer (some ⟨Bk, 0, none⟩)] (fun x : Nat => #[Value.int .i64 (x : Int)]) (fun x _ => x < M ∧ popcS x = k) (fun q => q = Bn ∨ q = Bk) (fun ys => ys = setsTo k M) (fun _ => True) M w := by
  intro l J Jx own W hW hown hJ hJx hY hj
  refine CallsIn.mono (sets1_in n hn l Bn Bk N k M hN hM (Kp2 Bn Bk) (fun _ _ h => h)
    (fun pre W => J pre W ∧ W.cell? ⟨Bn, 0, none⟩ = some (.int .i64 N) ∧ W.cell? ⟨Bk, 0, none⟩ = some (.int .i64 k)) (fun pre W => Jx pre W) (fun s V hV => ?_) (fun pre x V hV hp hx hk => ?_) W
    ((hW.cell (p := ⟨Bn, 0, none⟩) h1).trans hBn) ((hW.cell (p := ⟨Bk, 0, none⟩) h2).trans hBk) ⟨hj, (hW.cell (p := ⟨Bn, 0, none⟩) h1).trans hBn, (hW.cell (p := ⟨Bk, 0, none⟩) h2).trans hBk⟩) ?_
  · exact ⟨hJ s V V.drew none hV.1 ⟨rfl, rfl, rfl, Nat.le_refl _, fun _ _ _ => rfl⟩ (fun r e => by cases e), hV.2.1, hV.2.2⟩
  · have hl : pre.length < M := by
      rw [hp]
      have := setsTo_len k x
      omega
    obtain ⟨hjv, c1, c2⟩ := hV
    obtain ⟨fn, tmps, assign, body, hy, hR⟩ := hY pre x V hjv ⟨hx, hk⟩ hl
    refine ⟨fn, tmps, assign, body, hy, hR.mono ?_⟩
    rintro e W' (⟨r1, r2, r3⟩ | ⟨r1, r2, _⟩)
    · have d1 := r3.cell (a := ⟨Bn, 0, none⟩) (fun h => (hown _ h).2 (.inl rfl)) c1
      have d2 := r3.cell (a := ⟨Bk, 0, none⟩) (fun h => (hown _ h).2 (.inr rfl)) c2
      exact .inl ⟨r1, ⟨r2, d1, d2⟩, d1.trans c1.symm, d2.trans c2.symm⟩
    · exact .inr ⟨r1, r2⟩
  · rintro e W' ⟨r1, (⟨zs, rfl, hj2⟩ | ⟨pre, _, hj2⟩)⟩
    · exact ⟨r1, .inl ⟨_, rfl, hj2.1⟩⟩
    · exact ⟨r1, .inr ⟨_, trivial, hj2⟩⟩

end Go.Proofs.Ythdemjfllfhhpaa
end

section
namespace Go.Proofs.Ythdemjfllfhhpaa
open Go.RowKit Go.Deep

theorem since_of_map {W w' : World} {o : Obj} (hg : (W.alloc o).grownBy w' (some W.heap.size)) : W.Since W.heap.size w' := by
  have h0 := (World.Since.refl W.heap.size W).alloc (Nat.le_refl _) o
  have h1 := hg.size
  simp only [World.size_alloc] at h1
  exact ⟨hg.os.trans h0.os, hg.tape.trans h0.tape, hg.output.trans h0.output, by omega, fun k hk => (hg.block k (by simp; omega) (by intro e; injection e with e; omega)).trans (h0.block k hk)⟩

set_option maxHeartbeats 400000 in
theorem anyValue_of (rb : Nat) (a : Option Addr) (n cap : Nat) (x : Int) (W : World) (hr : RoadsAt W rb) (ht : ∀ W', W.grownBy W' (some rb) → Calls Try.prog 125 #[.slice a n cap] W' (fun e w' => e = .returned (.int .i64 x) ∧ W'.Since W'.heap.size w')) :
    Calls Try.prog 82 #[.map (some rb), .slice a n cap] W (fun e w' => e = .returned (.int .i64 x) ∧ W.grownBy w' (some rb) ∧ RoadsAt w' rb) := by
  have E := Lib.hid (roads_2 rb a n cap x W hr ht)
  clear hr ht
  go_enter Try.func82, Try.ntmps82
  go_wp2_with fail
  refine (E.out).mono ?_
  rintro e w' ⟨rfl, hg, hr⟩
  go_wp2
  go_ret
  exact ⟨rfl, hg, hr⟩

set_option maxHeartbeats 800000 in
theorem square_0 (a : Option Addr) (cap n : Nat) (l : List (List Int)) (x : Int) (w : World) (hn : l.length = n) (hsz : szL l ≤ 1048576) (hm : MatR w a l) (ht : sqB l = true → ∀ W', MatR W' a l → Calls Try.prog 123 #[.slice a n cap] W' (fun e w' => e = .returned (.int .i64 x) ∧ W'.Since W'.heap.size w')) :
    Calls Try.prog 67 #[.slice a n cap, .int .i64 0] w (SpecW w (sqB l) x) := by
  have E := isSquare_any a cap n l w hn hsz hm
  cases hs : sqB l with
  | false =>
    rw [hs] at E
    replace E := Lib.hid E
    clear hs hm hn hsz ht
    go_enter Try.func67, Try.ntmps67
    go_wp2_with fail
    refine (E.out).mono ?_
    rintro e w1 ⟨rfl, hd⟩
    have HD := Lib.hid hd
    clear hd
    go_wp2
    go_ret2
    exact ⟨rfl, HD.out⟩
  | true =>
    rw [hs] at E
    replace E := Lib.hid E
    have E2 := Lib.hid (fun (W : World) (hd : w.Since w.heap.size W) => roads_0 W.heap.size a n cap x (W.alloc (.map #[] 0)) (roads_made W) (fun W' hg => ht hs W' (hm.since (hd.trans (since_mono (since_of_map hg) hd.size)))))
    clear hs hm hn hsz ht
    have hmm := @run_makeMap Try.prog
    go_enter Try.func67, Try.ntmps67
    go_wp2_with fail
    refine (E.out).mono ?_
    rintro e w1 ⟨rfl, hd⟩
    have HD := Lib.hid hd
    clear hd
    go_wp2_with fail
    refine (E2.out w1 HD.out).mono ?_
    rintro e w2 ⟨rfl, hg, hr⟩
    have HS2 := Lib.hid (HD.out.trans (since_mono (since_of_map hg) HD.out.size))
    clear hg hr
    go_wp2
    go_ret2
    exact ⟨rfl, HS2.out⟩

set_option maxHeartbeats 400000 in
theorem implValueOrders_of (a : Option Addr) (cap n : Nat) (l : List (List Int)) (x : Int) (w : World) (hn : l.length = n) (hsz : szL l ≤ 1048576) (hm : MatR w a l) (ht : sqB l = true → ∀ W', MatR W' a l → Calls Try.prog 123 #[.slice a n cap] W' (fun e w' => e = .returned (.int .i64 x) ∧ W'.Since W'.heap.size w')) :
    Calls Try.prog 20 #[.slice a n cap] w (SpecW w (sqB l) x) := by
  have E := square_0 a cap n l x w hn hsz hm ht
  unfold SpecW at E ⊢
  generalize (if (sqB l) = true then x else 0) = y at E ⊢
  generalize (sqB l) = b at E ⊢
  replace E := Lib.hid E
  clear hn hsz hm ht
  go_enter Try.func20, Try.ntmps20
  go_wp2_with fail
  refine (E.out).mono ?_
  rintro e w1 ⟨rfl, hd⟩
  go_wp2
  go_ret2
  exact ⟨rfl, hd⟩

set_option maxHeartbeats 800000 in
theorem square_1 (a : Option Addr) (cap n : Nat) (l : List (List Int)) (x : Int) (w : World) (hn : l.length = n) (hsz : szL l ≤ 1048576) (hm : MatR w a l) (ht : sqB l = true → ∀ W', MatR W' a l → Calls Try.prog 124 #[.slice a n cap] W' (fun e w' => e = .returned (.int .i64 x) ∧ W'.Since W'.heap.size w')) :
    Calls Try.prog 67 #[.slice a n cap, .int .i64 1] w (SpecW w (sqB l) x) := by
  have E := isSquare_any a cap n l w hn hsz hm
  cases hs : sqB l with
  | false =>
    rw [hs] at E
    replace E := Lib.hid E
    clear hs hm hn hsz ht
    go_enter Try.func67, Try.ntmps67
    go_wp2_with fail
    refine (E.out).mono ?_
    rintro e w1 ⟨rfl, hd⟩
    have HD := Lib.hid hd
    clear hd
    go_wp2
    go_ret2
    exact ⟨rfl, HD.out⟩
  | true =>
    rw [hs] at E
    replace E := Lib.hid E
    have E2 := Lib.hid (fun (W : World) (hd : w.Since w.heap.size W) => roads_1 W.heap.size a n cap x (W.alloc (.map #[] 0)) (roads_made W) (fun W' hg => ht hs W' (hm.since (hd.trans (since_mono (since_of_map hg) hd.size)))))
    clear hs hm hn hsz ht
    have hmm := @run_makeMap Try.prog
    go_enter Try.func67, Try.ntmps67
    go_wp2_with fail
    refine (E.out).mono ?_
    rintro e w1 ⟨rfl, hd⟩
    have HD := Lib.hid hd
    clear hd
    go_wp2_with fail
    refine (E2.out w1 HD.out).mono ?_
    rintro e w2 ⟨rfl, hg, hr⟩
    have HS2 := Lib.hid (HD.out.trans (since_mono (since_of_map hg) HD.out.size))
    clear hg hr
    go_wp2
    go_ret2
    exact ⟨rfl, HS2.out⟩

set_option maxHeartbeats 800000 in
theorem square_2 (a : Option Addr) (cap n : Nat) (l : List (List Int)) (x : Int) (w : World) (hn : l.length = n) (hsz : szL l ≤ 1048576) (hm : MatR w a l) (ht : sqB l = true → ∀ W', MatR W' a l → Calls Try.prog 125 #[.slice a n cap] W' (fun e w' => e = .returned (.int .i64 x) ∧ W'.Since W'.heap.size w')) :
    Calls Try.prog 67 #[.slice a n cap, .int .i64 2] w (SpecW w (sqB l) x) := by
  have E := isSquare_any a cap n l w hn hsz hm
  cases hs : sqB l with
  | false =>
    rw [hs] at E
    replace E := Lib.hid E
    clear hs hm hn hsz ht
    go_enter Try.func67, Try.ntmps67
    go_wp2_with fail
    refine (E.out).mono ?_
    rintro e w1 ⟨rfl, hd⟩
    have HD := Lib.hid hd
    clear hd
    go_wp2
    go_ret2
    exact ⟨rfl, HD.out⟩
  | true =>
    rw [hs] at E
    replace E := Lib.hid E
    have E2 := Lib.hid (fun (W : World) (hd : w.Since w.heap.size W) => roads_2 W.heap.size a n cap x (W.alloc (.map #[] 0)) (roads_made W) (fun W' hg => ht hs W' (hm.since (hd.trans (since_mono (since_of_map hg) hd.size)))))
    clear hs hm hn hsz ht
    have hmm := @run_makeMap Try.prog
    go_enter Try.func67, Try.ntmps67
    go_wp2_with fail
    refine (E.out).mono ?_
    rintro e w1 ⟨rfl, hd⟩
    have HD := Lib.hid hd
    clear hd
    go_wp2_with fail
    refine (E2.out w1 HD.out).mono ?_
    rintro e w2 ⟨rfl, hg, hr⟩
    have HS2 := Lib.hid (HD.out.trans (since_mono (since_of_map hg) HD.out.size))
    clear hg hr
    go_wp2
    go_ret2
    exact ⟨rfl, HS2.out⟩

set_option maxHeartbeats 800000 in
theorem square_3 (a : Option Addr) (cap n : Nat) (l : List (List Int)) (x : Int) (ok : Bool) (w : World) (hn : l.length = n) (hsz : szL l ≤ 1048576) (hm : MatR w a l) (ht : sqB l = true → ∀ W', MatR W' a l → Calls Try.prog 126 #[.slice a n cap] W' (fun e w' => e = .returned (.tuple #[.int .i64 (if ok then x else 0), .bool ok]) ∧ W'.Since W'.heap.size w')) :
    Calls Try.prog 67 #[.slice a n cap, .int .i64 3] w (SpecW w (sqB l && ok) x) := by
  have E := isSquare_any a cap n l w hn hsz hm
  cases hs : sqB l with
  | false =>
    rw [hs] at E
    replace E := Lib.hid E
    clear hs hm hn hsz ht
    go_enter Try.func67, Try.ntmps67
    go_wp2_with fail
    refine (E.out).mono ?_
    rintro e w1 ⟨rfl, hd⟩
    have HD := Lib.hid hd
    clear hd
    go_wp2
    go_ret2
    exact ⟨rfl, HD.out⟩
  | true =>
    rw [hs] at E
    replace E := Lib.hid E
    have E2 := Lib.hid (fun (W : World) (hd : w.Since w.heap.size W) => roads_3 W.heap.size a n cap (if ok then x else 0) ok (W.alloc (.map #[] 0)) (roads_made W) (fun W' hg => ht hs W' (hm.since (hd.trans (since_mono (since_of_map hg) hd.size)))))
    clear hs hm hn hsz ht
    generalize hy : (if ok = true then x else 0) = y at E2
    have hmm := @run_makeMap Try.prog
    go_enter Try.func67, Try.ntmps67
    go_wp2_with fail
    refine (E.out).mono ?_
    rintro e w1 ⟨rfl, hd⟩
    have HD := Lib.hid hd
    clear hd
    go_wp2_with fail
    refine (E2.out w1 HD.out).mono ?_
    rintro e w2 ⟨rfl, hg, hr⟩
    have HS2 := Lib.hid (HD.out.trans (since_mono (since_of_map hg) HD.out.size))
    clear hg hr
    go_wp2
    go_ret2
    exact ⟨by rw [← hy]; cases ok <;> rfl, HS2.out⟩

end Go.Proofs.Ythdemjfllfhhpaa
end

section
namespace Go.Proofs.Ythdemjfllfhhpaa
open Go.RowKit Go.Deep

theorem OwnT.but {lo hi rb : Nat} {w w' : World} {a : Option Addr} {l : List (List Int)} (h : OwnT lo hi w a l) (hb : rb < lo) (hg : w.grownBy w' (some rb)) : MatR w' a l := by
  intro h0
  obtain ⟨b, A, G, C, e, hbl, hr, _⟩ := h h0
  have hc : ∀ (x k : Nat) (v : Value), lo ≤ x → w.cell? ⟨x, k, none⟩ = some v → w'.cell? ⟨x, k, none⟩ = some v := fun x k v hx hv =>
    (World.cell?_of_block (a := ⟨x, k, none⟩) (hg.block x (World.block_lt_of_cell? _ _ hv) (by intro e; injection e with e; omega))).trans hv
  refine ⟨b, 0, A, C, e, fun r hrl => ?_⟩
  obtain ⟨c1, c2⟩ := hr r hrl
  rw [Nat.zero_add]
  refine ⟨hc _ _ _ hbl.1 c1, fun hp => ?_⟩
  obtain ⟨eA, hG, c3⟩ := c2 hp
  exact ⟨G r, 0, eA, fun i hi => by rw [Nat.zero_add]; exact hc _ _ _ hG.1 (c3 i hi).1⟩

theorem since_map (w : World) : w.Since w.heap.size (w.alloc (.map #[] 0)) := (World.Since.refl w.heap.size w).alloc (Nat.le_refl _) _

def mnP (l : List (List Int)) (x : Nat × Nat) : Int := dt (popcS x.1) (at2 (partL l x.1 x.2))

set_option maxRecDepth 100000 in
set_option maxHeartbeats 1000000 in
theorem minor_any (a : Option Addr) (cap n m r c : Nat) (l : List (List Int)) (w : World) (hn : l.length = n) (hmm : (l.getD 0 []).length = m) (hT : TabIn l) (hr : r < 2 ^ n) (hc : c < 2 ^ m) (hpc : popcS r = popcS c) (hm : MatR w a l) :
    Calls Try.prog 60 #[.slice a n cap, .int .i64 r, .int .i64 c] w fun e w' => e = .returned (.int .i64 (mnP l (r, c))) ∧ w.Since w.heap.size w' := by
  have h6 := hT.2.1
  have hw := hT.width
  rw [hn] at h6
  rw [hmm] at hw
  have hp6 : 2 ^ n ≤ 2 ^ 6 := Nat.pow_le_pow_right (by omega) h6
  have hp6' : 2 ^ m ≤ 2 ^ 6 := Nat.pow_le_pow_right (by omega) hw.2
  have hsq := part_sq hT (s := r) (c := c) (by rw [hn]; exact hr) (by rw [hmm]; exact hc) hpc
  have EP := part_any a cap n r c l (w.alloc (.map #[] 0)) hn hT (by omega) (by omega) (hm.since (since_map w))
  rw [hsq.1] at EP
  have EV := fun (a2 : Option Addr) (c2 : Nat) (V : World) (h : MatR V a2 (partL l r c)) => byPivots_any (popcS r) (partL l r c) a2 c2 V hsq (popcS_le r) h
  have hv : mnP l (r, c) = dt (popcS r) (at2 (partL l r c)) := rfl
  rw [hv]
  obtain ⟨L, hL⟩ : ∃ L, L = partL l r c := ⟨_, rfl⟩
  obtain ⟨k, hk⟩ : ∃ k, k = popcS r := ⟨_, rfl⟩
  simp only [← hk] at EP EV ⊢
  simp only [← hL] at EP EV ⊢
  obtain ⟨x, hx⟩ : ∃ x, x = dt k (at2 L) := ⟨_, rfl⟩
  simp only [← hx] at EV ⊢
  replace EP := Lib.hid EP
  replace EV := Lib.hid EV
  have hmk := @run_makeMap Try.prog
  clear hn hmm hT hr hc hpc hm h6 hw hp6 hp6' hsq hv hL hk hx
  go_enter Try.func60, Try.ntmps60
  go_wp2_with fail
  refine (EP.out).mono ?_
  rintro e w3 ⟨a3, c3, rfl, hs3, ho3⟩
  have HR := Lib.hid ((roads_made w).kept (grown_of_since (row := none) hs3) (by simp))
  have HS3 := Lib.hid ((since_map w).trans (since_mono hs3 (by simp)))
  have HA := Lib.hid (anyValue_of w.heap.size a3 k c3 x w3 HR.out (fun W' hg => EV.out a3 c3 W' (ho3.but (rb := w.heap.size) (by simp) hg)))
  have HSP := Lib.hid (fun (w4 : World) (hg : w3.grownBy w4 (some w.heap.size)) => (show w.Since w.heap.size w4 from ⟨hg.os.trans HS3.out.os, hg.tape.trans HS3.out.tape, hg.output.trans HS3.out.output, Nat.le_trans HS3.out.size hg.size, fun j hj => (hg.block j (Nat.lt_of_lt_of_le hj HS3.out.size) (by intro e; injection e with e; omega)).trans (HS3.out.block j hj)⟩))
  clear hs3 ho3
  go_wp2_with fail
  refine (HA.out).mono ?_
  rintro e w4 ⟨rfl, hg, hr⟩
  have HS4 := Lib.hid (HSP.out w4 hg)
  clear hg hr
  go_wp2
  go_ret
  exact ⟨rfl, HS4.out⟩

end Go.Proofs.Ythdemjfllfhhpaa
end

section
namespace Go.Proofs.Ythdemjfllfhhpaa
open Go.RowKit Go.Deep

def prow (k m : Nat) (r : Nat) : List (Nat × Nat) := (setsTo k (2 ^ m)).map fun c => (r, c)
def partsK (k n m : Nat) : List (Nat × Nat) := (setsTo k (2 ^ n)).flatMap (prow k m)
def partsTo (n m : Nat) : Nat → List (Nat × Nat)
  | 0 => []
  | j + 1 => partsTo n m j ++ partsK (j + 1) n m
def partsA (n m : Nat) : List (Nat × Nat) := partsTo n m (min n m)
theorem partsK_mem {k n m : Nat} {x : Nat × Nat} : x ∈ partsK k n m ↔ (x.1 < 2 ^ n ∧ popcS x.1 = k) ∧ (x.2 < 2 ^ m ∧ popcS x.2 = k) := by
  unfold partsK prow
  rw [List.mem_flatMap]
  constructor
  · rintro ⟨r, hr, hx⟩
    rw [List.mem_map] at hx
    obtain ⟨c, hc, rfl⟩ := hx
    exact ⟨(setsTo_mem k).1 hr, (setsTo_mem k).1 hc⟩
  · rintro ⟨h1, h2⟩
    exact ⟨x.1, (setsTo_mem k).2 h1, List.mem_map.2 ⟨x.2, (setsTo_mem k).2 h2, rfl⟩⟩
theorem partsTo_mem {n m : Nat} {x : Nat × Nat} : ∀ j, x ∈ partsTo n m j ↔ 1 ≤ popcS x.1 ∧ popcS x.1 ≤ j ∧ popcS x.1 = popcS x.2 ∧ x.1 < 2 ^ n ∧ x.2 < 2 ^ m
  | 0 => by
    show x ∈ [] ↔ _
    simp only [List.not_mem_nil, false_iff]
    omega
  | j + 1 => by
    show x ∈ partsTo n m j ++ partsK (j + 1) n m ↔ _
    rw [List.mem_append, partsTo_mem j, partsK_mem]
    omega
theorem popcP_fin : ∀ n : Fin 7, ∀ s : Fin 64, s.val < 2 ^ n.val → popcS s.val ≤ n.val := by decide +kernel
theorem popcP_pos_fin : ∀ s : Fin 64, s.val ≠ 0 → 1 ≤ popcS s.val := by decide +kernel
theorem popcP_le {n s : Nat} (h6 : n ≤ 6) (h : s < 2 ^ n) : popcS s ≤ n := by
  have p1 : 2 ^ n ≤ 2 ^ 6 := Nat.pow_le_pow_right (by omega) h6
  exact popcP_fin ⟨n, by omega⟩ ⟨s, by omega⟩ h
theorem popcP_pos {n s : Nat} (h6 : n ≤ 6) (h : s < 2 ^ n) (h0 : s ≠ 0) : 1 ≤ popcS s := by
  have p1 : 2 ^ n ≤ 2 ^ 6 := Nat.pow_le_pow_right (by omega) h6
  exact popcP_pos_fin ⟨s, by omega⟩ h0
theorem popcP_zero : popcS 0 = 0 := by decide
theorem partsA_mem {n m : Nat} (hn : n ≤ 6) (hm : m ≤ 6) {x : Nat × Nat} : x ∈ partsA n m ↔ x.1 ≠ 0 ∧ popcS x.1 = popcS x.2 ∧ x.1 < 2 ^ n ∧ x.2 < 2 ^ m := by
  unfold partsA
  rw [partsTo_mem]
  constructor
  · rintro ⟨h1, _, h2, h3, h4⟩
    exact ⟨fun e => by rw [e, popcP_zero] at h1; omega, h2, h3, h4⟩
  · rintro ⟨h1, h2, h3, h4⟩
    have := popcP_pos hn h3 h1
    have := popcP_le hn h3
    have := popcP_le hm h4
    exact ⟨by omega, by omega, h2, h3, h4⟩
def leastB (l : List (List Int)) (q : Int) (ps : List (Nat × Nat)) : Bool := ps.all fun x => decide (q ≤ mnP l x)
theorem leastB_snoc (l : List (List Int)) (q : Int) (ps : List (Nat × Nat)) (x : Nat × Nat) : leastB l q (ps ++ [x]) = (leastB l q ps && decide (q ≤ mnP l x)) := by
  unfold leastB; rw [List.all_append]; simp
theorem leastB_iff {l : List (List Int)} {q : Int} {ps : List (Nat × Nat)} : leastB l q ps = true ↔ ∀ x ∈ ps, q ≤ mnP l x := by
  unfold leastB; rw [List.all_eq_true]; simp
theorem leastB_no {l : List (List Int)} {q : Int} {ps : List (Nat × Nat)} {x : Nat × Nat} (hx : x ∈ ps) (h : mnP l x < q) : leastB l q ps = false := by
  cases e : leastB l q ps with
  | false => rfl
  | true => have := leastB_iff.1 e x hx; omega
def runS (f k : Nat) : Nat := (2 ^ k - 1) * 2 ^ f
theorem runS_fin : ∀ k f : Fin 7, k.val + f.val ≤ 6 → popcS (runS f.val k.val) = k.val ∧ runS f.val k.val < 2 ^ (k.val + f.val) ∧ (k.val ≠ 0 → runS f.val k.val ≠ 0) := by decide +kernel
def firstRow (m i : Nat) : List (Nat × Nat) := (List.range m).map fun k => (runS (i + 1 - (min i k + 1)) (min i k + 1), runS (k + 1 - (min i k + 1)) (min i k + 1))
def partsF (n m : Nat) : List (Nat × Nat) := (List.range n).flatMap (firstRow m)
theorem partsF_mem {n m : Nat} {x : Nat × Nat} : x ∈ partsF n m ↔ ∃ i k, i < n ∧ k < m ∧ x = (runS (i + 1 - (min i k + 1)) (min i k + 1), runS (k + 1 - (min i k + 1)) (min i k + 1)) := by
  unfold partsF firstRow
  rw [List.mem_flatMap]
  constructor
  · rintro ⟨i, hi, hx⟩
    rw [List.mem_map] at hx
    obtain ⟨k, hk, rfl⟩ := hx
    exact ⟨i, k, List.mem_range.1 hi, List.mem_range.1 hk, rfl⟩
  · rintro ⟨i, k, hi, hk, rfl⟩
    exact ⟨i, List.mem_range.2 hi, List.mem_map.2 ⟨k, List.mem_range.2 hk, rfl⟩⟩
theorem first_part {n m i k : Nat} (hn : n ≤ 6) (hm : m ≤ 6) (hi : i < n) (hk : k < m) : popcS (runS (i + 1 - (min i k + 1)) (min i k + 1)) = min i k + 1 ∧ popcS (runS (k + 1 - (min i k + 1)) (min i k + 1)) = min i k + 1 ∧ runS (i + 1 - (min i k + 1)) (min i k + 1) < 2 ^ n ∧ runS (k + 1 - (min i k + 1)) (min i k + 1) < 2 ^ m ∧ runS (i + 1 - (min i k + 1)) (min i k + 1) ≠ 0 := by
  have h1 := runS_fin ⟨min i k + 1, by omega⟩ ⟨i + 1 - (min i k + 1), by omega⟩ (by simp only; omega)
  have h2 := runS_fin ⟨min i k + 1, by omega⟩ ⟨k + 1 - (min i k + 1), by omega⟩ (by simp only; omega)
  simp only at h1 h2
  have e1 : min i k + 1 + (i + 1 - (min i k + 1)) = i + 1 := by omega
  have e2 : min i k + 1 + (k + 1 - (min i k + 1)) = k + 1 := by omega
  rw [e1] at h1
  rw [e2] at h2
  have p1 : 2 ^ (i + 1) ≤ 2 ^ n := Nat.pow_le_pow_right (by omega) (by omega)
  have p2 : 2 ^ (k + 1) ≤ 2 ^ m := Nat.pow_le_pow_right (by omega) (by omega)
  exact ⟨h1.1, h2.1, by omega, by omega, h1.2.2 (by omega)⟩
theorem partsF_ok {n m : Nat} (hn : n ≤ 6) (hm : m ≤ 6) {x : Nat × Nat} (hx : x ∈ partsF n m) : popcS x.1 = popcS x.2 ∧ x.1 < 2 ^ n ∧ x.2 < 2 ^ m ∧ x.1 ≠ 0 := by
  obtain ⟨i, k, hi, hk, rfl⟩ := partsF_mem.1 hx
  obtain ⟨h1, h2, h3, h4, h5⟩ := first_part hn hm hi hk
  exact ⟨h1.trans h2.symm, h3, h4, h5⟩
theorem partsF_len (n m : Nat) : (partsF n m).length = n * m := by
  unfold partsF firstRow
  rw [List.length_flatMap]
  simp only [List.length_map, List.length_range]
  induction n with
  | zero => simp
  | succ n ih => rw [List.range_succ, List.map_append, List.sum_append, ih, Nat.succ_mul]; simp
theorem prow_len (k m r : Nat) : (prow k m r).length ≤ 2 ^ m := by unfold prow; rw [List.length_map]; exact setsTo_len k _

end Go.Proofs.Ythdemjfllfhhpaa
end

section
namespace Go.Proofs.Ythdemjfllfhhpaa
open Go.RowKit Go.Deep Go.Shelf
attribute [local go_sem] Oper.semAt_some

theorem room_any (k : Nat) : Fence.wide.room k := fun d h => by cases h
theorem yieldAt_any {m m' : Nat} {P : Program} {l : Nat} {args : Array Value} {W : World} {R : Ending → World → Prop} (h : YieldAt Fence.wide m P l args W R) : YieldAt Fence.wide m' P l args W R := by
  obtain ⟨fn, tmps, assign, body, hy, hR⟩ := h
  exact ⟨fn, tmps, assign, body, hy, hR.1, fun c cs _ => hR.2 c cs (room_any _)⟩

theorem step_append_fitsG {P : Program} (w : World) {ops : Array Oper} {o : Oper} {a : Act} {K : Act → World → Prop} {Q : Exit → Act → World → Prop} {E : Prop} (hw : Region.wanted o (yielded ops a.tmps) = true) (s x : Operand) (t : TypeId)
    (hop : o.op = Op.call { callee := Callee.builtin Builtin.append, args := #[s, x], argTypes := #[t, t] })
    (base : Nat) (e : TypeId) (i : TypeInfo) (size : Nat) (h1 : P.underlying t = some (.slice e)) (h2 : P.info? e = some i) (h4 : i.size = size)
    (g k cap : Nat) (xs : List Value) (hs : a.eval s = .slice (some ⟨g, 0, none⟩) k cap) (hown : w.ownsRow base e size (.slice (some ⟨g, 0, none⟩) k cap) k xs) (ad : Addr) (m c : Nat) (news : List Value) (hx : a.eval x = .slice (some ad) m c) (hn : news.length = m * size)
    (hc : ∀ j u, news[j]? = some u → w.cell? (ad.add j) = some u) (h1c : ∀ u ∈ news, u.oneCell' = true) (b1 : k + m ≤ cap)
    (hK : ∀ w', w'.ownsRow base e size (.slice (some ⟨g, 0, none⟩) (k + m) cap) (k + m) (xs ++ news) → w.grownBy w' (some g) → K (a.put o.dst (.slice (some ⟨g, 0, none⟩) (k + m) cap)) w') :
    if Region.wanted o (yielded ops a.tmps) = true then Oper.wp P o a w K Q else E := by
  rw [if_pos hw]
  obtain ⟨w', hrun, r1, r2⟩ := run_append_fits (P := P) w base t o.type e i size h1 h2 h4 g k cap xs hown ad m c news hn hc h1c b1
  unfold Oper.wp
  simp [execOp, hop, resolve, invoke, builtin, hs, hx, hrun, Result.andThen]
  exact hK w' r1 r2

theorem grown_drewC (w : World) (n : Nat) : w.grownBy (w.drewN n) none := ⟨rfl, rfl, rfl, Nat.le_refl _, fun _ _ _ => rfl⟩
theorem undrew {a b : World} {row : Option Nat} (h : a.drew.grownBy b row) : a.grownBy b row := ⟨h.os, h.tape, h.output, h.size, h.block⟩

theorem map_snd {α : Type} (g : Nat) (L : List α) : (([] : List (Nat × α)) ++ L.map (Prod.mk g)).map (fun x => x.2) = L := by
  rw [List.nil_append]
  induction L with
  | nil => rfl
  | cons x L ih => rw [List.map_cons, List.map_cons, ih]

theorem since_rowC {w X Y : World} {row : Option Nat} (h : w.Since w.heap.size X) (hg : X.grownBy Y row) (hr : ∀ r, row = some r → w.heap.size ≤ r) : w.Since w.heap.size Y :=
  ⟨hg.os.trans h.os, hg.tape.trans h.tape, hg.output.trans h.output, Nat.le_trans h.size hg.size, fun k hk => (hg.block k (by have := h.size; omega) (fun e => by have := hr k e.symm; omega)).trans (h.block k hk)⟩

end Go.Proofs.Ythdemjfllfhhpaa
end

section
namespace Go.Proofs.Ythdemjfllfhhpaa
open Go.RowKit Go.Deep Go.Shelf
attribute [local go_sem] Oper.semAt_some

def OldT (n₀ : Nat) (w0 W : World) : Prop := ∀ k, k < n₀ → W.heap[k]? = w0.heap[k]?
theorem OldT.cell {n₀ : Nat} {w0 W : World} (h : OldT n₀ w0 W) {a : Addr} (ha : a.block < n₀) : W.cell? a = w0.cell? a := World.cell?_of_block (h _ ha)
theorem OldT.grown {n₀ : Nat} {w0 X Y : World} {row : Option Nat} (h : OldT n₀ w0 X) (hz : n₀ ≤ X.heap.size) (hg : X.grownBy Y row) (hr : ∀ r, row = some r → n₀ ≤ r) : OldT n₀ w0 Y :=
  fun k hk => (hg.block k (by omega) (fun e => by have := hr k e.symm; omega)).trans (h k hk)
theorem OldT.keeps {n₀ : Nat} {w0 X Y : World} {own : Nat → Prop} (h : OldT n₀ w0 X) (hz : n₀ ≤ X.heap.size) (hk : Keeps own X Y) (ho : ∀ k, own k → n₀ ≤ k) : OldT n₀ w0 Y := fun k hlt => by
  have hx : k < X.heap.size := by omega
  have e := hk.same k X.heap[k] (fun o => by have := ho k o; omega) (Array.getElem?_eq_getElem hx)
  rw [e, ← h k hlt]
  exact (Array.getElem?_eq_getElem hx).symm
theorem MatR.oldT {w0 W : World} {a : Option Addr} {l : List (List Int)} (h : MatR w0 a l) (ho : OldT w0.heap.size w0 W) : MatR W a l := by
  intro h0
  obtain ⟨b, o, A, C, e, hc⟩ := h h0
  refine ⟨b, o, A, C, e, fun r hr => ?_⟩
  obtain ⟨c1, c2⟩ := hc r hr
  refine ⟨(ho.cell (World.block_lt_of_cell? _ _ c1)).trans c1, fun hp => ?_⟩
  obtain ⟨b', o', e', c3⟩ := c2 hp
  exact ⟨b', o', e', fun i hi => (ho.cell (World.block_lt_of_cell? _ _ (c3 i hi))).trans (c3 i hi)⟩
theorem Keeps.fromB {own : Nat → Prop} {A X Y : World} {row : Option Nat} (h : Keeps own A X) (hg : X.grownBy Y row) (hr : ∀ r, row = some r → A.heap.size ≤ r) : Keeps own A Y :=
  ⟨Nat.le_trans h.size hg.size, fun k o hk ho => (hg.block k (Array.getElem?_eq_some_iff.1 (h.same k o hk ho)).1 (fun e => by have := hr k e.symm; have := (Array.getElem?_eq_some_iff.1 ho).1; omega)).trans (h.same k o hk ho)⟩
theorem boxed_put {W : World} {B l : Nat} {t : TypeId} {v : Value} {o o' : Obj} (h : Boxed W B t v) (hl : W.heap[l]? = some o) (ho : o.isCells = false) : Boxed (W.putObj l o') B t v :=
  h.kept (grownBy_putObj' W l o') (fun e => by
    have e' : B = l := by injection e
    subst e'
    have h' : W.heap[B]? = _ := h
    rw [h'] at hl
    cases hl
    cases ho)

structure KB (n₀ : Nat) (w0 : World) (Bt Bk By lp : Nat) (a : Option Addr) (n cap : Nat) (k : Nat) (X : World) : Prop where
  bt : X.cell? ⟨Bt, 0, none⟩ = some (.slice a n cap)
  bk : X.cell? ⟨Bk, 0, none⟩ = some (.int .i64 (k : Int))
  yb : X.cell? ⟨By, 0, none⟩ = some (.func (.yield lp) #[] #[])
  old : OldT n₀ w0 X
theorem cell_own {X Y : World} {row : Option Nat} {b B : Nat} {v : Value} (h : X.cell? ⟨b, 0, none⟩ = some v) (hb : b < B) (hg : X.grownBy Y row) (hr : ∀ r, row = some r → B ≤ r) : Y.cell? ⟨b, 0, none⟩ = some v :=
  (World.cell?_of_block (a := ⟨b, 0, none⟩) (hg.block b (World.block_lt_of_cell? _ _ h) (fun e => by have := hr b e.symm; omega))).trans h
theorem KB.grown {n₀ : Nat} {w0 : World} {Bt Bk By lp : Nat} {a : Option Addr} {n cap k : Nat} {X Y : World} {row : Option Nat} {B : Nat} (h : KB n₀ w0 Bt Bk By lp a n cap k X) (hz : n₀ ≤ X.heap.size) (h1 : n₀ ≤ B ∧ Bt < B ∧ Bk < B ∧ By < B) (hg : X.grownBy Y row) (hr : ∀ r, row = some r → B ≤ r) : KB n₀ w0 Bt Bk By lp a n cap k Y :=
  ⟨cell_own h.bt h1.2.1 hg hr, cell_own h.bk h1.2.2.1 hg hr, cell_own h.yb h1.2.2.2 hg hr, h.old.grown hz hg (fun r e => by have := hr r e; omega)⟩
theorem KB.keeps {n₀ : Nat} {w0 : World} {Bt Bk By lp : Nat} {a : Option Addr} {n cap k : Nat} {X Y : World} {own : Nat → Prop} (h : KB n₀ w0 Bt Bk By lp a n cap k X) (hz : n₀ ≤ X.heap.size) (hk : Keeps own X Y) (ho : ∀ q, own q → n₀ ≤ q ∧ q ≠ Bt ∧ q ≠ Bk ∧ q ≠ By) : KB n₀ w0 Bt Bk By lp a n cap k Y :=
  ⟨hk.cell (a := ⟨Bt, 0, none⟩) (fun e => (ho _ e).2.1 rfl) h.bt, hk.cell (a := ⟨Bk, 0, none⟩) (fun e => (ho _ e).2.2.1 rfl) h.bk, hk.cell (a := ⟨By, 0, none⟩) (fun e => (ho _ e).2.2.2 rfl) h.yb, h.old.keeps hz hk (fun q e => (ho q e).1)⟩

theorem grown_drewP {a b : World} {row : Option Nat} (h : a.grownBy b row) : a.grownBy b.drew row := ⟨h.os, h.tape, h.output, h.size, h.block⟩
def encP (x : Nat × Nat) : Array Value := #[.int .i64 (x.1 : Int), .int .i64 (x.2 : Int)]

theorem kthParts_in (f : Nat) (a : Option Addr) (n cap : Nat) (k : Int) (w : World) :
    CallsIn Fence.wide f Try.prog 119 #[.slice a n cap, .int .i64 k] w fun e w' => e = .returned (.func (.func 129) #[] #[.pointer (some ⟨w.heap.size, 0, none⟩), .pointer (some ⟨w.heap.size + 1, 0, none⟩)]) ∧ w' = (w.alloc (.cells #[.slice a n cap] 48)).alloc (.cells #[.int .i64 k] 3) := by
  refine callsIn_of_wp Try.func119 rfl trivial ?_ rfl
  simp only [Try.ntmps119, List.size_toArray, List.length_cons, List.length_nil, Nat.reduceAdd, Nat.reduceSub, Array.replicate_succ, Array.replicate_zero, List.push_toArray, List.append_toArray, List.nil_append, List.cons_append]
  gi_wp2
  go_ret
  exact ⟨rfl, by simp⟩

theorem flat_len (k m : Nat) (hm : m ≤ 6) : ∀ rs : List Nat, (rs.flatMap (prow k m)).length ≤ rs.length * 64
  | [] => by simp
  | r :: rs => by
    have h1 := flat_len k m hm rs
    have h2 := prow_len k m r
    have p : 2 ^ m ≤ 2 ^ 6 := Nat.pow_le_pow_right (by omega) hm
    rw [List.flatMap_cons, List.length_append, List.length_cons, Nat.succ_mul]
    omega
theorem flat_snoc (k m : Nat) (rs : List Nat) (r : Nat) : (rs ++ [r]).flatMap (prow k m) = rs.flatMap (prow k m) ++ prow k m r := by simp

set_option maxRecDepth 100000 in
set_option maxHeartbeats 2000000 in
theorem kth_seqE (f : Nat) (hf : 12 ≤ f) (Bt Bk n m cap k : Nat) (a : Option Addr) (l : List (List Int)) (w0 w : World) (hn : l.length = n) (hT : TabIn l) (hmm : (l.getD 0 []).length = m) (hm : MatR w0 a l) (hold : OldT w0.heap.size w0 w) (_hz0 : w0.heap.size ≤ w.heap.size) (hBt : w0.heap.size ≤ Bt) (hBk : w0.heap.size ≤ Bk) (ct : w.cell? ⟨Bt, 0, none⟩ = some (.slice a n cap)) (ck : w.cell? ⟨Bk, 0, none⟩ = some (.int .i64 (k : Int))) :
    SeqE Fence.wide f Try.prog 129 #[.pointer (some ⟨Bt, 0, none⟩), .pointer (some ⟨Bk, 0, none⟩)] encP (fun x _ => x ∈ partsK k n m) (fun q => q < w0.heap.size ∨ q = Bt ∨ q = Bk) (fun ys => ys = partsK k n m) (fun _ => True) 4096 w := by
  intro lp J Jx own W hW hown hJ hJx hY hj
  have h6 := hT.2.1
  have h1 := hT.1
  have hw := hT.width
  rw [hn] at h6 h1
  rw [hmm] at hw
  have lt := World.block_lt_of_cell? _ _ ct
  have lk := World.block_lt_of_cell? _ _ ck
  simp only at lt lk
  have c1 := (hW.cell (p := ⟨Bt, 0, none⟩) lt).trans ct
  have c2 := (hW.cell (p := ⟨Bk, 0, none⟩) lk).trans ck
  have hWz := hW.size
  have hOW : OldT w0.heap.size w0 W := fun q hq => (hW.block q (by omega)).trans (hold q hq)
  have hso : ∀ q, own q → w0.heap.size ≤ q ∧ q ≠ Bt ∧ q ≠ Bk ∧ q < W.heap.size := fun q hq => by
    obtain ⟨g1, g2⟩ := hown q hq
    exact ⟨by
      by_cases e : q < w0.heap.size
      · exact absurd (.inl e) g2
      · omega, fun e => g2 (.inr (.inl e)), fun e => g2 (.inr (.inr e)), g1⟩
  have EW := fun (V : World) (h : OldT w0.heap.size w0 V) => width_any a cap n l V hn (by omega) (by omega) (hm.oldT h)
  rw [hmm] at EW
  replace EW := Lib.hid EW
  have p6 : 2 ^ n ≤ 2 ^ 6 := Nat.pow_le_pow_right (by omega) h6
  have p6' : 2 ^ m ≤ 2 ^ 6 := Nat.pow_le_pow_right (by omega) hw.2
  clear hold ct ck hm hmm hT
  refine callsIn_of_wp_marks Try.func129 rfl trivial ?_ rfl
  simp only [Try.ntmps129, List.size_toArray, List.length_cons, List.length_nil, Nat.reduceAdd, Nat.reduceSub, Array.replicate_succ, Array.replicate_zero, List.push_toArray, List.append_toArray, List.nil_append, List.cons_append]
  have c1 : (W.alloc (.cells #[.func (.yield lp) #[] #[]] 51)).cell? ⟨Bt, 0, none⟩ = _ := cell_alloc_l _ c1
  have c2 : (W.alloc (.cells #[.func (.yield lp) #[] #[]] 51)).cell? ⟨Bk, 0, none⟩ = _ := cell_alloc_l _ c2
  have y0 : (W.alloc (.cells #[.func (.yield lp) #[] #[]] 51)).cell? ⟨W.heap.size, 0, none⟩ = _ := (cell_new_l W _ _).1
  gi_wp2_with (refine ⟨trivial, fun _ => by omega, ?_⟩; gi_at_call 130; refine (sets_in _ _ _ _).mono ?_; rintro e w' ⟨rfl, rfl⟩)
  have hbn := (cell_new_l (W.alloc (.cells #[.func (.yield lp) #[] #[]] 51)) (.int .i64 n) 3).1
  have c3 := cell_alloc_l (.cells #[.int .i64 (k : Int)] 3) (cell_alloc_l (.cells #[.int .i64 (n : Int)] 3) c1)
  have c4 := cell_alloc_l (.cells #[.int .i64 (k : Int)] 3) (cell_alloc_l (.cells #[.int .i64 (n : Int)] 3) c2)
  have y3 := cell_alloc_l (.cells #[.int .i64 (k : Int)] 3) (cell_alloc_l (.cells #[.int .i64 (n : Int)] 3) y0)
  have hbn := cell_alloc_l (.cells #[.int .i64 (k : Int)] 3) hbn
  have hbk := (cell_new_l ((W.alloc (.cells #[.func (.yield lp) #[] #[]] 51)).alloc (.cells #[.int .i64 (n : Int)] 3)) (.int .i64 (k : Int)) 3).1
  have hg2 := ((World.grownBy_alloc W (.cells #[.func (.yield lp) #[] #[]] 51) none).trans (World.grownBy_alloc _ (.cells #[.int .i64 (n : Int)] 3) none)).trans (World.grownBy_alloc _ (.cells #[.int .i64 (k : Int)] 3) none)
  have hjV := hJ.alloc (.cells #[.int .i64 (k : Int)] 3) (hJ.alloc (.cells #[.int .i64 (n : Int)] 3) (hJ.alloc (.cells #[.func (.yield lp) #[] #[]] 51) hj))
  have zV : (((W.alloc (.cells #[.func (.yield lp) #[] #[]] 51)).alloc (.cells #[.int .i64 (n : Int)] 3)).alloc (.cells #[.int .i64 (k : Int)] 3)).heap.size = W.heap.size + 3 := by simp
  simp only [World.size_alloc] at hbn hbk
  obtain ⟨V, hV⟩ : ∃ V, ((W.alloc (.cells #[.func (.yield lp) #[] #[]] 51)).alloc (.cells #[.int .i64 (n : Int)] 3)).alloc (.cells #[.int .i64 (k : Int)] 3) = V := ⟨_, rfl⟩
  rw [hV] at hbn hbk c3 c4 y3 hg2 hjV zV ⊢
  clear hV c1 c2 y0
  have hKV : KB w0.heap.size w0 Bt Bk W.heap.size lp a n cap k V := ⟨c3, c4, y3, hOW.grown (by omega) hg2 (fun r e => by cases e)⟩
  have hB : ∀ X : World, V.heap.size ≤ X.heap.size → w0.heap.size ≤ X.heap.size := fun X h => by omega
  have hBB : w0.heap.size ≤ V.heap.size ∧ Bt < V.heap.size ∧ Bk < V.heap.size ∧ W.heap.size < V.heap.size := by omega
  have hso4 : ∀ q, own q → w0.heap.size ≤ q ∧ q ≠ Bt ∧ q ≠ Bk ∧ q ≠ W.heap.size := fun q hq => by have := hso q hq; omega
  refine rangeF (F := Fence.wide) (n := f) rfl (by omega) (gf := 140) (lb := #[.pointer (some ⟨W.heap.size + 1, 0, none⟩), .pointer (some ⟨W.heap.size + 1 + 1, 0, none⟩)]) rfl trivial (enters_of Try.func140 (by kernel_rfl) rfl)
    (sets_seqE (f - 1) (by omega) (W.heap.size + 1) (W.heap.size + 1 + 1) n k (2 ^ n) h6 rfl V (by omega) (by omega) hbn hbk) (fun _ => rfl) own (fun q hq => ⟨by have := hso q hq; omega, by have := hso q hq; omega⟩) (by rintro q (rfl | rfl) <;> omega)
    (fun (rs : List Nat) X => J (rs.flatMap (prow k m)) X ∧ KB w0.heap.size w0 Bt Bk W.heap.size lp a n cap k X ∧ V.heap.size ≤ X.heap.size)
    (fun c _ X => c = .ret ∧ ∃ q, Jx q X)
    (fun rs X Y row hs hg hr => ⟨hJ _ X Y row hs.1 hg (fun r e => by have := hr r e; omega), hs.2.1.grown (hB _ hs.2.2) hBB hg hr, Nat.le_trans hs.2.2 hg.size⟩)
    (fun c rs X Y row hs hg hr => ⟨hs.1, by
      obtain ⟨q, hq⟩ := hs.2
      exact ⟨q, hJx _ X Y row hq hg (fun r e => by have := hr r e; omega)⟩⟩)
    ⟨hjV, hKV, Nat.le_refl _⟩
    (fun x a' X => ∃ Bx, V.heap.size ≤ Bx ∧ Boxed X Bx 3 (.int .i64 (x : Int)) ∧ a' = { tmps := #[.func (.yield lp) #[] #[], .pointer (some ⟨Bt, 0, none⟩), .pointer (some ⟨Bk, 0, none⟩), .pointer (some ⟨W.heap.size, 0, none⟩), .pointer (some ⟨Bx, 0, none⟩), undef, .slice a n cap, .int .i64 n, .int .i64 k, .func (.func 140) #[] #[.pointer (some ⟨W.heap.size + 1, 0, none⟩), .pointer (some ⟨W.heap.size + 1 + 1, 0, none⟩)], .int .i64 (x : Int), undef, undef, undef, undef, undef, undef, undef, undef, undef, undef], defers := [] })
    (fun x a' X lq o o' hA hl ho => by obtain ⟨Bx, e1, e2, e3⟩ := hA; exact ⟨Bx, e1, boxed_put e2 hl ho, e3⟩)
    ?assign ?body ?done ?stop
  case assign =>
    rintro lq rs x X K hzX hi _ hK
    gi_wp2
    exact hK _ _ (Keeps.grown (World.grownBy_alloc _ _ none) (fun r e => by cases e)) ⟨hJ.alloc _ hi.1, hi.2.1.grown (hB _ hi.2.2) hBB (World.grownBy_alloc _ _ none) (fun r e => by cases e), by rw [World.size_alloc]; have := hi.2.2; omega⟩ ⟨X.heap.size, hi.2.2, Boxed.new X 3 _, rfl⟩
  case body =>
    rintro lq rs x a' X hlq hzX ⟨r, hr⟩ ⟨hjx, hKX, _⟩ ⟨hxl, hxk⟩ ⟨Bx, hBx, bX, rfl⟩ hlen
    have hmix : Try.prog.follows .mixedOrders = true := by kernel_rfl
    have cT : X.drew.cell? ⟨Bt, 0, none⟩ = _ := hKX.bt
    have cK : X.drew.cell? ⟨Bk, 0, none⟩ = _ := hKX.bk
    have hbx := bX.lt
    have HKX := Lib.hid hKX
    gi_wp2
    gi_region_with_o (first
      | (refine ⟨trivial, fun _ => by omega, ?_⟩; gi_at_call 58; refine (CallsIn.inRound lq (callsIn_wide.2 (EW.out X.drew HKX.out.old))).mono ?_; rintro e w' ⟨rfl, rfl⟩)
      | (refine ⟨trivial, fun _ => by omega, ?_⟩; gi_at_call 130; refine (CallsIn.inRound lq (sets_in _ _ _ _)).mono ?_; rintro e w' ⟨rfl, rfl⟩))
    all_goals
      gi_wp2
      have hgV : X.grownBy ((X.alloc (.cells #[.int .i64 (m : Int)] 3)).alloc (.cells #[.int .i64 (k : Int)] 3)).drew none := grown_drewP ((World.grownBy_alloc X (.cells #[.int .i64 (m : Int)] 3) none).trans (World.grownBy_alloc _ (.cells #[.int .i64 (k : Int)] 3) none))
      have bN2 : ((X.alloc (.cells #[.int .i64 (m : Int)] 3)).alloc (.cells #[.int .i64 (k : Int)] 3)).drew.cell? ⟨X.heap.size, 0, none⟩ = some (.int .i64 (m : Int)) := cell_alloc_l (.cells #[.int .i64 (k : Int)] 3) (cell_new_l X (.int .i64 (m : Int)) 3).1
      have bK2 : ((X.alloc (.cells #[.int .i64 (m : Int)] 3)).alloc (.cells #[.int .i64 (k : Int)] 3)).drew.cell? ⟨X.heap.size + 1, 0, none⟩ = some (.int .i64 (k : Int)) := by
        have := (cell_new_l (X.alloc (.cells #[.int .i64 (m : Int)] 3)) (.int .i64 (k : Int)) 3).1
        rw [World.size_alloc] at this
        exact this
      have zX : ((X.alloc (.cells #[.int .i64 (m : Int)] 3)).alloc (.cells #[.int .i64 (k : Int)] 3)).drew.heap.size = X.heap.size + 2 := by
        show ((X.alloc (.cells #[.int .i64 (m : Int)] 3)).alloc (.cells #[.int .i64 (k : Int)] 3)).heap.size = _
        simp
      obtain ⟨U, hU⟩ : ∃ U, ((X.alloc (.cells #[.int .i64 (m : Int)] 3)).alloc (.cells #[.int .i64 (k : Int)] 3)).drew = U := ⟨_, rfl⟩
      rw [hU] at bN2 bK2 hgV zX ⊢
      clear hU cT cK
      have hrU : U.heap[lq]? = some (.loop r) := (hgV.block lq (Array.getElem?_eq_some_iff.1 hr).1 (by simp)).trans hr
      have hKU := hKX.grown (hB _ hzX) hBB hgV (fun r e => by cases e)
      have hBU : w0.heap.size ≤ U.heap.size ∧ Bt < U.heap.size ∧ Bk < U.heap.size ∧ W.heap.size < U.heap.size := by omega
      have hfl := flat_len k m hw.2 rs
      refine rangeN (F := Fence.wide.inRound lq) (n := f - 1 - 1) (l₀ := lq) (r₀ := r) rfl hrU (by omega) (gf := 140) (lb := #[.pointer (some ⟨X.heap.size, 0, none⟩), .pointer (some ⟨X.heap.size + 1, 0, none⟩)]) rfl trivial (enters_of Try.func140 (by kernel_rfl) rfl)
        (SeqE.inRound lq (sets_seqE (f - 1 - 1 - 1) (by omega) X.heap.size (X.heap.size + 1) m k (2 ^ m) hw.2 rfl U (by omega) (by omega) bN2 bK2)) (fun _ => rfl) own (fun q hq => ⟨by have := hso q hq; omega, by have := hso q hq; omega⟩) (by rintro q (rfl | rfl) <;> omega)
        (fun (cs : List Nat) Y => (J (rs.flatMap (prow k m) ++ cs.map (fun c => (x, c))) Y ∧ KB w0.heap.size w0 Bt Bk W.heap.size lp a n cap k Y ∧ Boxed Y Bx 3 (.int .i64 (x : Int))) ∧ Keeps own X Y ∧ U.heap.size ≤ Y.heap.size)
        (fun c _ Y => c = .ret ∧ (∃ q, Jx q Y) ∧ Keeps own X Y)
        (fun cs Y Z row hs hg hr => ⟨⟨hJ _ Y Z row hs.1.1 hg (fun r e => by have := hr r e; omega), hs.1.2.1.grown (by have := hs.2.2; omega) hBU hg hr, hs.1.2.2.kept hg (fun e => by have := hr _ e.symm; omega)⟩, hs.2.1.fromB hg (fun r e => by have := hr r e; omega), Nat.le_trans hs.2.2 hg.size⟩)
        (fun c cs Y Z row hs hg hr => ⟨hs.1, by
          obtain ⟨q, hq⟩ := hs.2.1
          exact ⟨q, hJx _ Y Z row hq hg (fun r e => by have := hr r e; omega)⟩, hs.2.2.fromB hg (fun r e => by have := hr r e; omega)⟩)
        ⟨⟨by rw [List.map_nil, List.append_nil]; exact hJ _ X U none hjx hgV (fun r e => by cases e), hKU, bX.kept hgV (by simp)⟩, Keeps.grown hgV (fun r e => by cases e), Nat.le_refl _⟩
        (fun y a'' _ => a'' = { tmps := #[.func (.yield lp) #[] #[], .pointer (some ⟨Bt, 0, none⟩), .pointer (some ⟨Bk, 0, none⟩), .pointer (some ⟨W.heap.size, 0, none⟩), .pointer (some ⟨Bx, 0, none⟩), .int .i64 (y : Int), .slice a n cap, .int .i64 n, .int .i64 k, .func (.func 140) #[] #[.pointer (some ⟨W.heap.size + 1, 0, none⟩), .pointer (some ⟨W.heap.size + 1 + 1, 0, none⟩)], .int .i64 (x : Int), .slice a n cap, .int .i64 m, .int .i64 k, .func (.func 140) #[] #[.pointer (some ⟨X.heap.size, 0, none⟩), .pointer (some ⟨X.heap.size + 1, 0, none⟩)], .int .i64 (y : Int), undef, undef, undef, undef, undef], defers := [] })
        (fun _ _ _ _ _ _ hA _ _ => hA)
        ?assign2 ?body2 ?done2 ?stop2
      case assign2 =>
        rintro l3 cs y Y K _ hi _ hK
        gi_wp2
        exact hK _ _ (Keeps.refl _ _) hi rfl
      case body2 =>
        rintro l3 cs y a'' Y hl3 hzY _ ⟨⟨hjy, hKY, bY⟩, hkY, _⟩ ⟨hyl, hyk⟩ rfl hlen2
        have cX := bY.cell
        have cY := hKY.yb
        have hl4 : (rs.flatMap (prow k m) ++ cs.map (fun c => (x, c))).length < 4096 := by
          rw [List.length_append, List.length_map]
          have : rs.length * 64 ≤ 63 * 64 := Nat.mul_le_mul_right 64 (by omega)
          omega
        obtain ⟨fn, tmps, assign, body, hy, hR⟩ := yieldAt_any (m' := f - 1 - 1 - 1 - 1 - 1) (hY _ (x, y) Y hjy (partsK_mem.2 ⟨⟨hxl, hxk⟩, hyl, hyk⟩) hl4)
        dsimp only [encP] at hy
        have HKEEP := Lib.hid (show ∀ Z, Keeps own Y Z → Keeps own X Z ∧ KB w0.heap.size w0 Bt Bk W.heap.size lp a n cap k Z ∧ Boxed Z Bx 3 (.int .i64 (x : Int)) ∧ U.heap.size ≤ Z.heap.size from fun Z hk =>
          ⟨hkY.trans hk, hKY.keeps (by omega) hk hso4, hk.same _ _ (fun h => by have := hso _ h; omega) bY, by have := hk.size; omega⟩)
        clear hjy hKY bY hkY
        gi_wp2
        refine ⟨fun h => by omega, ?_⟩
        refine RoundIn.mono (F := (Fence.wide.inRound lq).inRound l3) hR ?_
        rintro e W3 (⟨rfl, hJ3, hk3⟩ | ⟨rfl, hx3, hk3⟩)
        · obtain ⟨q1, q2, q3, q4⟩ := HKEEP.out _ hk3
          gi_wp2
          exact ⟨hk3, ⟨⟨by rw [List.map_append, ← List.append_assoc]; exact hJ3, q2, q3⟩, q1, q4⟩⟩
        · obtain ⟨q1, q2, q3, q4⟩ := HKEEP.out _ hk3
          gi_wp2
          exact ⟨hk3, rfl, ⟨_, hx3⟩, q1⟩
      case done2 =>
        rintro cs Y rfl ⟨⟨hjy, hKY, bY⟩, hkY, hzY⟩
        gi_wp2
        exact ⟨hkY, by rw [flat_snoc]; exact hjy, hKY, by omega⟩
      case stop2 =>
        rintro c cs Y _ ⟨rfl, hq, hkY⟩
        gi_wp2
        exact ⟨hkY, rfl, hq⟩
  case done =>
    rintro D rs X hD hS ⟨hjx, _, _⟩ hK
    subst hS
    have hjz := hJ.put (.deferred none) hjx (show W.heap.size ≤ D by omega)
    gi_wp2
    show LeavesInM _ _ _ _ _ _ _ _ _
    refine ⟨by simp, .inl ⟨_, _, rfl, run_takeDeferred hK, ?_⟩⟩
    refine ⟨.tuple #[], ?_, ⟨_, rfl⟩, .inl ⟨_, rfl, hjz⟩⟩
    simp [results, Try.f129, go_sem]
  case stop =>
    rintro D c rs X hD _ ⟨rfl, q, hq⟩ hK
    have hjz := hJx.put (.deferred none) hq (show W.heap.size ≤ D by omega)
    gi_wp2
    show LeavesInM _ _ _ _ _ _ _ _ _
    refine ⟨by simp, .inl ⟨_, _, rfl, run_takeDeferred hK, ?_⟩⟩
    refine ⟨.tuple #[], ?_, ⟨_, rfl⟩, .inr ⟨q, trivial, hjz⟩⟩
    simp [results, Try.f129, go_sem]

end Go.Proofs.Ythdemjfllfhhpaa
end

section
namespace Go.Proofs.Ythdemjfllfhhpaa
open Go.RowKit Go.Deep Go.Shelf

attribute [local go_sem] Oper.semAt_some

def hasR (l : List (List Int)) (k M2 : Nat) (r : Nat) : Bool := (setsTo k M2).any fun c => decide (dt k (at2 (partL l r c)) ≠ 0)
def hasB (l : List (List Int)) (k M1 M2 : Nat) : Bool := (setsTo k M1).any (hasR l k M2)
theorem hasB_yes {l : List (List Int)} {k n m : Nat} {x : Nat × Nat} (hx : x ∈ partsK k n m) (h : mnP l x ≠ 0) : hasB l k (2 ^ n) (2 ^ m) = true := by
  obtain ⟨⟨g1, g2⟩, g3⟩ := partsK_mem.1 hx
  refine List.any_eq_true.2 ⟨x.1, (setsTo_mem k).2 ⟨g1, g2⟩, List.any_eq_true.2 ⟨x.2, (setsTo_mem k).2 g3, ?_⟩⟩
  unfold mnP at h
  rw [g2] at h
  simpa using h
theorem hasB_no {l : List (List Int)} {k n m : Nat} (h : ∀ x ∈ partsK k n m, mnP l x = 0) : hasB l k (2 ^ n) (2 ^ m) = false := by
  cases e : hasB l k (2 ^ n) (2 ^ m) with
  | false => rfl
  | true =>
    obtain ⟨r, hr, e2⟩ := List.any_eq_true.1 e
    obtain ⟨c, hc, e3⟩ := List.any_eq_true.1 e2
    have g1 := (setsTo_mem k).1 hr
    have g2 := (setsTo_mem k).1 hc
    have := h (r, c) (partsK_mem.2 ⟨g1, g2⟩)
    unfold mnP at this
    rw [show popcS (r, c).1 = k from g1.2] at this
    exact absurd this (of_decide_eq_true e3)

theorem oldT_since {w W : World} (h : w.Since w.heap.size W) : OldT w.heap.size w W := fun k hk => h.block k hk
theorem grownSH {w w' : World} (h : w.Since w.heap.size w') : w.grownBy w' none := ⟨h.os, h.tape, h.output, h.size, fun k hk _ => h.block k hk⟩
structure HS (w : World) (tv : Value) (W : World) : Prop where
  bt : Boxed W w.heap.size 48 tv
  br : Boxed W (w.heap.size + 1) 4 (.bool false)
  sn : w.Since w.heap.size W
theorem since_row {lo : Nat} {w W W' : World} {row : Option Nat} (h : w.Since lo W) (hlo : lo ≤ w.heap.size) (hg : W.grownBy W' row) (hr : ∀ r, row = some r → lo ≤ r) : w.Since lo W' :=
  ⟨hg.os.trans h.os, hg.tape.trans h.tape, hg.output.trans h.output, Nat.le_trans h.size hg.size, fun k hk => (hg.block k (by have := h.size; omega) (fun e => by have := hr k e.symm; omega)).trans (h.block k hk)⟩
theorem HS.kept {w W W' : World} {tv : Value} {row : Option Nat} (h : HS w tv W) (hg : W.grownBy W' row) (hr : ∀ r, row = some r → w.heap.size + 2 ≤ r) : HS w tv W' :=
  ⟨h.bt.kept hg (fun e => by have := hr _ e.symm; omega), h.br.kept hg (fun e => by have := hr _ e.symm; omega), since_row h.sn (Nat.le_refl _) hg (fun r e => by have := hr r e; omega)⟩

set_option maxRecDepth 100000 in
set_option maxHeartbeats 2000000 in
theorem hasMinor_any (a : Option Addr) (cap n m k : Nat) (l : List (List Int)) (w : World) (hn : l.length = n) (hmm : (l.getD 0 []).length = m) (hT : TabIn l) (hm : MatR w a l) :
    Calls Try.prog 105 #[.slice a n cap, .int .i64 k] w fun e w' => e = .returned (.bool (hasB l k (2 ^ n) (2 ^ m))) ∧ w.Since w.heap.size w' := by
  have HSEQ := Lib.hid (fun (g : Nat) (hg : 12 ≤ g) (Bt' Bk' : Nat) (V : World) => kth_seqE g hg Bt' Bk' n m cap k a l w V hn hT hmm hm)
  have EM := Lib.hid (fun (x : Nat × Nat) (hx : x ∈ partsK k n m) (V : World) (h : w.Since w.heap.size V) => minor_any a cap n m x.1 x.2 l V hn hmm hT (partsK_mem.1 hx).1.1 (partsK_mem.1 hx).2.1 ((partsK_mem.1 hx).1.2.trans (partsK_mem.1 hx).2.2.symm) (hm.since h))
  clear hn hmm hT hm
  refine (callsIn_wide (n := 20)).1 ?_
  refine callsIn_of_wp_marks Try.func105 rfl trivial ?_ rfl
  simp only [Try.ntmps105, List.size_toArray, List.length_cons, List.length_nil, Nat.reduceAdd, Nat.reduceSub, Array.replicate_succ, Array.replicate_zero, List.push_toArray, List.append_toArray, List.nil_append, List.cons_append]
  gi_wp2_with (refine ⟨trivial, ?_⟩; gi_at_call 119; refine (kthParts_in _ _ _ _ _ _).mono ?_; rintro e w' ⟨rfl, rfl⟩)
  have hb0 := Boxed.new w 48 (.slice a n cap)
  have hr0 := Boxed.new (w.alloc (.cells #[.slice a n cap] 48)) 4 (.bool false)
  rw [World.size_alloc] at hr0
  have hS0 : HS w (.slice a n cap) ((w.alloc (.cells #[.slice a n cap] 48)).alloc (.cells #[.bool false] 4)) := ⟨hb0.alloc _, hr0, ((World.Since.refl _ w).alloc (Nat.le_refl _) _).alloc (by simp) _⟩
  obtain ⟨w2, hw2⟩ : ∃ W, (w.alloc (.cells #[.slice a n cap] 48)).alloc (.cells #[.bool false] 4) = W := ⟨_, rfl⟩
  have z2 : w2.heap.size = w.heap.size + 1 + 1 := by rw [← hw2]; simp
  rw [hw2] at hS0 ⊢
  clear hw2 hb0 hr0
  have bt := cell_alloc_l (.cells #[.int .i64 (k : Int)] 3) (cell_new_l w2 (.slice a n cap) 48).1
  have bk := (cell_new_l (w2.alloc (.cells #[.slice a n cap] 48)) (.int .i64 (k : Int)) 3).1
  have hg := (World.grownBy_alloc w2 (.cells #[.slice a n cap] 48) none).trans (World.grownBy_alloc _ (.cells #[.int .i64 (k : Int)] 3) none)
  have hS1 := hS0.kept hg (fun r e => by cases e)
  have zV : ((w2.alloc (.cells #[.slice a n cap] 48)).alloc (.cells #[.int .i64 (k : Int)] 3)).heap.size = w.heap.size + 4 := by simp [z2]
  simp only [World.size_alloc] at bk
  rw [z2] at bt bk
  obtain ⟨V, hV⟩ : ∃ V, (w2.alloc (.cells #[.slice a n cap] 48)).alloc (.cells #[.int .i64 (k : Int)] 3) = V := ⟨_, rfl⟩
  rw [hV] at bt bk hS1 zV ⊢
  clear hV hS0 hg z2
  refine rangeF (F := Fence.wide) (n := 20) rfl (by omega) (gf := 129) (lb := #[.pointer (some ⟨w.heap.size + 1 + 1, 0, none⟩), .pointer (some ⟨w.heap.size + 1 + 1 + 1, 0, none⟩)]) rfl trivial (enters_of Try.func129 (by kernel_rfl) rfl)
    (HSEQ.out 19 (by omega) (w.heap.size + 1 + 1) (w.heap.size + 1 + 1 + 1) V (oldT_since hS1.sn) (by omega) (by omega) (by omega) bt bk) (fun _ => rfl) (fun q => q = w.heap.size + 1) (fun q hq => ⟨by omega, by omega⟩) (fun q hq => by omega)
    (fun (ps : List (Nat × Nat)) X => (HS w (.slice a n cap) X ∧ V.heap.size ≤ X.heap.size) ∧ ∀ x ∈ ps, mnP l x = 0)
    (fun c _ X => c = .ret ∧ Boxed X (w.heap.size + 1) 4 (.bool true) ∧ w.Since w.heap.size X ∧ hasB l k (2 ^ n) (2 ^ m) = true)
    (fun ps X Y row hs hg hr => ⟨⟨hs.1.1.kept hg (fun r e => by have := hr r e; omega), Nat.le_trans hs.1.2 hg.size⟩, hs.2⟩)
    (fun c ps X Y row hs hg hr => ⟨hs.1, hs.2.1.kept hg (fun e => by have := hr _ e.symm; omega), since_row hs.2.2.1 (Nat.le_refl _) hg (fun r e => by have := hr r e; omega), hs.2.2.2⟩)
    ⟨⟨hS1, Nat.le_refl _⟩, fun x hx => by cases hx⟩
    (fun x a'' _ => a'' = { tmps := #[.slice a n cap, .int .i64 k, .pointer (some ⟨w.heap.size, 0, none⟩), undef, .pointer (some ⟨w.heap.size + 1, 0, none⟩), .int .i64 (x.1 : Int), .int .i64 (x.2 : Int), .slice a n cap, .int .i64 k, .func (.func 129) #[] #[.pointer (some ⟨w.heap.size + 1 + 1, 0, none⟩), .pointer (some ⟨w.heap.size + 1 + 1 + 1, 0, none⟩)], .int .i64 (x.1 : Int), .int .i64 (x.2 : Int), undef, undef, undef, undef, undef], defers := [] })
    (fun _ _ _ _ _ _ hA _ _ => hA)
    ?assign ?body ?done ?stop
  case assign =>
    rintro lq ps x Y K _ hi _ hK
    simp only [encP]
    gi_wp2
    exact hK _ _ (Keeps.refl _ _) hi rfl
  case body =>
    rintro lq ps x a'' Y hlq hzY _ ⟨⟨hS, hz⟩, hp⟩ hpx rfl hlen
    have cT := hS.bt.cell
    have E := Lib.hid (EM.out x hpx Y hS.sn)
    have HSS := Lib.hid hS
    have HY := Lib.hid (show mnP l x ≠ 0 → hasB l k (2 ^ n) (2 ^ m) = true from fun h => hasB_yes hpx h)
    have HP := Lib.hid hp
    clear hS hp hpx
    obtain ⟨x1, x2⟩ := x
    simp only at E HY ⊢
    obtain ⟨v, hv⟩ : ∃ v, mnP l (x1, x2) = v := ⟨_, rfl⟩
    rw [hv] at E HY
    have HV := Lib.hid hv
    clear hv
    by_cases hv0 : v = 0
    · have hvb : (v != 0) = false := by simp [hv0]
      gi_wp2_with (refine ⟨trivial, ?_⟩; gi_at_call 60; refine (CallsIn.inRound lq (callsIn_wide.2 E.out)).mono ?_; rintro e Z ⟨rfl, hs2⟩; have HS2 := Lib.hid hs2; clear hs2)
      have hg := grownSH HS2.out
      exact ⟨Keeps.grown hg (fun r e => by cases e), ⟨HSS.out.kept hg (fun r e => by cases e), by have := hg.size; omega⟩, fun p hp => by
        rcases List.mem_append.1 hp with h | h
        · exact HP.out _ h
        · simp only [List.mem_singleton] at h
          rw [h, HV.out, hv0]⟩
    · have hvb : (v != 0) = true := by simp [hv0]
      gi_wp2_with (refine ⟨trivial, ?_⟩; gi_at_call 60; refine (CallsIn.inRound lq (callsIn_wide.2 E.out)).mono ?_; rintro e Z ⟨rfl, hs2⟩; have HS2 := Lib.hid hs2; have hrB := HSS.out.br.kept (grownSH HS2.out) (by simp); have cR := hrB.cell; have fR := hrB.frozen; clear hs2)
      have hg := grownSH HS2.out
      exact ⟨(Keeps.grown hg (fun r e => by cases e)).trans (Keeps.grown (grownBy_setCell' Z (w.heap.size + 1) _) (fun r e => by cases e; rfl)), rfl, hrB.set _, (HSS.out.kept hg (fun r e => by cases e)).sn.setCell (by simp) _, HY.out hv0⟩
  case done =>
    rintro D ps X hD rfl ⟨⟨hS, hz⟩, hp⟩ hK
    have cS := hS.br.cell
    have fS := hS.br.frozen
    have hb : hasB l k (2 ^ n) (2 ^ m) = false := hasB_no hp
    have hlt := (Array.getElem?_eq_some_iff.1 hK).1
    have hK2 : (X.setCell ⟨w.heap.size + 1, 0, none⟩ (.bool false)).heap[D]? = some (.deferred (some [])) := ((grownBy_setCell' X (w.heap.size + 1) (.bool false)).block D hlt (fun e => by injection e; omega)).trans hK
    have hB3 := (hS.br.set (.bool false)).kept (grownBy_putObj' (X.setCell ⟨w.heap.size + 1, 0, none⟩ (.bool false)) D (.deferred none)) (fun e => by injection e; omega)
    have cB := hB3.cell
    have hsn := since_row (hS.sn.setCell (a := ⟨w.heap.size + 1, 0, none⟩) (by simp) (.bool false)) (Nat.le_refl _) (grownBy_putObj' (X.setCell ⟨w.heap.size + 1, 0, none⟩ (.bool false)) D (.deferred none)) (fun r e => by cases e; omega)
    gi_wp2
    refine ⟨by simp, .inl ⟨_, _, rfl, run_takeDeferred hK2, ?_⟩⟩
    refine ⟨.bool false, ?_, by rw [hb], hsn⟩
    have cB' := cB
    simp [results, Try.f105, go_sem, cB']
  case stop =>
    rintro D c ps X hD _ ⟨rfl, bR, hs, hb⟩ hK
    have hB3 := bR.kept (grownBy_putObj' X D (.deferred none)) (fun e => by injection e; omega)
    have cB := hB3.cell
    have hsn := since_row hs (Nat.le_refl _) (grownBy_putObj' X D (.deferred none)) (fun r e => by cases e; omega)
    gi_wp2
    refine ⟨by simp, .inl ⟨_, _, rfl, run_takeDeferred hK, ?_⟩⟩
    refine ⟨.bool true, ?_, by rw [hb], hsn⟩
    have cB' := cB
    simp [results, Try.f105, go_sem, cB']

end Go.Proofs.Ythdemjfllfhhpaa
end

section
namespace Go.Proofs.Ythdemjfllfhhpaa
open Go.RowKit Go.Deep

def nzM (l : List (List Int)) (r c : Nat) : Prop := popcS r = popcS c ∧ ordF (partL l r c) (popcS r) (popcS r) 0 ≠ 0
theorem stepR_ge (l : List (List Int)) (r c b : Nat) : b ≤ stepR l r c b := by
  unfold stepR
  split
  · omega
  · omega
theorem stepR_yes {l : List (List Int)} {r c : Nat} (h : nzM l r c) (b : Nat) : popcS r ≤ stepR l r c b := by
  unfold stepR
  by_cases hb : b < popcS r
  · rw [if_pos ⟨h.1, hb, h.2⟩]; omega
  · have := stepR_ge l r c b
    unfold stepR at this
    omega
theorem stepR_ex (l : List (List Int)) (r c b : Nat) : stepR l r c b = b ∨ (stepR l r c b = popcS r ∧ nzM l r c) := by
  unfold stepR
  split
  · rename_i h; exact .inr ⟨rfl, h.1, h.2.2⟩
  · exact .inl rfl
theorem rkC_step (l : List (List Int)) (r b : Nat) : ∀ c, 1 ≤ c → b ≤ rkC l r b c ∧ (∀ c', 1 ≤ c' → c' < c → nzM l r c' → popcS r ≤ rkC l r b c) ∧ (rkC l r b c = b ∨ (rkC l r b c = popcS r ∧ ∃ c', c' < c ∧ nzM l r c'))
  | 0, h => by omega
  | 1, _ => by rw [rkC_one]; exact ⟨by omega, fun c' h1 h2 => by omega, .inl rfl⟩
  | c + 2, _ => by
    obtain ⟨i1, i2, i3⟩ := rkC_step l r b (c + 1) (by omega)
    rw [rkC_succ l r b (by omega)]
    have g := stepR_ge l r (c + 1) (rkC l r b (c + 1))
    refine ⟨by omega, fun c' h1 h2 hn => ?_, ?_⟩
    · by_cases e : c' = c + 1
      · subst e; exact stepR_yes hn _
      · have := i2 c' h1 (by omega) hn
        omega
    · rcases stepR_ex l r (c + 1) (rkC l r b (c + 1)) with e | ⟨e, hn⟩
      · rw [e]
        rcases i3 with e2 | ⟨e2, c', h1, h2⟩
        · exact .inl e2
        · exact .inr ⟨e2, c', by omega, h2⟩
      · exact .inr ⟨e, c + 1, by omega, hn⟩
theorem rkR_step (l : List (List Int)) (C : Nat) (hC : 1 ≤ C) : ∀ r, 1 ≤ r → (∀ r' c', 1 ≤ r' → r' < r → 1 ≤ c' → c' < C → nzM l r' c' → popcS r' ≤ rkR l C r) ∧ (rkR l C r = 0 ∨ ∃ r' c', r' < r ∧ c' < C ∧ nzM l r' c' ∧ rkR l C r = popcS r')
  | 0, h => by omega
  | 1, _ => by rw [rkR_one]; exact ⟨fun r' c' h1 h2 => by omega, .inl rfl⟩
  | r + 2, _ => by
    obtain ⟨i1, i2⟩ := rkR_step l C hC (r + 1) (by omega)
    rw [rkR_succ l C (by omega)]
    obtain ⟨j1, j2, j3⟩ := rkC_step l (r + 1) (rkR l C (r + 1)) C hC
    refine ⟨fun r' c' h1 h2 h3 h4 hn => ?_, ?_⟩
    · by_cases e : r' = r + 1
      · subst e; exact j2 c' h3 h4 hn
      · have := i1 r' c' h1 (by omega) h3 h4 hn
        omega
    · rcases j3 with e | ⟨e, c', h1, h2⟩
      · rw [e]
        rcases i2 with e2 | ⟨r', c', h1, h2, h3, h4⟩
        · exact .inl e2
        · exact .inr ⟨r', c', by omega, h2, h3, h4⟩
      · exact .inr ⟨r + 1, c', by omega, h1, h2, e⟩
theorem popc_le_n : ∀ n : Fin 7, ∀ s : Fin 64, s.val < 2 ^ n.val → popcS s.val ≤ n.val := by decide +kernel
theorem hasB_iff {l : List (List Int)} {k M1 M2 : Nat} : hasB l k M1 M2 = true ↔ ∃ r c, (r < M1 ∧ popcS r = k) ∧ (c < M2 ∧ popcS c = k) ∧ dt k (at2 (partL l r c)) ≠ 0 := by
  unfold hasB hasR
  rw [List.any_eq_true]
  constructor
  · rintro ⟨r, hr, h⟩
    obtain ⟨c, hc, h⟩ := List.any_eq_true.1 h
    exact ⟨r, c, (setsTo_mem k).1 hr, (setsTo_mem k).1 hc, by simpa using h⟩
  · rintro ⟨r, c, hr, hc, h⟩
    exact ⟨r, (setsTo_mem k).2 hr, List.any_eq_true.2 ⟨c, (setsTo_mem k).2 hc, by simpa using h⟩⟩
theorem rank_down {l : List (List Int)} {n m : Nat} (hn : n ≤ 6) (hm : m ≤ 6) :
    rkR l (2 ^ m) (2 ^ n) ≤ n ∧ rkR l (2 ^ m) (2 ^ n) ≤ m ∧ ∀ k, 1 ≤ k → (hasB l k (2 ^ n) (2 ^ m) = true → k ≤ rkR l (2 ^ m) (2 ^ n)) ∧ (hasB l k (2 ^ n) (2 ^ m) = false → rkR l (2 ^ m) (2 ^ n) ≠ k) := by
  have p1 : 2 ^ n ≤ 2 ^ 6 := Nat.pow_le_pow_right (by omega) hn
  have p2 : 2 ^ m ≤ 2 ^ 6 := Nat.pow_le_pow_right (by omega) hm
  have q1 : 1 ≤ 2 ^ n := Nat.pow_pos (by omega)
  have q2 : 1 ≤ 2 ^ m := Nat.pow_pos (by omega)
  obtain ⟨s1, s2⟩ := rkR_step l (2 ^ m) q2 (2 ^ n) q1
  have hle : rkR l (2 ^ m) (2 ^ n) ≤ n ∧ rkR l (2 ^ m) (2 ^ n) ≤ m := by
    rcases s2 with e | ⟨r, c, h1, h2, h3, h4⟩
    · omega
    · have e1 := popc_le_n ⟨n, by omega⟩ ⟨r, by omega⟩ h1
      have e2 := popc_le_n ⟨m, by omega⟩ ⟨c, by omega⟩ h2
      have := h3.1
      simp only at e1 e2
      omega
  refine ⟨hle.1, hle.2, fun k hk => ⟨fun h => ?_, fun h e => ?_⟩⟩
  · obtain ⟨r, c, ⟨r1, r2⟩, ⟨c1, c2⟩, hd⟩ := hasB_iff.1 h
    have g1 := popcS_pos ⟨r, by omega⟩ (by rw [r2]; exact hk)
    have g2 := popcS_pos ⟨c, by omega⟩ (by rw [c2]; exact hk)
    have hk6 : k ≤ 6 := by rw [← r2]; exact popcS_le r
    have := s1 r c g1 r1 g2 c1 ⟨by omega, by rw [r2, ordF_all _ hk6]; exact hd⟩
    omega
  · rcases s2 with e2 | ⟨r, c, h1, h2, h3, h4⟩
    · omega
    · have hk6 : k ≤ 6 := by rw [← e, h4]; exact popcS_le r
      have hr : popcS r = k := by omega
      have : hasB l k (2 ^ n) (2 ^ m) = true := hasB_iff.2 ⟨r, c, ⟨h1, hr⟩, ⟨h2, by rw [← h3.1]; exact hr⟩, by
        have := h3.2
        rw [hr, ordF_all _ hk6] at this
        exact this⟩
      rw [h] at this
      cases this

end Go.Proofs.Ythdemjfllfhhpaa
end

section
namespace Go.Proofs.Ythdemjfllfhhpaa
open Go.RowKit Go.Deep

set_option maxRecDepth 100000 in
set_option maxHeartbeats 2000000 in
theorem rank_any (a : Option Addr) (cap n m : Nat) (l : List (List Int)) (w : World) (hn : l.length = n) (hT : TabIn l) (hmm : (l.getD 0 []).length = m) (hm : MatR w a l) :
    Calls Try.prog 54 #[.slice a n cap] w fun e w' => e = .returned (.int .i64 (rkR l (2 ^ m) (2 ^ n) : Nat)) ∧ w.Since w.heap.size w' := by
  have h6 := hT.2.1
  have h1 := hT.1
  have hw := hT.width
  rw [hn] at h6 h1
  rw [hmm] at hw
  obtain ⟨r1, r2, r3⟩ := rank_down (l := l) h6 hw.2
  obtain ⟨b, hb⟩ : ∃ b, rkR l (2 ^ m) (2 ^ n) = b := ⟨_, rfl⟩
  rw [hb] at r1 r2 r3 ⊢
  have EW := width_any a cap n l w hn (by omega) (by omega) hm
  rw [hmm] at EW
  have EH := Lib.hid (fun (k : Nat) (W : World) (h : w.Since w.heap.size W) => hasMinor_any a cap n m k l W hn hmm hT (hm.since h))
  replace EW := Lib.hid EW
  have R3 := Lib.hid r3
  clear r3 hn hmm hm hT hb
  go_enter Try.func54, Try.ntmps54
  go_wp2_with fail
  refine (EW.out).mono ?_
  rintro e w1 ⟨rfl, rfl⟩
  go_wp2
  all_goals
    go_loopg [3] 6 (fun g v wr => ∃ c : Nat, b ≤ c ∧ c ≤ 6 ∧ c ≤ g ∧ v = .int .i64 c ∧ w.Since w.heap.size wr)
    case atStart => first | exact ⟨n, r1, h6, h6, rfl, World.Since.refl _ _⟩ | exact ⟨m, r2, hw.2, hw.2, rfl, World.Since.refl _ _⟩
    case round =>
      obtain ⟨c, hbc, hc6, hcg, rfl, hS⟩ := hrel
      by_cases hc0 : c = 0
      · have hb0 : b = 0 := by omega
        subst hc0 hb0
        have HS := Lib.hid hS
        clear hS
        go_wp2
        go_ret
        exact ⟨rfl, HS.out⟩
      · have hc1 : decide ((0 : Int) < (c : Int)) = true := by simp; omega
        have E := EH.out c wr hS
        obtain ⟨q1, q2⟩ := R3.out c (by omega)
        obtain ⟨h, hh⟩ : ∃ h, hasB l c (2 ^ n) (2 ^ m) = h := ⟨_, rfl⟩
        rw [hh] at E q1 q2
        replace E := Lib.hid E
        have HS := Lib.hid hS
        clear hS hh
        go_wp2_with fail
        refine (E.out).mono ?_
        rintro e w2 ⟨rfl, hs2⟩
        have HS2 := Lib.hid (HS.out.trans (since_mono hs2 HS.out.size))
        clear hs2
        cases h with
        | true =>
          have hcb : c = b := by have := q1 rfl; omega
          subst hcb
          go_wp2
          go_ret
          exact ⟨rfl, HS2.out⟩
        | false =>
          have hcb := q2 rfl
          go_wp2
          go_roundg (gk - 1)
          case measure => omega
          case rel => exact ⟨c - 1, by omega, by omega, by omega, by go_num, HS2.out⟩

set_option maxHeartbeats 1000000 in
theorem implValueRank_any (a : Option Addr) (cap n : Nat) (l : List (List Int)) (w : World) (hn : l.length = n) (hsz : szL l ≤ 1048576) (hm : MatR w a l) :
    Calls Try.prog 15 #[.slice a n cap] w (SpecW w (tabIn l) (rkR l (2 ^ (l.getD 0 []).length) (2 ^ n) : Nat)) := by
  have E := implTableIn_any a cap n l w hn hsz hm
  cases hT : tabIn l with
  | false =>
    rw [hT] at E
    replace E := Lib.hid E
    clear hT hm hn hsz
    go_enter Try.func15, Try.ntmps15
    go_wp2_with fail
    refine (E.out).mono ?_
    rintro e w1 ⟨rfl, hd⟩
    have HD := Lib.hid hd
    clear hd
    go_wp2
    go_ret2
    exact ⟨rfl, HD.out⟩
  | true =>
    rw [hT] at E
    replace E := Lib.hid E
    have E2 := Lib.hid (fun (W : World) (hd : w.Since w.heap.size W) => rank_any a cap n _ l W hn (tabIn_of hT) rfl (hm.since hd))
    clear hT hm hn hsz
    go_enter Try.func15, Try.ntmps15
    go_wp2_with fail
    refine (E.out).mono ?_
    rintro e w1 ⟨rfl, hd⟩
    have HD := Lib.hid hd
    clear hd
    go_wp2_with fail
    refine (E2.out w1 HD.out).mono ?_
    rintro e w2 ⟨rfl, hs2⟩
    have HS2 := Lib.hid (HD.out.trans (since_mono hs2 HD.out.size))
    clear hs2
    go_wp2
    go_ret2
    exact ⟨rfl, HS2.out⟩

end Go.Proofs.Ythdemjfllfhhpaa
end

section
namespace Go.Proofs.Ythdemjfllfhhpaa
open Go.RowKit Go.Deep

set_option maxHeartbeats 1000000 in
theorem sameInts_same (a b : Option Addr) (ca cb n : Nat) (l : List Int) (w : World) (hn : l.length = n) (h63 : n ≤ 9223372036854775807) (ha : RowR w a l) (hb : RowR w b l) :
    Calls Try.prog 75 #[.slice a n ca, .slice b n cb] w fun e w' => e = .returned (.bool true) ∧ Drawn w w' := by
  have H := Lib.hid hn; clear hn
  go_enter Try.func75, Try.ntmps75
  go_wp2
  go_loopg [5] n (fun g i wr => ∃ k : Nat, k ≤ n ∧ g = n - k ∧ i = .int .i64 k ∧ Drawn w wr)
  case atStart => exact ⟨0, Nat.zero_le _, rfl, rfl, Drawn.refl w⟩
  case round =>
    obtain ⟨k, hk, rfl, rfl, hD⟩ := hrel
    by_cases hlt : k < n
    · obtain ⟨b1, o1, rfl, hc1⟩ := ha (by rw [H.out]; omega)
      obtain ⟨b2, o2, rfl, hc2⟩ := hb (by rw [H.out]; omega)
      have c1 := hc1 k (by rw [H.out]; exact hlt)
      have c2 := hc2 k (by rw [H.out]; exact hlt)
      obtain ⟨x, hx⟩ : ∃ x, x = l.getD k 0 := ⟨_, rfl⟩
      rw [← hx] at c1 c2
      rw [← hD.cell] at c1 c2
      clear hx hc1 hc2 ha hb
      go_wp2
      go_quiet (fail)
      go_wp2
      go_roundg (n - (k + 1))
      case measure => omega
      case rel => exact ⟨k + 1, by omega, rfl, by go_num, hD.trans (Drawn.mk _ _)⟩
    · go_wp2
      go_ret
      exact ⟨rfl, hD⟩

set_option maxHeartbeats 1000000 in
theorem sameRows_same (a b : Option Addr) (ca cb n : Nat) (l : List (List Int)) (w : World) (hn : l.length = n) (h63 : n ≤ 9223372036854775807) (hl : ∀ r, r < l.length → (l.getD r []).length ≤ 9223372036854775807)
    (ha : MatR w a l) (hb : MatR w b l) :
    Calls Try.prog 27 #[.slice a n ca, .slice b n cb] w fun e w' => e = .returned (.bool true) ∧ Drawn w w' := by
  have H := Lib.hid hn; clear hn
  go_enter Try.func27, Try.ntmps27
  go_wp2
  go_loopg [5] n (fun g i wr => ∃ k : Nat, k ≤ n ∧ g = n - k ∧ i = .int .i64 k ∧ Drawn w wr)
  case atStart => exact ⟨0, Nat.zero_le _, rfl, rfl, Drawn.refl w⟩
  case round =>
    obtain ⟨k, hk, rfl, rfl, hD⟩ := hrel
    by_cases hlt : k < n
    · obtain ⟨b1, o1, A1, C1, rfl, hc1⟩ := ha (by rw [H.out]; omega)
      obtain ⟨b2, o2, A2, C2, rfl, hc2⟩ := hb (by rw [H.out]; omega)
      obtain ⟨c1, r1⟩ := hc1 k (by rw [H.out]; exact hlt)
      obtain ⟨c2, r2⟩ := hc2 k (by rw [H.out]; exact hlt)
      have hlk := hl k (by rw [H.out]; exact hlt)
      obtain ⟨x, hx⟩ : ∃ x, x = l.getD k [] := ⟨_, rfl⟩
      rw [← hx] at c1 c2 r1 r2 hlk
      obtain ⟨m, hm⟩ : ∃ m, x.length = m := ⟨_, rfl⟩
      rw [hm] at c1 c2 hlk
      have HM := Lib.hid hm
      clear hx hc1 hc2 ha hb hl hm
      have r1 := r1.drawn hD
      have r2 := r2.drawn hD
      rw [← hD.cell] at c1 c2
      have e1 := fun (p : Nat) => sameInts_same (A1 k) (A2 k) (C1 k) (C2 k) m x (wr.drewN p) HM.out hlk r1 r2
      have E1 := Lib.hid e1; clear e1 r1 r2
      go_wp2
      go_quiet ((go_at_call 75; exact Calls.quiet_of (E1.out _)))
      go_wp2
      go_roundg (n - (k + 1))
      case measure => omega
      case rel => exact ⟨k + 1, by omega, rfl, by go_num, hD.trans (Drawn.mk _ _)⟩
    · go_wp2
      go_ret
      exact ⟨rfl, hD⟩

end Go.Proofs.Ythdemjfllfhhpaa
end

section
namespace Go.Proofs.Ythdemjfllfhhpaa
open Go.RowKit Go.Deep

theorem szL_of {l : List (List Int)} {n k : Nat} (h1 : l.length ≤ n) (h2 : ∀ j, j < l.length → (l.getD j []).length ≤ k) (hnk : n * k + n ≤ 1048576) : szL l ≤ 1048576 := by
  have h3 := sumTo_le_mul l k h2 l.length (Nat.le_refl _)
  have h4 : l.length * k ≤ n * k := Nat.mul_le_mul_right _ h1
  have h5 : k * l.length = l.length * k := Nat.mul_comm _ _
  unfold szL
  omega
theorem rows_le {l : List (List Int)} (h : szL l ≤ 1048576) : ∀ r, r < l.length → (l.getD r []).length ≤ 9223372036854775807 := fun r hr => by
  have := row_le l hr
  unfold szL at h
  omega

theorem tab_self {l : List (List Int)} {n m : Nat} (hn : l.length = n) (hm : ∀ r, r < n → (l.getD r []).length = m) : tabF n m (at2 l) = l := by
  refine List.ext_getElem (by rw [tabF_length, hn]) fun r h1 h2 => ?_
  have hr : r < n := by rw [tabF_length] at h1; exact h1
  have e1 : (tabF n m (at2 l))[r] = (tabF n m (at2 l)).getD r [] := by simp [List.getD, h1]
  have e2 : l[r] = l.getD r [] := by simp [List.getD, h2]
  rw [e1, e2, tabF_get _ _ _ _ hr]
  refine List.ext_getElem (by rw [List.length_map, List.length_range, hm r hr]) fun k h3 h4 => ?_
  rw [List.getElem_map, List.getElem_range]
  unfold at2
  obtain ⟨x, hx⟩ : ∃ x, x = l.getD r [] := ⟨_, rfl⟩
  subst hx
  generalize l.getD r [] = x at *
  simp [List.getD, h4]

theorem turnL_turnL {l : List (List Int)} (hT : TabIn l) : turnL (turnL l) = l := by
  have h1 := hT.1
  have hw := hT.width
  have e0 : ((turnL l).getD 0 []).length = l.length := tabF_len _ _ _ _ hw.1
  have e1 : turnL (turnL l) = tabF l.length (l.getD 0 []).length fun k i => at2 (turnL l) i k := by
    show tabF ((turnL l).getD 0 []).length (turnL l).length _ = _
    rw [e0, turnL_length]
  rw [e1]
  have e2 : tabF l.length (l.getD 0 []).length (fun k i => at2 (turnL l) i k) = tabF l.length (l.getD 0 []).length (at2 l) := by
    unfold tabF
    refine List.map_congr_left fun r hr => List.map_congr_left fun k hk => ?_
    exact tabF_at _ _ _ _ _ (List.mem_range.1 hk) (List.mem_range.1 hr)
  rw [e2]
  exact tab_self rfl (fun r hr => hT.row hr)

end Go.Proofs.Ythdemjfllfhhpaa
end

section
namespace Go.Proofs.Ythdemjfllfhhpaa
open Go.RowKit Go.Deep

set_option maxRecDepth 100000 in
set_option maxHeartbeats 4000000 in
theorem fnSame (a : Option Addr) (cap n : Nat) (w : World) (hc : n ≤ cap) (h63 : cap ≤ 9223372036854775807) (hb : BytR w a n) :
    Calls Try.prog 3 #[.slice a n cap] w fun e w' => e = .returned (.bool true) ∧ w.Since w.heap.size w' := by
  by_cases hlen : 1048576 < n
  · have hl' : decide ((1048576 : Int) < (n : Int)) = true := by simp; omega
    clear hb
    go_enter Try.func3, Try.ntmps3
    go_wp2
    go_ret
    exact ⟨rfl, World.Since.refl _ _⟩
  · have hl' : decide ((1048576 : Int) < (n : Int)) = false := by simp; omega
    have ED := Lib.hid (drawSame_any a n cap w hc h63 hb)
    clear hb
    go_enter Try.func3, Try.ntmps3
    go_wp2_with fail
    refine (ED.out).mono ?_
    rintro e w1 ⟨a1, c1, l, a6, c6, u, rfl, hs1, ⟨h1, h5, hlens, hit⟩, g4, glens, git⟩
    have hsz : szL l ≤ 1048576 := szL_of h5 (fun j hj => (hlens j hj).2) (by decide)
    have hszu : szL u ≤ 1048576 := szL_of g4 glens (by decide)
    obtain ⟨nn, hn⟩ : ∃ nn, l.length = nn := ⟨_, rfl⟩
    obtain ⟨nu, hu⟩ : ∃ nu, u.length = nu := ⟨_, rfl⟩
    rw [hn, hu]
    have HM := Lib.hid (fun (W : World) (h : w1.Since w1.heap.size W) => hit.matR.since h)
    have HMU := Lib.hid (fun (W : World) (h : w1.Since w1.heap.size W) => MatR.since git h)
    have HS1 := Lib.hid hs1
    obtain ⟨ok, hok⟩ : ∃ ok, sameOk l u = ok := ⟨_, rfl⟩
    have E1 := implTableSame_any a1 a6 c1 c6 nn nu l u w1 hn hu hsz hszu hit.matR git
    have E2 := fun (W : World) (h : w1.Since w1.heap.size W) => specTableSame_any a1 a6 c1 c6 nn nu l u W hn hu hsz hszu (HM.out W h) (HMU.out W h)
    rw [hok] at E1
    simp only [hok] at E2
    have hall : ok = true → nu = nn ∧ tabIn l = true ∧ (∀ (W : World), w1.Since w1.heap.size W → Calls Try.prog 15 #[.slice a6 nn c6] W (SpecW W (tabIn l) (rkR l (2 ^ (l.getD 0 []).length) (2 ^ nn) : Nat))) ∧
        (∀ (W : World), w1.Since w1.heap.size W → Calls Try.prog 13 #[.slice a6 nn c6, .slice a1 nn c1] W fun e w' => e = .returned (.bool true) ∧ W.Since W.heap.size w') := fun h => by
      rw [h] at hok
      have hok2 := hok
      unfold sameOk at hok
      simp only [Bool.and_eq_true, decide_eq_true_eq] at hok
      obtain ⟨k1, _, k3⟩ := hok
      subst k3
      have e : nu = nn := by rw [← hn, ← hu]
      refine ⟨e, k1, fun W hW => implValueRank_any a6 c6 nn l W hn hsz (HMU.out W hW), fun W hW => ?_⟩
      have := implTableSame_any a6 a1 c6 c1 nn nn l l W hn hn hsz hsz (HMU.out W hW) (HM.out W hW)
      rw [hok2] at this
      exact this
    have E3 := fun (W : World) (h : w1.Since w1.heap.size W) => implValueRank_any a1 c1 nn l W hn hsz (HM.out W h)
    replace E1 := Lib.hid E1
    replace E2 := Lib.hid E2
    clear hn hu hsz hszu hit hs1 h1 h5 hlens hok g4 glens git
    go_wp2_with fail
    refine (E1.out).mono ?_
    rintro e w2 ⟨rfl, hs2⟩
    have HS2 := Lib.hid hs2
    clear hs2
    go_wp2_with fail
    refine (E2.out w2 HS2.out).mono ?_
    rintro e w3 ⟨rfl, hs3⟩
    have HS3 := Lib.hid (HS2.out.trans (since_mono hs3 HS2.out.size))
    clear hs3
    cases ok with
    | false =>
      clear hall
      go_wp2
      go_ret
      exact ⟨rfl, HS1.out.trans (since_mono HS3.out HS1.out.size)⟩
    | true =>
      obtain ⟨rfl, k1, E4, E5⟩ := hall rfl
      unfold SpecW at E3 E4
      simp only [k1, if_true] at E3 E4
      generalize rkR l (2 ^ (l.getD 0 []).length) (2 ^ nu) = r at E3 E4
      replace E3 := Lib.hid E3
      replace E4 := Lib.hid E4
      replace E5 := Lib.hid E5
      clear k1 hall
      go_wp2_with fail
      refine (E3.out w3 HS3.out).mono ?_
      rintro e w4 ⟨rfl, hs4⟩
      have HS4 := Lib.hid (HS3.out.trans (since_mono hs4 HS3.out.size))
      clear hs4
      go_wp2_with fail
      refine (E4.out w4 HS4.out).mono ?_
      rintro e w5 ⟨rfl, hs5⟩
      have HS5 := Lib.hid (HS4.out.trans (since_mono hs5 HS4.out.size))
      clear hs5
      go_wp2_with fail
      refine (E5.out w5 HS5.out).mono ?_
      rintro e w6 ⟨rfl, hs6⟩
      have HS6 := Lib.hid (HS5.out.trans (since_mono hs6 HS5.out.size))
      clear hs6
      go_wp2
      go_ret
      exact ⟨rfl, HS1.out.trans (since_mono HS6.out HS1.out.size)⟩

end Go.Proofs.Ythdemjfllfhhpaa
end

section
namespace Go.Proofs.Ythdemjfllfhhpaa
open Go.ChangeShapes Go.WideShapes Go.ChangeAt Go.RowKit Go.Deep

theorem below_since' {B : Nat} {w w' : World} (h : Below B w w') : w.Since B w' := ⟨h.os, h.tape, h.output, h.size, h.block⟩
theorem since_below' {B : Nat} {w w' : World} (h : w.Since B w') : Below B w w' := ⟨h.os, h.tape, h.output, h.size, h.block⟩

section
variable {H : Type} {enc : TypeId × Value → H} {P : Program}
theorem post_of_below {f : Func} {s : ChangeSpec} {apart fresh handsOn again : Bool} {W W' : World} {args : Array Value} {v : Value} {ds gs : List (DataW H)} {before pa pv : List MemPlace}
    (hW : DataW.Whole enc P f.params.toList s.vars apart W args.toList ds gs before)
    (hres : ∀ (b : Nat) (sp : Nat → Bool) (hd : Bool), DataW.TrodAll enc P W' b sp hd f.resultTypes.toList (v.resultList f.resultTypes.size) (s.fn H (ds ++ gs)).results [])
    (hargs : ∀ sp : Nat → Bool, (∀ p ∈ before, sp p.block = true) → DataW.TrodAll enc P W' 0 sp true f.params.toList args.toList (s.fn H (ds ++ gs)).args pa)
    (hvars : ∀ sp : Nat → Bool, (∀ p ∈ before, sp p.block = true) → DataW.TrodVars enc P W' sp s.vars (s.fn H (ds ++ gs)).vars pv)
    (hps : before = pa ++ pv) (hb : Below W.heap.size W W') (hag : again = false) :
    s.post enc P f apart fresh handsOn again W args v W' := by
  have hlt : ∀ p ∈ before, p.block < W.heap.size := fun p hp => hW.lt p hp
  have hold : ∀ p ∈ before, (fun b => decide (b < W.heap.size)) p.block = true := fun p hp => by simpa using hlt p hp
  refine ⟨ds, gs, before, [], pa, pv, hW, hres _ _ _, hargs _ hold, hvars _ hold, World.keptBut_mono (fun p hp => ⟨hp, ?_⟩) (hb.frame (· ∈ before)), fun h => ?_⟩
  · rw [hps, List.mem_append] at hp
    exact Or.inr hp
  · rw [hag] at h; cases h

theorem open_mat {W : World} {t e q : TypeId} {a : Option Addr} {n cap : Nat} {d : DataW H} {p : List MemPlace} (ht : P.underlying t = some (.slice e)) (he : P.underlying e = some (.slice q)) (hq : P.underlying q = some (.int .i64))
    (ce : P.cellsOf e = 1) (cq : P.cellsOf q = 1) (h : DataW.Trod enc P W 0 (fun _ => true) true t (.slice a n cap) d p) :
    ∃ l : List (List Int), l.length = n ∧ MatR W a l ∧ n ≤ 9223372036854775807 ∧ ∀ r, r < l.length → (l.getD r []).length ≤ 9223372036854775807 := by
  obtain ⟨fuel, hf⟩ := h
  rcases open_int_rows ht he hq ce cq hf with ⟨hcs, _⟩ | ⟨a', len', cap', A, L, C, Z, hcs, _, hl, hm, _, hrows⟩
  · simp [Value.cells] at hcs
    obtain ⟨rfl, rfl, rfl⟩ := hcs
    exact ⟨[], rfl, (fun h => by simp at h), by omega, fun r hr => by simp at hr⟩
  · simp [Value.cells] at hcs
    obtain ⟨rfl, rfl, rfl⟩ := hcs
    have hmx : maxLen = 9223372036854775807 := rfl
    have hlen : ∀ r, r < n → ((Z r).take (L r)).length = L r := fun r hr => by
      obtain ⟨_, h1, _, h2, _⟩ := hrows r (by omega)
      rw [List.length_take]; omega
    have hget : ∀ r, r < n → ((List.range n).map fun r => (Z r).take (L r)).getD r [] = (Z r).take (L r) := fun r hr => by simp [List.getD, hr]
    refine ⟨(List.range n).map fun r => (Z r).take (L r), by simp, fun h => ?_, by omega, fun r hr => ?_⟩
    · obtain ⟨b, o, spot⟩ := a'
      simp at h
      have hspot : spot = none := by simpa [Addr.add] using World.cell?_spot (hrows 0 (by omega)).1
      subst hspot
      refine ⟨b, o, A, C, rfl, fun r hr => ?_⟩
      simp at hr
      rw [hget r hr, hlen r hr]
      obtain ⟨g1, g2, g3, g4, g5, g6, g7⟩ := hrows r (by omega)
      refine ⟨by rw [← add_plain]; exact g1, fun h0 => ?_⟩
      rw [hlen r hr] at h0
      cases hA : A r with
      | none => have := g6 hA; omega
      | some a'' =>
        obtain ⟨_, hcell⟩ := g7 a'' hA
        obtain ⟨b', o', sp⟩ := a''
        have hs : sp = none := by simpa [Addr.add] using World.cell?_spot (hcell 0 (by omega))
        subst hs
        refine ⟨b', o', rfl, fun i hi => ?_⟩
        rw [hlen r hr] at hi
        rw [← add_plain, hcell i (by omega)]
        congr 2
        simp [List.getD, hi]
    · simp at hr
      rw [hget r hr, hlen r hr]
      obtain ⟨_, h1, h2, _⟩ := hrows r (by omega)
      omega
end

theorem Try.own : ownKnob Try.prog.godebug = none := by kernel_rfl
theorem Try.laidOut : laidOutB Try.prog = true := by kernel_rfl
theorem Try.cellsR : Try.prog.cellsOf 37 = 1 := by kernel_rfl
theorem Try.cellsI : Try.prog.cellsOf 3 = 1 := by kernel_rfl

end Go.Proofs.Ythdemjfllfhhpaa
end

section
namespace Go.Proofs.Ythdemjfllfhhpaa
open Go.ChangeShapes Go.WideShapes Go.ChangeAt Go.RowKit Go.Deep

theorem wf_u8_of {n : Int} (h : (Lit.int .u8 n).wf = true) : 0 ≤ n ∧ n ≤ 255 := by
  have h2 : (0 : Int) ≤ n ∧ n ≤ 255 := by simpa [Lit.wf, IntKind.min, IntKind.max, IntKind.signed, IntKind.bits] using h
  exact h2

theorem open_bytes {H : Type} {enc : TypeId × Value → H} {P : Program} {W : World} {t e : TypeId} {a : Option Addr} {n cap : Nat} {d : DataW H} {p : List MemPlace} (ht : P.underlying t = some (.slice e)) (he : P.underlying e = some (.int .u8)) (ce : P.cellsOf e = 1)
    (h : DataW.Trod enc P W 0 (fun _ => true) true t (.slice a n cap) d p) : BytR W a n ∧ n ≤ cap ∧ cap ≤ 9223372036854775807 := by
  obtain ⟨fuel, hf⟩ := h
  rcases open_ints ht he ce hf with ⟨hcs, _⟩ | ⟨a', len, cap', zs, hcs, _, hl, hm, hlen, _, hcell, hwf⟩
  · simp [Value.cells] at hcs
    obtain ⟨rfl, rfl, rfl⟩ := hcs
    exact ⟨fun h => absurd h (by omega), by omega, by omega⟩
  · simp [Value.cells] at hcs
    obtain ⟨rfl, rfl, rfl⟩ := hcs
    have hmx : maxLen = 9223372036854775807 := rfl
    have hzl : zs.length = cap := by simpa using hlen
    refine ⟨fun h0 => ?_, by omega, by omega⟩
    obtain ⟨b, o, spot⟩ := a'
    have hspot : spot = none := by simpa [Addr.add] using World.cell?_spot (hcell 0 (by omega))
    subst hspot
    refine ⟨b, o, rfl, fun i hi => ?_⟩
    have hi' : i < zs.length := by omega
    have hw := wf_u8_of (hwf (zs.getD i 0) (by simp [List.getD, hi']))
    obtain ⟨z, hz⟩ := Int.eq_ofNat_of_zero_le hw.1
    refine ⟨z, by omega, ?_⟩
    rw [← add_plain, hcell i hi', hz]

theorem Try.cellsB : Try.prog.cellsOf 5 = 1 := by kernel_rfl

end Go.Proofs.Ythdemjfllfhhpaa
end
