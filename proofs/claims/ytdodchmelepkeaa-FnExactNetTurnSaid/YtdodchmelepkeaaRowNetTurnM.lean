import Derived.Test.YtdodchmelepkeaaNetU
import Derived.Laws.MakeOwn
import Derived.Laws.IdiomStrings
import Derived.Laws.Concat
import Derived.Test.YtdodchmelepkeaaNetV
import Derived.Test.YtdodchmelepkeaaChipJ
import Derived.Test.YtdodchmelepkeaaUnitImpl
import Derived.Test.YtdodchmelepkeaaNetG
import Derived.Deep.QuietTactic
import Derived.BigQuiet
import Derived.LaidEqlPtr
import Derived.Laws.AppendOwn
import Derived.Lib.SliceRun
import Derived.Test.YtdodchmelepkeaaIter
import Derived.RangeFuncFrom
import Derived.RangeFuncBox
import Derived.Test.YtdodchmelepkeaaRound
import Derived.OrdersHeld
import Derived.RangeFuncNested
import Derived.Test.YtdodchmelepkeaaNetO
import Derived.Test.YtdodchmelepkeaaRows
import Derived.Test.YtdodchmelepkeaaData
import Derived.ProofKit
import Derived.Deep.Matrix
import Derived.Deep.Slices

section
namespace Go.Proofs.Ytdodchmelepkeaa
open Go.RowKit Go.Deep

theorem lchip_box (w : World) (K : ByteArray) (L V : Int) :
    (w.alloc (.cells #[.string K, .int .i64 L, .int .i64 V] 50)).cell? ⟨w.heap.size, 0, none⟩ = some (.string K) ∧ (w.alloc (.cells #[.string K, .int .i64 L, .int .i64 V] 50)).cell? ⟨w.heap.size, 1, none⟩ = some (.int .i64 L) ∧ (w.alloc (.cells #[.string K, .int .i64 L, .int .i64 V] 50)).cell? ⟨w.heap.size, 2, none⟩ = some (.int .i64 V) := chip_box w K L V _

def SzCP (left : Int) (w : World) (e : Ending) (w' : World) : Prop := ∃ r : Int, (e = .returned (.int .i64 r) ∧ r ≤ left) ∧ w.Since w.heap.size w'

set_option maxHeartbeats 400000 in
theorem szChip_any (K : ByteArray) (L V left : Int) (w : World) (hl : 0 ≤ left ∧ left ≤ 1048576) (hK : K.size ≤ 9223372036854775807) :
    Calls Try.prog 43 #[.agg #[.string K, .int .i64 L, .int .i64 V], .int .i64 left] w (SzCP left w) := by
  obtain ⟨d1, d2, d3⟩ := lchip_box w K L V
  have HS := Lib.hid ((World.Since.refl w.heap.size w).alloc (Nat.le_refl _) (.cells #[.string K, .int .i64 L, .int .i64 V] 50))
  obtain ⟨s, hs⟩ : ∃ s, K.size = s := ⟨_, rfl⟩
  have hw : IntKind.i64.wrap (left - (s : Int)) = left - (s : Int) := IntWalk.i64_in _ ⟨by omega, by omega⟩
  rw [hs] at hK
  by_cases hn : left - (s : Int) < 0
  · have hb : decide (left - (s : Int) < 0) = true := by simpa using hn
    go_enter Try.func43, Try.ntmps43
    go_wp2
    go_ret
    exact ⟨-1, ⟨rfl, by omega⟩, HS.out⟩
  · have hb : decide (left - (s : Int) < 0) = false := by simpa using hn
    go_enter Try.func43, Try.ntmps43
    go_wp2
    go_ret
    exact ⟨left - (s : Int), ⟨rfl, by omega⟩, HS.out⟩

set_option maxHeartbeats 400000 in
theorem toChip_any (K : ByteArray) (L V : Int) (w : World) :
    Calls Try.prog 45 #[.agg #[.string K, .int .i64 L, .int .i64 V]] w fun e w' => e = .returned (.agg #[.string K, .int .i64 L, .int .i64 V]) ∧ w.Since w.heap.size w' := by
  obtain ⟨d1, d2, d3⟩ := lchip_box w K L V
  go_enter Try.func45, Try.ntmps45
  go_wp2
  exact bodyPost_ret (v := .agg #[.string K, .int .i64 L, .int .i64 V]) (by simp [results, Try.f45, go_sem]) rfl ⟨rfl, (((World.Since.refl w.heap.size w).alloc (Nat.le_refl _) _).alloc (by simp) _).alloc (by simp; omega) _⟩

set_option maxHeartbeats 400000 in
theorem eqChip_same (K : ByteArray) (L V : Int) (w : World) :
    Calls Try.prog 50 #[.agg #[.string K, .int .i64 L, .int .i64 V], .agg #[.string K, .int .i64 L, .int .i64 V]] w fun e w' => e = .returned (.bool true) ∧ w.Since w.heap.size w' := by
  obtain ⟨d1, d2, d3⟩ := chip_box w K L V 52
  obtain ⟨e1, e2, e3⟩ := chip_box (w.alloc (.cells #[.string K, .int .i64 L, .int .i64 V] 52)) K L V 52
  rw [World.size_alloc] at e1 e2 e3
  have f1 := cell_alloc_l (.cells #[.string K, .int .i64 L, .int .i64 V] 52) d1
  have f2 := cell_alloc_l (.cells #[.string K, .int .i64 L, .int .i64 V] 52) d2
  have f3 := cell_alloc_l (.cells #[.string K, .int .i64 L, .int .i64 V] 52) d3
  go_enter Try.func50, Try.ntmps50
  go_wp2
  go_ret
  exact ⟨rfl, ((World.Since.refl w.heap.size w).alloc (Nat.le_refl _) _).alloc (by simp) _⟩

def SzCsP (left : Int) (N : Nat) (w : World) (e : Ending) (w' : World) : Prop := ∃ r : Int, (e = .returned (.int .i64 r) ∧ r ≤ left ∧ (0 ≤ r → (N : Int) ≤ left)) ∧ w.Since w.heap.size w'
def ShortL (cs : List RC) : Prop := ∀ i, i < cs.length → (cs.getD i rc0).k.size ≤ 9223372036854775807

set_option maxRecDepth 100000 in
set_option maxHeartbeats 400000 in
theorem szChipS_any (a : Option Addr) (cap N : Nat) (left : Int) (cs : List RC) (w : World) (hN : cs.length = N) (h63 : N ≤ 9223372036854775807) (hl : 0 ≤ left ∧ left ≤ 1048576) (hsh : ShortL cs) (hm : ChipsR w a cs) :
    Calls Try.prog 13 #[.slice a N cap, .int .i64 left] w (SzCsP left N w) := by
  have hw : IntKind.i64.wrap (left - (N : Int)) = left - (N : Int) := IntWalk.i64_in _ ⟨by omega, by omega⟩
  have HN := Lib.hid hN
  have HM := Lib.hid hm
  have HSH := Lib.hid hsh
  clear hN hm hsh
  by_cases hn : left - (N : Int) < 0
  · have hb : decide (left - (N : Int) < 0) = true := by simpa using hn
    go_enter Try.func13, Try.ntmps13
    go_wp2
    go_ret
    exact ⟨-1, ⟨rfl, by omega, fun h => by omega⟩, World.Since.refl _ _⟩
  · have hb : decide (left - (N : Int) < 0) = false := by simpa using hn
    go_enter Try.func13, Try.ntmps13
    go_wp2
    clear hb
    go_loopg [1, 5] N (fun g l i wr => ∃ (r : Nat) (x : Int), r ≤ N ∧ g = N - r ∧ i = .int .i64 r ∧ l = .int .i64 x ∧ 0 ≤ x ∧ x ≤ left ∧ w.Since w.heap.size wr)
    case atStart => exact ⟨0, _, Nat.zero_le _, rfl, rfl, rfl, by omega, by omega, World.Since.refl _ _⟩
    case round =>
      obtain ⟨r, x, hr, rfl, rfl, rfl, hx0, hx1, hS⟩ := hrel
      by_cases hlt : r < N
      · obtain ⟨b, o, rfl, k1, k2, k3⟩ := HM.out.at (show r < cs.length by rw [HN.out]; exact hlt)
        have c1 := (hS.cell (World.block_lt_of_cell? _ _ k1)).trans k1
        have c2 := (hS.cell (World.block_lt_of_cell? _ _ k2)).trans k2
        have c3 := (hS.cell (World.block_lt_of_cell? _ _ k3)).trans k3
        have hsz := HSH.out r (by rw [HN.out]; exact hlt)
        obtain ⟨c, hc⟩ : ∃ c, cs.getD r rc0 = c := ⟨_, rfl⟩
        rw [hc] at c1 c2 c3 hsz
        obtain ⟨K, L, V⟩ := c
        simp only at c1 c2 c3 hsz
        have E := Lib.hid (szChip_any K L V x wr ⟨hx0, by omega⟩ hsz)
        have HS := Lib.hid hS
        clear k1 k2 k3 hc hsz hS
        go_wp2_with fail
        refine (E.out).mono ?_
        rintro e w1 ⟨y, ⟨rfl, hy⟩, hs1⟩
        have HS1 := Lib.hid (HS.out.trans (since_mono hs1 HS.out.size))
        clear hs1
        by_cases hy0 : y < 0
        · have hb : decide (y < 0) = true := by simpa using hy0
          go_wp2_with fail
          go_ret
          exact ⟨-1, ⟨rfl, by omega, fun h => by omega⟩, HS1.out⟩
        · have hb : decide (y < 0) = false := by simpa using hy0
          go_wp2_with fail
          go_roundg (N - (r + 1))
          case measure => omega
          case rel => exact ⟨r + 1, y, by omega, rfl, by go_num, rfl, by omega, by omega, HS1.out⟩
      · obtain rfl : r = N := by omega
        have HS := Lib.hid hS
        clear hS
        go_wp2_with fail
        go_ret
        exact ⟨x, ⟨rfl, hx1, fun _ => by omega⟩, HS.out⟩

set_option maxRecDepth 100000 in
set_option maxHeartbeats 1000000 in
theorem eqChipS_same (a a2 : Option Addr) (cap cap2 N : Nat) (cs : List RC) (w : World) (hN : cs.length = N) (h63 : N ≤ 9223372036854775807) (hm : ChipsR w a cs) (hm2 : ChipsR w a2 cs) :
    Calls Try.prog 17 #[.slice a N cap, .slice a2 N cap2] w fun e w' => e = .returned (.bool true) ∧ w.Since w.heap.size w' := by
  have HN := Lib.hid hN
  have HM := Lib.hid hm
  have HM2 := Lib.hid hm2
  clear hN hm hm2
  go_enter Try.func17, Try.ntmps17
  go_wp2
  go_loopg [5] N (fun g i wr => ∃ r : Nat, r ≤ N ∧ g = N - r ∧ i = .int .i64 r ∧ w.Since w.heap.size wr)
  case atStart => exact ⟨0, Nat.zero_le _, rfl, rfl, World.Since.refl _ _⟩
  case round =>
    obtain ⟨r, hr, rfl, rfl, hS⟩ := hrel
    by_cases hlt : r < N
    · obtain ⟨b, o, rfl, k1, k2, k3⟩ := HM.out.at (show r < cs.length by rw [HN.out]; exact hlt)
      obtain ⟨b2, o2, rfl, m1, m2, m3⟩ := HM2.out.at (show r < cs.length by rw [HN.out]; exact hlt)
      have c1 := (hS.cell (World.block_lt_of_cell? _ _ k1)).trans k1
      have c2 := (hS.cell (World.block_lt_of_cell? _ _ k2)).trans k2
      have c3 := (hS.cell (World.block_lt_of_cell? _ _ k3)).trans k3
      have e1 := (hS.cell (World.block_lt_of_cell? _ _ m1)).trans m1
      have e2 := (hS.cell (World.block_lt_of_cell? _ _ m2)).trans m2
      have e3 := (hS.cell (World.block_lt_of_cell? _ _ m3)).trans m3
      obtain ⟨c, hc⟩ : ∃ c, cs.getD r rc0 = c := ⟨_, rfl⟩
      rw [hc] at c1 c2 c3 e1 e2 e3
      obtain ⟨K, L, V⟩ := c
      simp only at c1 c2 c3 e1 e2 e3
      have E := Lib.hid (fun (W : World) => eqChip_same K L V W)
      have HS := Lib.hid hS
      clear k1 k2 k3 m1 m2 m3 hc hS
      go_wp2_with fail
      go_region_held3 (fun W' => (W'.cell? ⟨b, o + r * 3, none⟩ = some (.string K) ∧ W'.cell? ⟨b, o + r * 3 + 1, none⟩ = some (.int .i64 L) ∧ W'.cell? ⟨b, o + r * 3 + 2, none⟩ = some (.int .i64 V)) ∧ W'.cell? ⟨b2, o2 + r * 3, none⟩ = some (.string K) ∧ W'.cell? ⟨b2, o2 + r * 3 + 1, none⟩ = some (.int .i64 L) ∧ W'.cell? ⟨b2, o2 + r * 3 + 2, none⟩ = some (.int .i64 V))
        (first | exact ⟨⟨c1, c2, c3⟩, e1, e2, e3⟩ | exact g9)
        (first | (go_at_call 50; refine (E.out _).mono ?_; rintro e w1 ⟨rfl, hs1⟩; have g9 : (w1.cell? ⟨b, o + r * 3, none⟩ = some (.string K) ∧ w1.cell? ⟨b, o + r * 3 + 1, none⟩ = some (.int .i64 L) ∧ w1.cell? ⟨b, o + r * 3 + 2, none⟩ = some (.int .i64 V)) ∧ w1.cell? ⟨b2, o2 + r * 3, none⟩ = some (.string K) ∧ w1.cell? ⟨b2, o2 + r * 3 + 1, none⟩ = some (.int .i64 L) ∧ w1.cell? ⟨b2, o2 + r * 3 + 2, none⟩ = some (.int .i64 V) := ⟨⟨(hs1.cell (World.block_lt_of_cell? wr _ c1)).trans c1, (hs1.cell (World.block_lt_of_cell? wr _ c2)).trans c2, (hs1.cell (World.block_lt_of_cell? wr _ c3)).trans c3⟩, (hs1.cell (World.block_lt_of_cell? wr _ e1)).trans e1, (hs1.cell (World.block_lt_of_cell? wr _ e2)).trans e2, (hs1.cell (World.block_lt_of_cell? wr _ e3)).trans e3⟩; have HS1 := Lib.hid (HS.out.trans (since_mono (since_of_drew hs1) HS.out.size)); clear hs1))
      all_goals
        clear g9
        go_wp2_with fail
        go_roundg (N - (r + 1))
        case measure => omega
        case rel => exact ⟨r + 1, by omega, rfl, by go_num, HS1.out⟩
    · obtain rfl : r = N := by omega
      have HS := Lib.hid hS
      clear hS
      go_wp2_with fail
      go_ret
      exact ⟨rfl, HS.out⟩

structure MC (w wr : World) (N : Nat) (cs : List RC) (r : Nat) : Prop where
  since : w.Since w.heap.size wr
  blk : ∃ cur, wr.heap[w.heap.size]? = some (.cells cur 52 (0, 0)) ∧ cur.size = N * 3 ∧ ∀ j, j < r → cur[j * 3]? = some (.string (cs.getD j rc0).k) ∧ cur[j * 3 + 1]? = some (.int .i64 (cs.getD j rc0).l) ∧ cur[j * 3 + 2]? = some (.int .i64 (cs.getD j rc0).w)
theorem mc_start (w : World) (N : Nat) (cs : List RC) (z : Array Value) : MC w (w.alloc (.cells (madeCells z (N * 3)) 52)) N cs 0 :=
  ⟨(World.Since.refl _ _).alloc (Nat.le_refl _) _, _, World.alloc_heap_new w _, by rw [size_madeCells], fun j hj => by omega⟩
theorem MC.later {w wr w1 : World} {N r : Nat} {cs : List RC} (h : MC w wr N cs r) (hs : wr.Since wr.heap.size w1) : MC w w1 N cs r := by
  obtain ⟨cur, h1, h2, h3⟩ := h.blk
  exact ⟨h.since.trans (since_mono hs h.since.size), cur, (hs.block _ (Array.getElem?_eq_some_iff.1 h1).1).trans h1, h2, h3⟩
theorem heap_set {W : World} {g j : Nat} {v : Value} {cur : Array Value} {T : TypeId} (h : W.heap[g]? = some (.cells cur T (0, 0))) : (W.setCell ⟨g, j, none⟩ v).heap[g]? = some (.cells (cur.setIfInBounds j v) T (0, 0)) := by
  obtain ⟨hlt, hk⟩ := Array.getElem?_eq_some_iff.1 h
  show (W.heap.modify g _)[g]? = _
  rw [Array.getElem?_eq_getElem (by rw [Array.size_modify]; exact hlt), Array.getElem_modify_self, hk]
  rfl
theorem MC.step {w wr : World} {N r : Nat} {cs : List RC} (h : MC w wr N cs r) (hr : r < N) : MC w (((wr.setCell ⟨w.heap.size, r * 3, none⟩ (.string (cs.getD r rc0).k)).setCell ⟨w.heap.size, r * 3 + 1, none⟩ (.int .i64 (cs.getD r rc0).l)).setCell ⟨w.heap.size, r * 3 + 2, none⟩ (.int .i64 (cs.getD r rc0).w)) N cs (r + 1) := by
  obtain ⟨cur, h1, h2, h3⟩ := h.blk
  refine ⟨((h.since.setCell (Nat.le_refl _) _).setCell (Nat.le_refl _) _).setCell (Nat.le_refl _) _, _, heap_set (heap_set (heap_set h1)), by simp [h2], fun j hj => ?_⟩
  have hz : r * 3 + 2 < cur.size := by omega
  by_cases e : j = r
  · subst e
    refine ⟨?_, ?_, ?_⟩ <;> simp [Array.getElem?_setIfInBounds, hz] <;> omega
  · obtain ⟨k1, k2, k3⟩ := h3 j (by omega)
    refine ⟨?_, ?_, ?_⟩
    · rw [Array.getElem?_setIfInBounds_ne (by omega), Array.getElem?_setIfInBounds_ne (by omega), Array.getElem?_setIfInBounds_ne (by omega)]; exact k1
    · rw [Array.getElem?_setIfInBounds_ne (by omega), Array.getElem?_setIfInBounds_ne (by omega), Array.getElem?_setIfInBounds_ne (by omega)]; exact k2
    · rw [Array.getElem?_setIfInBounds_ne (by omega), Array.getElem?_setIfInBounds_ne (by omega), Array.getElem?_setIfInBounds_ne (by omega)]; exact k3
theorem MC.cells {w wr : World} {N r : Nat} {cs : List RC} (h : MC w wr N cs r) {j : Nat} (hj : j < N * 3) : (∃ v, wr.cell? ⟨w.heap.size, j, none⟩ = some v) ∧ wr.frozen? ⟨w.heap.size, j, none⟩ = false := by
  obtain ⟨cur, h1, h2, h3⟩ := h.blk
  refine ⟨⟨cur[j]'(by omega), ?_⟩, by simp [World.frozen?, h1]⟩
  simp only [World.cell?, h1]
  exact Array.getElem?_eq_getElem (by omega)
theorem MC.ownC {w wr : World} {N : Nat} {cs : List RC} (h : MC w wr N cs N) (hN : cs.length = N) : OwnC w.heap.size wr.heap.size wr (some ⟨w.heap.size, 0, none⟩) cs := fun _ => by
  obtain ⟨cur, h1, h2, h3⟩ := h.blk
  refine ⟨w.heap.size, rfl, ⟨Nat.le_refl _, (Array.getElem?_eq_some_iff.1 h1).1⟩, fun i hi => ?_⟩
  obtain ⟨k1, k2, k3⟩ := h3 i (by omega)
  have hf : ∀ j, wr.frozen? ⟨w.heap.size, j, none⟩ = false := fun j => by simp [World.frozen?, h1]
  refine ⟨⟨?_, ?_, ?_⟩, hf _, hf _, hf _⟩ <;> (simp only [World.cell?, h1]; assumption)

set_option maxRecDepth 100000 in
set_option maxHeartbeats 400000 in
theorem toChipS_any (a : Option Addr) (cap N : Nat) (cs : List RC) (w : World) (hN : cs.length = N) (hn : N ≤ 1048576) (hm : ChipsR w a cs) :
    Calls Try.prog 15 #[.slice a N cap] w fun e w' => e = .returned (.slice (some ⟨w.heap.size, 0, none⟩) N N) ∧ w.Since w.heap.size w' ∧ OwnC w.heap.size w'.heap.size w' (some ⟨w.heap.size, 0, none⟩) cs := by
  obtain ⟨iC, hiC⟩ := infoChip_parts
  have hmk := run_makeSlice (P := Try.prog) w 25 52 iC (.agg #[.string ⟨#[]⟩, .int .i64 0, .int .i64 0]) Try.underlying25 hiC.1 hiC.2.1 .i64 .i64 (N : Int) (N : Int) (by omega) (by omega) (by rw [hiC.2.2.1]; omega) (by rw [hiC.2.2.2]; omega) (by omega)
  rw [Int.toNat_natCast, hiC.2.2.1] at hmk
  have hst := mc_start w N cs (Value.agg #[.string ⟨#[]⟩, .int .i64 0, .int .i64 0]).cells
  have HST := Lib.hid hst
  have HN := Lib.hid hN
  have HM := Lib.hid hm
  clear hN hm hiC hst
  go_enter Try.func15, Try.ntmps15
  go_wp2
  clear hmk
  go_loopg [4] N (fun g i wr => ∃ r : Nat, r ≤ N ∧ g = N - r ∧ i = .int .i64 r ∧ MC w wr N cs r)
  case atStart => exact ⟨0, Nat.zero_le _, rfl, rfl, HST.out⟩
  case round =>
    obtain ⟨r, hr, rfl, rfl, hC⟩ := hrel
    clear HST
    by_cases hlt : r < N
    · obtain ⟨b, o, rfl, k1, k2, k3⟩ := HM.out.at (show r < cs.length by rw [HN.out]; exact hlt)
      have hS := hC.since
      have c1 := (hS.cell (World.block_lt_of_cell? _ _ k1)).trans k1
      have c2 := (hS.cell (World.block_lt_of_cell? _ _ k2)).trans k2
      have c3 := (hS.cell (World.block_lt_of_cell? _ _ k3)).trans k3
      have hstep := fun (W : World) (h : MC w W N cs r) => h.step hlt
      obtain ⟨c, hc⟩ : ∃ c, cs.getD r rc0 = c := ⟨_, rfl⟩
      rw [hc] at c1 c2 c3
      simp only [hc] at hstep
      obtain ⟨K, L, V⟩ := c
      simp only at c1 c2 c3 hstep
      have E := Lib.hid (toChip_any K L V wr)
      have HC := Lib.hid hC
      have HSTEP := Lib.hid hstep
      clear k1 k2 k3 hc hS hC hstep
      go_wp2_with (go_at_call 45; refine (E.out).mono ?_; rintro e w1 ⟨rfl, hs1⟩; have HC1 := Lib.hid (HC.out.later hs1); obtain ⟨⟨v1, m1⟩, f1⟩ := HC1.out.cells (show r * 3 < N * 3 by omega); obtain ⟨⟨v2, m2⟩, f2⟩ := HC1.out.cells (show r * 3 + 1 < N * 3 by omega); obtain ⟨⟨v3, m3⟩, f3⟩ := HC1.out.cells (show r * 3 + 2 < N * 3 by omega); clear hs1)
      go_roundg (N - (r + 1))
      case measure => omega
      case rel => exact ⟨r + 1, by omega, rfl, by go_num, HSTEP.out _ HC1.out⟩
    · obtain rfl : r = N := by omega
      have HO := Lib.hid (And.intro hC.since (hC.ownC HN.out))
      clear hC
      go_wp2_with fail
      go_ret
      exact ⟨rfl, HO.out.1, HO.out.2⟩

end Go.Proofs.Ytdodchmelepkeaa
end

section
namespace Go.Proofs.Ytdodchmelepkeaa
open Go.RowKit Go.Deep

def digX (k : Nat) : UInt8 := UInt8.ofNat (48 + k % 10)
def goX : Nat → Nat → ByteArray → ByteArray
  | 0, _, out => out
  | f + 1, k, out => if k = 0 then out else goX f (k / 10) (⟨#[digX k]⟩ ++ out)
theorem goX_zero (f : Nat) (out : ByteArray) : goX f 0 out = out := by cases f <;> simp [goX]
theorem goX_step {f k : Nat} (out : ByteArray) (hk : 0 < k) : goX (f + 1) k out = goX f (k / 10) (⟨#[digX k]⟩ ++ out) := by
  show (if k = 0 then _ else _) = _
  rw [if_neg (by omega)]
def tenP : Nat → Nat
  | 0 => 1
  | f + 1 => 10 * tenP f
theorem tenP_le {f : Nat} (h : f ≤ 7) : tenP f ≤ 10000000 := by
  have : ∀ j : Fin 8, tenP j.val ≤ 10000000 := by decide
  exact this ⟨f, by omega⟩
def txtX (k : Nat) : ByteArray := ⟨#[109]⟩ ++ goX 7 k ByteArray.empty

theorem digX_val (k : Nat) : ((digX k).toNat : Int) = 48 + (k : Int) % 10 := by
  unfold digX
  rw [UInt8.toNat_ofNat']
  have : (48 + k % 10) % 2 ^ 8 = 48 + k % 10 := Nat.mod_eq_of_lt (by omega)
  rw [this]
  omega

set_option maxRecDepth 100000 in
set_option maxHeartbeats 400000 in
theorem markText_any (k : Nat) (w : World) (h0 : 0 < k) (hk : k < 10000000) :
    Calls Try.prog 61 #[.int .i64 k] w fun e w' => e = .returned (.string (txtX k)) ∧ w.Since w.heap.size w' := by
  unfold txtX
  obtain ⟨R, hR⟩ : ∃ R, goX 7 k ByteArray.empty = R := ⟨_, rfl⟩
  rw [hR]
  go_enter Try.func61, Try.ntmps61
  go_wp2_with fail
  go_loopg [0, 3] 8 (fun g q i wr => ∃ (f j : Nat) (out : ByteArray), g = f + 1 ∧ f ≤ 7 ∧ j < tenP f ∧ q = .int .i64 j ∧ i = .string out ∧ out.size + f ≤ 7 ∧ goX f j out = R ∧ w.Since w.heap.size wr)
  case atStart => exact ⟨7, k, ByteArray.empty, rfl, by omega, by simp [tenP]; omega, rfl, rfl, by simp, hR, World.Since.refl _ _⟩
  case round =>
    obtain ⟨f, j, out, rfl, hf, hj, rfl, rfl, hs, hg, hS⟩ := hrel
    by_cases hj0 : j = 0
    · subst hj0
      rw [goX_zero] at hg
      subst hg
      have hadd := run_string_add_sum (P := Try.prog) (w := wr) ⟨#[109]⟩ out (by have : (⟨#[109]⟩ : ByteArray).size = 1 := rfl; omega)
      go_wp2_with fail
      go_ret
      exact ⟨rfl, hS⟩
    · obtain ⟨f, rfl⟩ : ∃ f', f = f' + 1 := ⟨f - 1, by
        cases f with
        | zero => simp [tenP] at hj; omega
        | succ n => omega⟩
      rw [goX_step out (by omega)] at hg
      have hj7 : tenP (f + 1) = 10 * tenP f := rfl
      have hd := digX_val j
      have HS := Lib.hid hS
      clear hR hS
      have hcv := run_convert_bytes_back (P := Try.prog) (wr.alloc (.cells #[.int .u8 (48 + (j : Int) % 10)] 5)) 96 9 5 ⟨wr.heap.size, 0, none⟩ 1 [digX j] Try.underlying96 Try.underlying5 Try.underlying9 (fun i hi => by
        obtain rfl : i = 0 := by simp at hi; omega
        show (wr.alloc _).cell? ⟨wr.heap.size, 0, none⟩ = _
        rw [World.cell?_alloc_new]
        show some (Value.int .u8 (48 + (j : Int) % 10)) = some (.int .u8 ((digX j).toNat : Int))
        rw [hd])
      have hcv2 : Sem.run Try.prog (convert 96 9 (.slice (some ⟨wr.heap.size, 0, none⟩) 1 1)) (wr.alloc (.cells #[.int .u8 (48 + (j : Int) % 10)] 5)) = .ok (.string ⟨#[digX j]⟩) (wr.alloc (.cells #[.int .u8 (48 + (j : Int) % 10)] 5)) := hcv
      have hadd := fun W => run_string_add_sum (P := Try.prog) (w := W) ⟨#[digX j]⟩ out (by have : (⟨#[digX j]⟩ : ByteArray).size = 1 := rfl; omega)
      have hten := tenP_le (show f + 1 ≤ 7 by omega)
      have hwd : wrap64 ((j : Int) / 10) = (j : Int) / 10 := IntWalk.wrap64_in _ ⟨by omega, by omega⟩
      clear hcv hd hten
      go_wp2_with fail
      go_roundg (f + 1)
      case measure => omega
      case rel => exact ⟨f, j / 10, ⟨#[digX j]⟩ ++ out, rfl, by omega, by omega, by simp [hwd], rfl, by rw [ByteArray.size_append]; have : (⟨#[digX j]⟩ : ByteArray).size = 1 := rfl; omega, hg, HS.out.alloc (by simpa using HS.out.size) _⟩

def markC (k : Nat) (r : Nat) : RC := ⟨txtX (k + 3 * r), (k + 3 * r + 1 : Nat), (k + 3 * r + 2 : Nat)⟩
def mixC (k : Nat) (cs : List RC) (r : Nat) : List RC := (List.range cs.length).map fun i => if i < r then markC k i else cs.getD i rc0
theorem mixC_len (k : Nat) (cs : List RC) (r : Nat) : (mixC k cs r).length = cs.length := by simp [mixC]
theorem mixC_get {k : Nat} {cs : List RC} {r i : Nat} (h : i < cs.length) : (mixC k cs r).getD i rc0 = if i < r then markC k i else cs.getD i rc0 := by simp [mixC, List.getD, h]
theorem mixC_zero (k : Nat) (cs : List RC) : mixC k cs 0 = cs := by
  refine List.ext_getElem (mixC_len _ _ _) fun i h1 h2 => ?_
  simp [mixC, List.getD, h2]

theorem frame_set {lo hi : Nat} (w : World) (p : Addr) (v : Value) (h : lo ≤ p.block ∧ p.block < hi) : Frame lo hi w (w.setCell p v) :=
  ⟨rfl, rfl, rfl, by simp, fun k _ ho => blk_setCell_other w p v k (by omega)⟩
theorem OwnC.at {lo hi : Nat} {w : World} {a : Option Addr} {cs : List RC} (h : OwnC lo hi w a cs) {r : Nat} (hr : r < cs.length) : ∃ g, a = some ⟨g, 0, none⟩ ∧ (lo ≤ g ∧ g < hi) ∧ w.cell? ⟨g, r * 3, none⟩ = some (.string (cs.getD r rc0).k) ∧ w.cell? ⟨g, r * 3 + 1, none⟩ = some (.int .i64 (cs.getD r rc0).l) ∧ w.cell? ⟨g, r * 3 + 2, none⟩ = some (.int .i64 (cs.getD r rc0).w) ∧
    w.frozen? ⟨g, r * 3, none⟩ = false ∧ w.frozen? ⟨g, r * 3 + 1, none⟩ = false ∧ w.frozen? ⟨g, r * 3 + 2, none⟩ = false := by
  obtain ⟨g, e, hg, hc⟩ := h (by omega)
  obtain ⟨⟨c1, c2, c3⟩, f1, f2, f3⟩ := hc r hr
  exact ⟨g, e, hg, c1, c2, c3, f1, f2, f3⟩

theorem OwnC.mark {lo hi : Nat} {w : World} {g k : Nat} {cs : List RC} {r : Nat} (h : OwnC lo hi w (some ⟨g, 0, none⟩) (mixC k cs r)) (hr : r < cs.length) :
    OwnC lo hi (((w.setCell ⟨g, r * 3, none⟩ (.string (txtX (k + 3 * r)))).setCell ⟨g, r * 3 + 1, none⟩ (.int .i64 (k + 3 * r + 1 : Nat))).setCell ⟨g, r * 3 + 2, none⟩ (.int .i64 (k + 3 * r + 2 : Nat))) (some ⟨g, 0, none⟩) (mixC k cs (r + 1)) := by
  obtain ⟨g', e, hg, hc⟩ := h (by rw [mixC_len]; omega)
  injection e with e; injection e with e
  subst e
  rw [mixC_len] at hc
  intro _
  refine ⟨g, rfl, hg, fun i hi => ?_⟩
  rw [mixC_len] at hi
  obtain ⟨⟨k1, k2, k3⟩, m1, m2, m3⟩ := hc i hi
  obtain ⟨⟨c1, c2, c3⟩, -, -, -⟩ := hc r hr
  rw [mixC_get hi] at k1 k2 k3 ⊢
  have hne : ∀ (W : World) (q s : Nat) (v : Value), q ≠ s → (W.setCell ⟨g, s, none⟩ v).cell? ⟨g, q, none⟩ = W.cell? ⟨g, q, none⟩ := fun W q s v hq => World.cell?_setCell_other _ _ _ _ (fun e => hq (by injection e with _ e2; exact e2.symm))
  have hsm : ∀ (W : World) (q : Nat) (v : Value), (W.cell? ⟨g, q, none⟩).isSome = true → (W.setCell ⟨g, q, none⟩ v).cell? ⟨g, q, none⟩ = some v := fun W q v hq => World.cell?_setCell_same' _ _ _ hq
  refine ⟨⟨?_, ?_, ?_⟩, by simp only [World.frozen?_setCell]; exact m1, by simp only [World.frozen?_setCell]; exact m2, by simp only [World.frozen?_setCell]; exact m3⟩
  · rw [hne _ _ _ _ (by omega), hne _ _ _ _ (by omega)]
    by_cases e : i = r
    · subst e
      rw [hsm _ _ _ (by rw [c1]; rfl), if_pos (by omega)]
      rfl
    · rw [hne _ _ _ _ (by omega), k1]
      split <;> split <;> first | rfl | omega
  · rw [hne _ _ _ _ (by omega)]
    by_cases e : i = r
    · subst e
      rw [hsm _ _ _ (by rw [hne _ _ _ _ (by omega), c2]; rfl), if_pos (by omega)]
      rfl
    · rw [hne _ _ _ _ (by omega), hne _ _ _ _ (by omega), k2]
      split <;> split <;> first | rfl | omega
  · by_cases e : i = r
    · subst e
      rw [hsm _ _ _ (by rw [hne _ _ _ _ (by omega), hne _ _ _ _ (by omega), c3]; rfl), if_pos (by omega)]
      rfl
    · rw [hne _ _ _ _ (by omega), hne _ _ _ _ (by omega), hne _ _ _ _ (by omega), k3]
      split <;> split <;> first | rfl | omega

set_option maxRecDepth 100000 in
set_option maxHeartbeats 400000 in
theorem markChipS_any (a : Option Addr) (lo hi cap N k : Nat) (cs : List RC) (w : World) (hN : cs.length = N) (h20 : N ≤ 1048576) (h0 : 0 < k) (hk : k ≤ 4000000) (hO : OwnC lo hi w a cs) :
    Calls Try.prog 21 #[.slice a N cap, .int .i64 k] w fun e w' => e = .returned (.int .i64 (k + 3 * N : Nat)) ∧ OwnC lo hi w' a (mixC k cs N) ∧ Frame lo hi w w' := by
  have HN := Lib.hid hN
  have HO : Hid (OwnC lo hi w a (mixC k cs 0)) := Lib.hid (by rw [mixC_zero]; exact hO)
  clear hN hO
  go_enter Try.func21, Try.ntmps21
  go_wp2_with fail
  go_loopg [1, 5] N (fun g q i wr => ∃ r : Nat, r ≤ N ∧ g = N - r ∧ i = .int .i64 r ∧ q = .int .i64 (k + 3 * r : Nat) ∧ OwnC lo hi wr a (mixC k cs r) ∧ Frame lo hi w wr)
  case atStart => exact ⟨0, Nat.zero_le _, rfl, rfl, rfl, HO.out, Frame.refl _ _ _⟩
  case round =>
    obtain ⟨r, hr, rfl, rfl, rfl, hO, hF⟩ := hrel
    by_cases hlt : r < N
    · have hrl : r < cs.length := by rw [HN.out]; exact hlt
      obtain ⟨g, rfl, hg, -, -, -, -, -, -⟩ := hO.at (show r < (mixC k cs r).length by rw [mixC_len]; exact hrl)
      obtain ⟨p, hp⟩ : ∃ p, k + 3 * r = p := ⟨_, rfl⟩
      have hp1 : 0 < p := by omega
      have hp2 : p < 9000000 := by omega
      have hm := Lib.hid (fun (W : World) (h : OwnC lo hi W (some ⟨g, 0, none⟩) (mixC k cs r)) => h.mark hrl)
      rw [hp] at hm ⊢
      have E := Lib.hid (fun (W : World) => markText_any p W hp1 (by omega))
      have HO2 := Lib.hid hO
      have HF := Lib.hid hF
      have HG := Lib.hid hg
      have HP := Lib.hid hp
      clear hO hF HO hp hg
      go_wp2_with (go_at_call 61; refine (E.out _).mono ?_; rintro e w1 ⟨rfl, hs1⟩; have ho1 := HO2.out.since hs1; obtain ⟨g', e', -, c1, c2, c3, f1, f2, f3⟩ := ho1.at (show r < (mixC k cs r).length by rw [mixC_len]; exact hrl); injection e' with e'; injection e' with e'; subst e'; have HM := Lib.hid (hm.out _ ho1); have HS1 := Lib.hid hs1; clear ho1 hs1)
      go_roundg (N - (r + 1))
      case measure => omega
      case rel =>
        refine ⟨r + 1, by omega, rfl, by go_num, ?_, ?_, ?_⟩
        · have := HP.out
          rw [show k + 3 * (r + 1) = p + 3 by omega]
          push_cast
          rw [Int.add_assoc, Int.add_assoc]
        · have := HM.out
          push_cast at this
          rw [Int.add_assoc]
          exact this
        · exact (((HF.out.trans (frame_since HS1.out lo hi)).trans (frame_set _ _ _ HG.out)).trans (frame_set _ _ _ HG.out)).trans (frame_set _ _ _ HG.out)
    · obtain rfl : r = N := by omega
      have HH := Lib.hid (And.intro hO hF)
      clear hO hF HO
      go_wp2_with fail
      go_ret
      exact ⟨rfl, HH.out.1, HH.out.2⟩

set_option maxRecDepth 100000 in
set_option maxHeartbeats 400000 in
theorem heldChipS_any (a : Option Addr) (cap N k : Nat) (cs : List RC) (w : World) (hN : cs.length = N) (h20 : N ≤ 1048576) (h0 : 0 < k) (hk : k ≤ 4000000) (hm : ChipsR w a (mixC k cs N)) :
    Calls Try.prog 30 #[.slice a N cap, .int .i64 k] w fun e w' => e = .returned (.int .i64 (k + 3 * N : Nat)) ∧ w.Since w.heap.size w' := by
  have HN := Lib.hid hN
  have HM := Lib.hid hm
  clear hN hm
  go_enter Try.func30, Try.ntmps30
  go_wp2_with fail
  go_loopg [1, 5] N (fun g q i wr => ∃ r : Nat, r ≤ N ∧ g = N - r ∧ i = .int .i64 r ∧ q = .int .i64 (k + 3 * r : Nat) ∧ w.Since w.heap.size wr)
  case atStart => exact ⟨0, Nat.zero_le _, rfl, rfl, rfl, World.Since.refl _ _⟩
  case round =>
    obtain ⟨r, hr, rfl, rfl, rfl, hS⟩ := hrel
    by_cases hlt : r < N
    · have hrl : r < cs.length := by rw [HN.out]; exact hlt
      obtain ⟨g, o, rfl, k1, k2, k3⟩ := HM.out.at (show r < (mixC k cs N).length by rw [mixC_len]; exact hrl)
      rw [mixC_get hrl, if_pos hlt] at k1 k2 k3
      dsimp only [markC] at k1 k2 k3
      obtain ⟨p, hp⟩ : ∃ p, k + 3 * r = p := ⟨_, rfl⟩
      have hp1 : 0 < p := by omega
      have hp2 : p < 9000000 := by omega
      rw [hp] at k1 k2 k3 ⊢
      push_cast at k2 k3
      have c1 := (hS.cell (World.block_lt_of_cell? _ _ k1)).trans k1
      have c2 := (hS.cell (World.block_lt_of_cell? _ _ k2)).trans k2
      have c3 := (hS.cell (World.block_lt_of_cell? _ _ k3)).trans k3
      have E := Lib.hid (fun (W : World) => markText_any p W hp1 (by omega))
      have HP := Lib.hid hp
      have HS := Lib.hid hS
      clear k1 k2 k3 hp hS
      go_wp2_with fail
      go_region_held3 (fun W' => W'.cell? ⟨g, o + r * 3, none⟩ = some (.string (txtX p)) ∧ W'.cell? ⟨g, o + r * 3 + 1, none⟩ = some (.int .i64 (p + 1)) ∧ W'.cell? ⟨g, o + r * 3 + 2, none⟩ = some (.int .i64 (p + 2)))
        (first | exact ⟨c1, c2, c3⟩ | exact g9)
        (first | (go_at_call 61; refine (E.out _).mono ?_; rintro e w1 ⟨rfl, hs1⟩; have g9 : w1.cell? ⟨g, o + r * 3, none⟩ = some (.string (txtX p)) ∧ w1.cell? ⟨g, o + r * 3 + 1, none⟩ = some (.int .i64 (p + 1)) ∧ w1.cell? ⟨g, o + r * 3 + 2, none⟩ = some (.int .i64 (p + 2)) := ⟨(hs1.cell (World.block_lt_of_cell? wr _ c1)).trans c1, (hs1.cell (World.block_lt_of_cell? wr _ c2)).trans c2, (hs1.cell (World.block_lt_of_cell? wr _ c3)).trans c3⟩; have HS1 := Lib.hid (HS.out.trans (since_mono (since_of_drew hs1) HS.out.size)); clear hs1))
      all_goals
        obtain ⟨d1, d2, d3⟩ := g9
        have e2 : (p : Int) + 1 + 1 = p + 2 := by omega
        go_wp2_with fail
        go_roundg (N - (r + 1))
        case measure => omega
        case rel =>
          refine ⟨r + 1, by omega, rfl, by go_num, ?_, HS1.out⟩
          have := HP.out
          rw [show k + 3 * (r + 1) = p + 3 by omega]
          push_cast
          rw [Int.add_assoc, Int.add_assoc]
          rfl
    · obtain rfl : r = N := by omega
      have HS := Lib.hid hS
      clear hS
      go_wp2_with fail
      go_ret
      exact ⟨rfl, HS.out⟩

end Go.Proofs.Ytdodchmelepkeaa
end

section
namespace Go.Proofs.Ytdodchmelepkeaa
open Go.RowKit Go.Deep

set_option maxRecDepth 100000 in
set_option maxHeartbeats 1000000 in
theorem lawNetTurn_aux (x0 : Int) (a1 : Option Addr) (cap1 n1 : Nat) (l1 : List RC) (ok : Bool) (M : List RC) (w : World) (hn1 : l1.length = n1) (h631 : n1 ≤ 9223372036854775807) (hs1 : ShortL l1) (hm1 : ChipsR w a1 l1) (hM : M.length ≤ 1048576)
    (hspec : n1 ≤ 1048576 → ∀ (W : World) (b1 : Option Addr) (c1 : Nat), n1 ≤ c1 → c1 ≤ 9223372036854775807 → (∃ g, b1 = some ⟨g, 0, none⟩) → ChipsR W b1 l1 → Calls Try.prog 28 #[.int .i64 x0, .slice b1 n1 c1] W (fun e w' => ∃ a cap, e = .returned (.tuple #[.slice a M.length cap, .bool ok]) ∧ W.Since W.heap.size w' ∧ InC W.heap.size w'.heap.size w' a M))
    (himpl : n1 ≤ 1048576 → ∀ (W : World) (b1 : Option Addr) (c1 : Nat), n1 ≤ c1 → c1 ≤ 9223372036854775807 → (∃ g, b1 = some ⟨g, 0, none⟩) → ChipsR W b1 l1 → Calls Try.prog 29 #[.int .i64 x0, .slice b1 n1 c1] W (fun e w' => ∃ a cap, e = .returned (.tuple #[.slice a M.length cap, .bool ok]) ∧ W.Since W.heap.size w' ∧ OwnC W.heap.size w'.heap.size w' a M)) :
    Calls Try.prog 7 #[.int .i64 x0, .slice a1 n1 cap1] w fun e w' => e = .returned (.bool true) ∧ w.Since w.heap.size w' := by
  have HN1 := Lib.hid hn1
  have HM1 := Lib.hid hm1
  have HH1 := Lib.hid hs1
  obtain ⟨q, hq⟩ : ∃ q, M.length = q := ⟨_, rfl⟩
  rw [hq] at hspec himpl
  have HQ := Lib.hid hq
  have h63q : q ≤ 9223372036854775807 := by omega
  have hsq : q ≤ 1048576 := by omega
  have HSPEC := Lib.hid hspec
  have HIMPL := Lib.hid himpl
  clear hspec himpl hq hn1 hm1 hs1
  go_enter Try.func7, Try.ntmps7
  have s0 : w.Since w.heap.size w := World.Since.refl _ _
  have HZ1 := Lib.hid (szChipS_any a1 cap1 n1 1048576 l1 w HN1.out h631 ⟨by omega, by omega⟩ HH1.out (HM1.out.since s0))
  go_wp2_with fail
  refine (HZ1.out).mono ?_
  rintro e w1 ⟨r1, ⟨rfl, hra1, hrb1⟩, t1⟩
  have s1 : w.Since w.heap.size w1 := s0.trans (since_mono t1 s0.size)
  have z1 := t1.size
  clear t1
  by_cases hr01 : r1 < 0
  · have hb : decide (r1 < 0) = true := by simpa using hr01
    go_wp2_with fail
    go_ret
    exact ⟨rfl, s1⟩
  have hb1 : decide (r1 < 0) = false := by simpa using hr01
  have hle1 : n1 ≤ 1048576 := by have := hrb1 (by omega); omega
  clear hrb1
  go_wp2_with fail
  refine (toChipS_any a1 cap1 n1 l1 _ HN1.out hle1 (HM1.out.since s1)).mono ?_
  rintro e w2 ⟨rfl, t2, op1⟩
  have s2 : w.Since w.heap.size w2 := s1.trans (since_mono t2 s1.size)
  have z2 := t2.size
  clear t2
  go_wp2_with fail
  refine (HSPEC.out hle1 _ _ _ (Nat.le_refl _) (by omega) ⟨_, rfl⟩ op1.chips).mono ?_
  rintro e w3 ⟨vgw, cpgw, rfl, t3, gw⟩
  have s3 : w.Since w.heap.size w3 := s2.trans (since_mono t3 s2.size)
  have z3 := t3.size
  replace op1 := op1.since t3
  clear t3
  clear op1
  go_wp2_with fail
  refine (toChipS_any a1 cap1 n1 l1 _ HN1.out hle1 (HM1.out.since s3)).mono ?_
  rintro e w4 ⟨rfl, t4, ox1⟩
  have s4 : w.Since w.heap.size w4 := s3.trans (since_mono t4 s3.size)
  have z4 := t4.size
  replace gw := gw.since t4
  clear t4
  go_wp2_with fail
  refine (HIMPL.out hle1 _ _ _ (Nat.le_refl _) (by omega) ⟨_, rfl⟩ ox1.chips).mono ?_
  rintro e w5 ⟨vgg, cpgg, rfl, t5, gg⟩
  have s5 : w.Since w.heap.size w5 := s4.trans (since_mono t5 s4.size)
  have z5 := t5.size
  replace gw := gw.since t5
  replace ox1 := ox1.since t5
  clear t5
  cases ok
  all_goals
    go_wp2_with fail
    refine (eqChipS_same _ _ _ _ _ M _ HQ.out h63q gg.chips gw.chips).mono ?_
    rintro e w6 ⟨rfl, t6⟩
    have s6 : w.Since w.heap.size w6 := s5.trans (since_mono t6 s5.size)
    have z6 := t6.size
    replace gw := gw.since t6
    replace ox1 := ox1.since t6
    replace gg := gg.since t6
    clear t6
    go_wp2_with fail
    refine (toChipS_any a1 cap1 n1 l1 _ HN1.out hle1 (HM1.out.since s6)).mono ?_
    rintro e w7 ⟨rfl, t7, oy1⟩
    have s7 : w.Since w.heap.size w7 := s6.trans (since_mono t7 s6.size)
    have z7 := t7.size
    replace gw := gw.since t7
    replace ox1 := ox1.since t7
    replace gg := gg.since t7
    clear t7
    go_wp2_with fail
    refine (eqChipS_same _ _ _ _ _ l1 _ HN1.out h631 ox1.chips oy1.chips).mono ?_
    rintro e w8 ⟨rfl, t8⟩
    have s8 : w.Since w.heap.size w8 := s7.trans (since_mono t8 s7.size)
    have z8 := t8.size
    replace gw := gw.since t8
    replace ox1 := ox1.since t8
    replace gg := gg.since t8
    replace oy1 := oy1.since t8
    clear t8
    clear oy1
    go_wp2_with fail
    refine (markChipS_any _ w3.heap.size w4.heap.size _ _ (1) l1 _ HN1.out hle1 (by omega) (by omega) ox1).mono ?_
    rintro e w9 ⟨rfl, m9, f9⟩
    clear ox1
    have ox1 := m9
    clear m9
    have s9 : w.Since w.heap.size w9 := s8.trans (f9.since (by omega) (by omega))
    have z9 := f9.size
    replace gw := gw.frame f9 (by omega)
    replace gg := gg.frame f9 (by omega)
    go_wp2_with fail
    refine (eqChipS_same _ _ _ _ _ M _ HQ.out h63q gg.chips gw.chips).mono ?_
    rintro e w10 ⟨rfl, t10⟩
    have s10 : w.Since w.heap.size w10 := s9.trans (since_mono t10 s9.size)
    have z10 := t10.size
    replace gw := gw.since t10
    replace ox1 := ox1.since t10
    replace gg := gg.since t10
    clear t10
    clear ox1
    go_wp2_with fail
    refine (markChipS_any _ w4.heap.size w5.heap.size _ _ (1) M _ HQ.out hsq (by omega) (by omega) gg).mono ?_
    rintro e w11 ⟨rfl, m11, f11⟩
    clear gg
    have gg := m11
    clear m11
    have s11 : w.Since w.heap.size w11 := s10.trans (f11.since (by omega) (by omega))
    have z11 := f11.size
    replace gw := gw.frame f11 (by omega)
    go_wp2_with fail
    refine (heldChipS_any _ _ _ 1 M _ HQ.out hsq (by omega) (by omega) gg.chips).mono ?_
    rintro e w12 ⟨rfl, t12⟩
    have s12 : w.Since w.heap.size w12 := s11.trans (since_mono t12 s11.size)
    have z12 := t12.size
    replace gw := gw.since t12
    replace gg := gg.since t12
    clear t12
    go_wp2_with fail
    refine (toChipS_any a1 cap1 n1 l1 _ HN1.out hle1 (HM1.out.since s12)).mono ?_
    rintro e w13 ⟨rfl, t13, oz1⟩
    have s13 : w.Since w.heap.size w13 := s12.trans (since_mono t13 s12.size)
    have z13 := t13.size
    replace gw := gw.since t13
    replace gg := gg.since t13
    clear t13
    go_wp2_with fail
    refine (HIMPL.out hle1 _ _ _ (Nat.le_refl _) (by omega) ⟨_, rfl⟩ oz1.chips).mono ?_
    rintro e w14 ⟨vgh, cpgh, rfl, t14, gh⟩
    have s14 : w.Since w.heap.size w14 := s13.trans (since_mono t14 s13.size)
    have z14 := t14.size
    replace gw := gw.since t14
    replace gg := gg.since t14
    replace oz1 := oz1.since t14
    clear t14
    clear oz1
    go_wp2_with fail
    refine (eqChipS_same _ _ _ _ _ M _ HQ.out h63q gh.chips gw.chips).mono ?_
    rintro e w15 ⟨rfl, t15⟩
    have s15 : w.Since w.heap.size w15 := s14.trans (since_mono t15 s14.size)
    have z15 := t15.size
    replace gw := gw.since t15
    replace gg := gg.since t15
    replace gh := gh.since t15
    clear t15
    go_wp2_with fail
    refine (heldChipS_any _ _ _ 1 M _ HQ.out hsq (by omega) (by omega) gg.chips).mono ?_
    rintro e w16 ⟨rfl, t16⟩
    have s16 : w.Since w.heap.size w16 := s15.trans (since_mono t16 s15.size)
    have z16 := t16.size
    replace gw := gw.since t16
    replace gg := gg.since t16
    replace gh := gh.since t16
    clear t16
    go_wp2_with fail
    go_ret
    exact ⟨rfl, s16⟩

end Go.Proofs.Ytdodchmelepkeaa
end

section
namespace Go.Proofs.Ytdodchmelepkeaa
open Go.RowKit Go.Deep

set_option maxRecDepth 100000 in
set_option maxHeartbeats 400000 in
theorem ends_h (K : ByteArray) (L : Nat) (V : Int) (w : World) (hK : K.toList = [104]) :
    Calls Try.prog 93 #[.agg #[.string K, .int .i64 L, .int .i64 V]] w fun e w' => e = .returned (.tuple #[.int .i64 ((L : Nat) : Int), .int .i64 ((L : Nat) : Int)]) ∧ w.Since w.heap.size w' := by
  obtain ⟨d1, d2, d3⟩ := chip_box w K L V 52
  have HS := Lib.hid ((World.Since.refl w.heap.size w).alloc (Nat.le_refl _) (.cells #[.string K, .int .i64 L, .int .i64 V] 52))
  have hq1 : (K.toList == [117]) = false := by rw [hK]; decide
  have hq2 : (K.toList == [100]) = false := by rw [hK]; decide
  go_enter Try.func93, Try.ntmps93
  go_wp2
  go_region
  all_goals
    go_wp2
    go_ret2
    exact ⟨rfl, HS.out.drew⟩

set_option maxRecDepth 100000 in
set_option maxHeartbeats 400000 in
theorem ends_u (K : ByteArray) (L : Nat) (V : Int) (w : World) (hL : L ≤ 10) (hK : K.toList = [117]) :
    Calls Try.prog 93 #[.agg #[.string K, .int .i64 L, .int .i64 V]] w fun e w' => e = .returned (.tuple #[.int .i64 ((L : Nat) : Int), .int .i64 (((L + 1) : Nat) : Int)]) ∧ w.Since w.heap.size w' := by
  obtain ⟨d1, d2, d3⟩ := chip_box w K L V 52
  have HS := Lib.hid ((World.Since.refl w.heap.size w).alloc (Nat.le_refl _) (.cells #[.string K, .int .i64 L, .int .i64 V] 52))
  have hw1 : IntKind.i64.wrap ((L : Int) + 1) = (L : Int) + 1 := IntWalk.i64_in _ ⟨by omega, by omega⟩
  go_enter Try.func93, Try.ntmps93
  go_wp2
  go_region
  all_goals
    go_wp2
    go_ret2
    exact ⟨rfl, HS.out.drew⟩

set_option maxRecDepth 100000 in
set_option maxHeartbeats 400000 in
theorem ends_d (K : ByteArray) (L : Nat) (V : Int) (w : World) (hL : L ≤ 10) (hK : K.toList = [100]) :
    Calls Try.prog 93 #[.agg #[.string K, .int .i64 L, .int .i64 V]] w fun e w' => e = .returned (.tuple #[.int .i64 (((L + 1) : Nat) : Int), .int .i64 ((L : Nat) : Int)]) ∧ w.Since w.heap.size w' := by
  obtain ⟨d1, d2, d3⟩ := chip_box w K L V 52
  have HS := Lib.hid ((World.Since.refl w.heap.size w).alloc (Nat.le_refl _) (.cells #[.string K, .int .i64 L, .int .i64 V] 52))
  have hq1 : (K.toList == [117]) = false := by rw [hK]; decide
  have hw1 : IntKind.i64.wrap ((L : Int) + 1) = (L : Int) + 1 := IntWalk.i64_in _ ⟨by omega, by omega⟩
  go_enter Try.func93, Try.ntmps93
  go_wp2
  go_region
  all_goals
    go_wp2
    go_ret2
    exact ⟨rfl, HS.out.drew⟩

theorem ends_any (c : RC) (w : World) (hok : RCok c) :
    Calls Try.prog 93 #[.agg #[.string c.k, .int .i64 c.l, .int .i64 c.w]] w fun e w' => e = .returned (.tuple #[.int .i64 (chR (toC c) : Nat), .int .i64 (chK (toC c) : Nat)]) ∧ w.Since w.heap.size w' := by
  obtain ⟨K, l, V⟩ := c
  obtain ⟨hk, hl, hv⟩ := hok
  simp only at hk hl hv
  obtain ⟨L, rfl⟩ : ∃ L : Nat, l = L := ⟨l.toNat, by omega⟩
  rcases hk with h | h | h
  · rw [toC_h h]
    exact ends_h K L V w h
  · have e : toC ⟨K, (L : Int), V⟩ = (0, L, V) := by unfold toC; simp [h]
    rw [e]
    exact ends_u K L V w (by omega) h
  · have e : toC ⟨K, (L : Int), V⟩ = (1, L, V) := by unfold toC; simp [h]
    rw [e]
    exact ends_d K L V w (by omega) h

set_option maxHeartbeats 400000 in
theorem chipTurned_any (c : RC) (w : World) :
    Calls Try.prog 74 #[.agg #[.string c.k, .int .i64 c.l, .int .i64 c.w]] w fun e w' => e = .returned (.agg #[.string (trC c).k, .int .i64 (trC c).l, .int .i64 (trC c).w]) ∧ w.Since w.heap.size w' := by
  obtain ⟨K, L, V⟩ := c
  obtain ⟨d1, d2, d3⟩ := chip_box w K L V 52
  have HS := Lib.hid (fun (Y : ByteArray) (Z : Obj) => (((World.Since.refl w.heap.size w).alloc (Nat.le_refl _) (.cells #[.string Y, .int .i64 L, .int .i64 V] 52)).alloc (by simp) Z))
  unfold trC
  simp only
  by_cases hu : K.toList = [117]
  · rw [if_pos hu]
    go_enter Try.func74, Try.ntmps74
    go_wp2
    exact bodyPost_ret (v := .agg #[.string kD, .int .i64 L, .int .i64 V]) (by simp [results, Try.f74, go_sem]) rfl ⟨rfl, HS.out _ _⟩
  · rw [if_neg hu]
    have hub : (K.toList == [117]) = false := by simpa using hu
    by_cases hd : K.toList = [100]
    · rw [if_pos hd]
      clear hu
      go_enter Try.func74, Try.ntmps74
      go_wp2
      exact bodyPost_ret (v := .agg #[.string kU, .int .i64 L, .int .i64 V]) (by simp [results, Try.f74, go_sem]) rfl ⟨rfl, HS.out _ _⟩
    · rw [if_neg hd]
      have hdb : (K.toList == [100]) = false := by simpa using hd
      clear hu hd
      go_enter Try.func74, Try.ntmps74
      go_wp2
      exact bodyPost_ret (v := .agg #[.string K, .int .i64 L, .int .i64 V]) (by simp [results, Try.f74, go_sem]) rfl ⟨rfl, HS.out _ _⟩

set_option maxRecDepth 100000 in
set_option maxHeartbeats 400000 in
theorem chipTable_any (c : RC) (n : Nat) (w : World) (h1 : 1 ≤ n) (h5 : n ≤ 5) (hok : RCok c ∧ chOk n (toC c)) :
    Calls Try.prog 58 #[.agg #[.string c.k, .int .i64 c.l, .int .i64 c.w], .int .i64 n] w fun e w' => ∃ a cap, e = .returned (.slice a n cap) ∧ w.Since w.heap.size w' ∧ MatR w' a (chT n (chR (toC c)) (chK (toC c)) (toC c).2.2) := by
  have EE := fun (W : World) => ends_any c W hok.1
  obtain ⟨hr, hk⟩ := chRK hok.2
  rw [toC_w]
  obtain ⟨r, hrr⟩ : ∃ r, chR (toC c) = r := ⟨_, rfl⟩
  obtain ⟨k, hkk⟩ : ∃ k, chK (toC c) = k := ⟨_, rfl⟩
  rw [hrr] at hr ⊢
  rw [hkk] at hk ⊢
  simp only [hrr, hkk] at EE
  obtain ⟨K, L, V⟩ := c
  simp only at EE ⊢
  replace EE := Lib.hid EE
  obtain ⟨d1, d2, d3⟩ := chip_box w K L V 52
  have HS := Lib.hid ((World.Since.refl w.heap.size w).alloc (Nat.le_refl _) (.cells #[.string K, .int .i64 L, .int .i64 V] 52))
  have E := Lib.hid (fun (W : World) => unitTable_any n (by omega) W)
  have HUL := Lib.hid (unitL_length n n)
  have HUR := Lib.hid (unit_row hr)
  have hmix : Try.prog.follows .mixedOrders = true := by kernel_rfl
  clear hrr hkk hok
  go_enter Try.func58, Try.ntmps58
  go_wp2_with (first
    | (go_at_call 56; refine (E.out _).mono ?_; rintro e w1 ⟨rfl, hs1, ho1⟩; have e2 := (hs1.cell (a := ⟨w.heap.size, 1, none⟩) (by simp)).trans d2; have e3 := (hs1.cell (a := ⟨w.heap.size, 2, none⟩) (by simp)).trans d3; have e1 := (hs1.cell (a := ⟨w.heap.size, 0, none⟩) (by simp)).trans d1; have HSA := Lib.hid (HS.out.trans (since_mono hs1 HS.out.size)); have HO1 := Lib.hid ho1; clear hs1 ho1)
    | (go_at_call 93; refine (EE.out _).mono ?_; rintro e w2 ⟨rfl, hs2⟩; obtain ⟨b, g, c, hbq, t1, t2, t3, t4, t5⟩ := (HO1.out.since hs2).put (r := r) (k := k) (by rw [HUL.out]; exact hr) (by rw [HUR.out]; exact hk); rw [HUR.out] at t1; simp only [Option.some.injEq, Addr.mk.injEq, and_true, World.size_alloc] at hbq; subst hbq; rw [World.size_alloc] at t5; have HT5 := Lib.hid t5; have f3 := (hs2.cell (a := ⟨w.heap.size, 2, none⟩) (World.block_lt_of_cell? _ _ e3)).trans e3; have HSB := Lib.hid (HSA.out.trans (since_mono hs2 HSA.out.size)); have HG := Lib.hid t4; clear hs2 t5 t4 e1 e2 e3))
  go_still_tail 8, hmix
  go_wp2
  go_ret
  exact ⟨_, _, rfl, (HSB.out.setCell (a := ⟨g, k, none⟩) (by have := HG.out.1; simp at this; show w.heap.size ≤ g; omega) _).drew, HT5.out V⟩

end Go.Proofs.Ytdodchmelepkeaa
end

section
namespace Go.Proofs.Ytdodchmelepkeaa
open Go.RowKit Go.Deep

def StC (W : World) (p : Nat) (A B : Option Addr) (x y : Int) : Prop := W.heap[p]? = some (.cells #[.pointer A, .pointer B, .int .i64 x, .int .i64 y] 113 (0, 0))
theorem StC.cells {W : World} {p : Nat} {A B : Option Addr} {x y : Int} (h : StC W p A B x y) : W.cell? ⟨p, 0, none⟩ = some (.pointer A) ∧ W.cell? ⟨p, 1, none⟩ = some (.pointer B) ∧ W.cell? ⟨p, 2, none⟩ = some (.int .i64 x) ∧ W.cell? ⟨p, 3, none⟩ = some (.int .i64 y) := by
  have h' : W.heap[p]? = _ := h
  refine ⟨?_, ?_, ?_, ?_⟩ <;> (unfold World.cell?; rw [h']; rfl)
theorem StC.lt {W : World} {p : Nat} {A B : Option Addr} {x y : Int} (h : StC W p A B x y) : p < W.heap.size := (Array.getElem?_eq_some_iff.1 h).1
theorem StC.since {W V : World} {p : Nat} {A B : Option Addr} {x y : Int} (h : StC W p A B x y) (hs : W.Since W.heap.size V) : StC V p A B x y := (hs.block p h.lt).trans h
def Lies (W : World) (E : Nat → Nat) (n : Nat) : List CH → Nat → Nat → Prop
  | [], i, p => p = E i ∧ StC W p none none 0 0
  | c :: cs, i, p => if i = chR c then (∀ k, k < n → p ≠ E k) ∧ ∃ q, Lies W E n cs i q ∧
      (if c.1 = 2 then StC W p (some ⟨q, 0, none⟩) none c.2.2 0 else ∃ r, Lies W E n cs (chK c) r ∧ StC W p (some ⟨q, 0, none⟩) (some ⟨r, 0, none⟩) 1 c.2.2) else Lies W E n cs i p
theorem Lies.since {W V : World} {E : Nat → Nat} {n : Nat} (hs : W.Since W.heap.size V) : ∀ {cs : List CH} {i p : Nat}, Lies W E n cs i p → Lies V E n cs i p
  | [], _, _, h => ⟨h.1, h.2.since hs⟩
  | c :: cs, i, p, h => by
    unfold Lies at h ⊢
    by_cases e : i = chR c
    · rw [if_pos e] at h ⊢
      obtain ⟨h1, q, h2, h3⟩ := h
      refine ⟨h1, q, h2.since hs, ?_⟩
      by_cases e2 : c.1 = 2
      · rw [if_pos e2] at h3 ⊢
        exact h3.since hs
      · rw [if_neg e2] at h3 ⊢
        obtain ⟨r, h4, h5⟩ := h3
        exact ⟨r, h4.since hs, h5.since hs⟩
    · rw [if_neg e] at h ⊢
      exact h.since hs
theorem Lies.drawn {W V : World} {E : Nat → Nat} {n : Nat} (hs : Drawn W V) {cs : List CH} {i p : Nat} (h : Lies W E n cs i p) : Lies V E n cs i p := h.since (hs.since _)
theorem Lies.lt {W : World} {E : Nat → Nat} {n : Nat} : ∀ {cs : List CH} {i p : Nat}, Lies W E n cs i p → p < W.heap.size
  | [], _, _, h => h.2.lt
  | c :: cs, i, p, h => by
    unfold Lies at h
    by_cases e : i = chR c
    · rw [if_pos e] at h
      obtain ⟨_, q, _, h3⟩ := h
      by_cases e2 : c.1 = 2
      · rw [if_pos e2] at h3
        exact h3.lt
      · rw [if_neg e2] at h3
        obtain ⟨r, _, h5⟩ := h3
        exact h5.lt
    · rw [if_neg e] at h
      exact h.lt

theorem infoSt : (Try.prog.info? 113).map (fun i => (i.size, i.bytes)) = some (4, 32) := by kernel_rfl
theorem infoSt_parts : ∃ i, Try.prog.info? 113 = some i ∧ i.size = 4 ∧ i.bytes = 32 := by
  have h := infoSt
  cases e : Try.prog.info? 113 with
  | none => rw [e] at h; cases h
  | some i =>
    rw [e] at h
    simp only [Option.map_some, Option.some.injEq, Prod.mk.injEq] at h
    exact ⟨i, rfl, h.1, h.2⟩
theorem ptr_same (p : Nat) (w : World) : (binOp .eql 101 (.pointer (some ⟨p, 0, none⟩)) (.pointer (some ⟨p, 0, none⟩))).run Try.prog w = .ok (.bool true) w := by
  obtain ⟨i, hi, _⟩ := infoSt_parts
  exact run_eql_ptr_same w _ Try.underlying101 hi
theorem ptr_other {p t : Nat} {w : World} {A B C D : Option Addr} {x y z v : Int} (hp : StC w p A B x y) (ht : StC w t C D z v) (hne : ¬ p = t) : (binOp .eql 101 (.pointer (some ⟨p, 0, none⟩)) (.pointer (some ⟨t, 0, none⟩))).run Try.prog w = .ok (.bool false) w := by
  obtain ⟨i, hi, hs, _⟩ := infoSt_parts
  exact run_eql_ptr_other w Try.underlying101 hi (by rw [hs]; decide) (fun e => hne (by injection e)) hp ht

set_option maxRecDepth 100000 in
theorem pathsTo_nil (e : Option Addr) (w : World) :
    Calls Try.prog 97 #[.pointer none, .pointer e] w fun r w' => r = .returned (.int .i64 0) ∧ ∃ m, w' = w.drewN m := by
  go_enter Try.func97, Try.ntmps97
  go_wp2_with fail
  go_ret
  exact ⟨rfl, 0, rfl⟩
set_option maxRecDepth 100000 in
theorem pathsTo_end (p : Nat) (w : World) :
    Calls Try.prog 97 #[.pointer (some ⟨p, 0, none⟩), .pointer (some ⟨p, 0, none⟩)] w fun r w' => r = .returned (.int .i64 1) ∧ ∃ m, w' = w.drewN m := by
  have hq := ptr_same p w
  go_enter Try.func97, Try.ntmps97
  go_wp2_with fail
  go_ret
  exact ⟨rfl, 0, rfl⟩

set_option maxRecDepth 100000 in
set_option maxHeartbeats 400000 in
theorem pathsTo_step (p t : Nat) (A B : Option Addr) (x y P R : Int) (w : World) (hq : (binOp .eql 101 (.pointer (some ⟨p, 0, none⟩)) (.pointer (some ⟨t, 0, none⟩))).run Try.prog w = .ok (.bool false) w) (hc : StC w p A B x y) (hw1 : IntKind.i64.wrap (x * P) = x * P) (hw2 : IntKind.i64.wrap (y * R) = y * R) (hw3 : IntKind.i64.wrap (x * P + y * R) = x * P + y * R)
    (hA : ∀ q, Calls Try.prog 97 #[.pointer A, .pointer (some ⟨t, 0, none⟩)] (w.drewN q) fun r w' => r = .returned (.int .i64 P) ∧ ∃ m, w' = (w.drewN q).drewN m)
    (hB : ∀ q, Calls Try.prog 97 #[.pointer B, .pointer (some ⟨t, 0, none⟩)] (w.drewN q) fun r w' => r = .returned (.int .i64 R) ∧ ∃ m, w' = (w.drewN q).drewN m) :
    Calls Try.prog 97 #[.pointer (some ⟨p, 0, none⟩), .pointer (some ⟨t, 0, none⟩)] w fun r w' => r = .returned (.int .i64 (x * P + y * R)) ∧ ∃ m, w' = w.drewN m := by
  obtain ⟨c1, c2, c3, c4⟩ := hc.cells
  clear hc
  replace hA := Lib.hid hA
  replace hB := Lib.hid hB
  go_enter Try.func97, Try.ntmps97
  go_wp2_with fail
  go_quiet ((first
    | (go_at_call 97; with_reducible exact Calls.quiet_of (hA.out _))
    | (go_at_call 97; with_reducible exact Calls.quiet_of (hB.out _))))
  go_wp2_with fail
  go_ret
  exact ⟨rfl, _, rfl⟩

end Go.Proofs.Ytdodchmelepkeaa
end

section
namespace Go.Proofs.Ytdodchmelepkeaa
open Go.RowKit Go.Deep

theorem infoPt : (Try.prog.info? 101).map (fun i => (i.size, i.bytes)) = some (1, 8) := by kernel_rfl
theorem zeroPt : ((Try.prog.info? 101).bind (·.zero)) = some (.pointer none) := by kernel_rfl
theorem infoPt_parts : ∃ i, Try.prog.info? 101 = some i ∧ i.zero = some (.pointer none) ∧ i.size = 1 ∧ i.bytes = 8 := by
  have h := infoPt
  have hz := zeroPt
  cases e : Try.prog.info? 101 with
  | none => rw [e] at h; cases h
  | some i =>
    rw [e] at h hz
    simp only [Option.map_some, Option.some.injEq, Prod.mk.injEq] at h
    exact ⟨i, rfl, hz, h.1, h.2⟩
def ptrV (p : Nat) : Value := .pointer (some ⟨p, 0, none⟩)
def ptrs (P : Nat → Nat) (k : Nat) : List Value := (List.range k).map fun j => ptrV (P j)
theorem ptrs_len (P : Nat → Nat) (k : Nat) : (ptrs P k).length = k := by simp [ptrs]
theorem ptrs_get (P : Nat → Nat) {k j : Nat} (h : j < k) : (ptrs P k)[j]? = some (ptrV (P j)) := by simp [ptrs, h]
theorem ptrs_succ (P : Nat → Nat) (k : Nat) : ptrs P (k + 1) = ptrs P k ++ [ptrV (P k)] := by simp [ptrs, List.range_succ]
theorem ptrs_congr {P Q : Nat → Nat} {k : Nat} (h : ∀ j, j < k → P j = Q j) : ptrs P k = ptrs Q k := List.map_congr_left fun j hj => by rw [h j (List.mem_range.1 hj)]
def PR (W : World) (b n : Nat) (P : Nat → Nat) : Prop := ∃ cur, W.heap[b]? = some (.cells cur 101 (0, 0)) ∧ ∀ j, j < n → cur[j]? = some (ptrV (P j))
theorem PR.cell {W : World} {b n : Nat} {P : Nat → Nat} (h : PR W b n P) {j : Nat} (hj : j < n) : W.cell? ⟨b, j, none⟩ = some (.pointer (some ⟨P j, 0, none⟩)) ∧ W.frozen? ⟨b, j, none⟩ = false := by
  obtain ⟨cur, h1, h2⟩ := h
  refine ⟨?_, ?_⟩
  · simp only [World.cell?, h1]
    exact h2 j hj
  · simp [World.frozen?, h1]
theorem PR.lt {W : World} {b n : Nat} {P : Nat → Nat} (h : PR W b n P) : b < W.heap.size := by
  obtain ⟨cur, h1, _⟩ := h
  exact (Array.getElem?_eq_some_iff.1 h1).1
theorem PR.block {W V : World} {b n : Nat} {P : Nat → Nat} (h : PR W b n P) (e : V.heap[b]? = W.heap[b]?) : PR V b n P := by
  obtain ⟨cur, h1, h2⟩ := h
  exact ⟨cur, e.trans h1, h2⟩
theorem PR.since {W V : World} {b n : Nat} {P : Nat → Nat} (h : PR W b n P) (hs : W.Since W.heap.size V) : PR V b n P := h.block (hs.block _ h.lt)
theorem PR.of_own {W : World} {base n : Nat} {v : Value} {P : Nat → Nat} (h : W.ownsRow base 101 1 v n (ptrs P n)) (h0 : 0 < n) : ∃ g cap, v = .slice (some ⟨g, 0, none⟩) n cap ∧ base ≤ g ∧ PR W g n P := by
  rcases h.2 with ⟨_, rfl⟩ | ⟨g, cap, cur, rfl, hb, hg, hn, _, hs, ht⟩
  · omega
  · refine ⟨g, cap, rfl, hb, cur, hg, fun j hj => ?_⟩
    have h1 : (cur.toList.take (n * 1))[j]? = some (ptrV (P j)) := by rw [ht]; exact ptrs_get P hj
    rw [List.getElem?_take] at h1
    have h2 : j < n ∧ cur[j]? = some (ptrV (P j)) := by simpa using h1
    exact h2.2
theorem PR.ne {W : World} {b n : Nat} {P : Nat → Nat} (h : PR W b n P) {p : Nat} {A B : Option Addr} {x y : Int} (hp : StC W p A B x y) : p ≠ b := by
  rintro rfl
  obtain ⟨cur, h1, _⟩ := h
  have h2 : W.heap[p]? = _ := hp
  rw [h1] at h2
  simp at h2
theorem PR.set {W : World} {b n : Nat} {P : Nat → Nat} (h : PR W b n P) {f : Nat} (p : Nat) : PR (W.setCell ⟨b, f, none⟩ (.pointer (some ⟨p, 0, none⟩))) b n (fun j => if j = f then p else P j) := by
  obtain ⟨cur, h1, h2⟩ := h
  obtain ⟨hlt, hk⟩ := Array.getElem?_eq_some_iff.1 h1
  refine ⟨cur.setIfInBounds f (.pointer (some ⟨p, 0, none⟩)), ?_, fun j hj => ?_⟩
  · show (W.heap.modify b _)[b]? = _
    rw [Array.getElem?_eq_getElem (by rw [Array.size_modify]; exact hlt), Array.getElem_modify_self, hk]
    rfl
  · have h3 := h2 j hj
    have h4 := (Array.getElem?_eq_some_iff.1 h3).1
    rw [Array.getElem?_setIfInBounds]
    by_cases e : f = j
    · subst e
      simp [h4, ptrV]
    · simp [e, Ne.symm e, h3]

set_option maxRecDepth 100000 in
set_option maxHeartbeats 400000 in
theorem clonePtr_any (b n cap : Nat) (P : Nat → Nat) (w : World) (hn : 1 ≤ n) (hn10 : n ≤ 10) (hP : PR w b n P) :
    Calls Try.prog 109 #[.slice (some ⟨b, 0, none⟩) n cap] w fun e w' => ∃ g c, e = .returned (.slice (some ⟨g, 0, none⟩) n c) ∧ w.Since w.heap.size w' ∧ w.heap.size ≤ g ∧ PR w' g n P := by
  obtain ⟨iP, hiP⟩ := infoPt_parts
  have HI := Lib.hid hiP
  have HP := Lib.hid hP
  have hq := Lib.run_eql_slice_nil (P := Try.prog) w 98 101 (some ⟨b, 0, none⟩) n cap 0 0 Try.underlying98
  simp only [Option.isNone_some] at hq
  clear hiP hP
  go_enter Try.func109, Try.ntmps109
  go_wp2_with (at_builtin; (refine wpList_append_own _ rfl _ _ 98 rfl w.heap.size 101 iP (.pointer none) 1 8 Try.underlying98 HI.out.1 HI.out.2.1 HI.out.2.2.1 HI.out.2.2.2 rfl (by decide) (.slice (some ⟨w.heap.size, 0, none⟩) 0 0) 0 [] rfl (World.ownsRow_made w #[] 0 (Nat.le_refl _) (Nat.zero_le _) (by simp)) ⟨b, 0, none⟩ n cap (ptrs P n) rfl (by rw [ptrs_len]; omega) (fun j u hj => by have hl : j < n := (by have := (List.getElem?_eq_some_iff.1 hj).1; rw [ptrs_len] at this; exact this); rw [ptrs_get P hl] at hj; cases hj; rw [addr_add, Nat.zero_add]; exact ((HP.out.since ((World.Since.refl _ _).alloc (Nat.le_refl _) _)).cell hl).1) (fun u hu => by obtain ⟨j, _, rfl⟩ := List.mem_map.1 hu; rfl) (by unfold maxLen; omega) (by omega) (by simp) ?_); intro v' w1 hown' hgrow _)
  rw [Nat.zero_add, List.nil_append] at hown'
  obtain ⟨g, c, rfl, hg, hpr⟩ := PR.of_own hown' (by omega)
  have HS := Lib.hid (((World.Since.refl w.heap.size w).alloc (Nat.le_refl _) (.cells #[] 101)).grown hgrow (by simp) (fun k e => by simp [Value.ownBlock] at e; omega))
  have HPR := Lib.hid hpr
  clear hown' hgrow hpr
  go_wp2_with fail
  go_ret
  exact ⟨_, _, rfl, HS.out, hg, HPR.out⟩

set_option maxRecDepth 100000 in
set_option maxHeartbeats 400000 in
theorem cloneChips_any (a : Option Addr) (cap N : Nat) (cs : List RC) (w : World) (hN : cs.length = N) (h10 : N ≤ 10) (hm : ChipsR w a cs) (hsa : ∃ b o, a = some ⟨b, o, none⟩) :
    Calls Try.prog 103 #[.slice a N cap] w fun e w' => ∃ a' cap', e = .returned (.slice a' N cap') ∧ w.Since w.heap.size w' ∧ OwnC w.heap.size w'.heap.size w' a' cs ∧ N ≤ cap' ∧ cap' ≤ 9223372036854775807 := by
  obtain ⟨iC, hiC⟩ := infoChip_parts
  have HI := Lib.hid hiC
  have HN := Lib.hid hN
  obtain ⟨b, o, rfl⟩ := hsa
  have HA := Lib.hid (fun (W : World) (hs : w.Since w.heap.size W) => hm.cells hs)
  have HCB := Lib.hid (cb_start w #[] rfl)
  have hq := Lib.run_eql_slice_nil (P := Try.prog) w 25 52 (some ⟨b, o, none⟩) N cap 0 0 Try.underlying25
  simp only [Option.isNone_some] at hq
  clear hiC hN hm
  go_enter Try.func103, Try.ntmps103
  go_wp2_with (at_builtin; (refine wpList_append_own _ rfl _ _ 25 rfl w.heap.size 52 iC (.agg #[.string ⟨#[]⟩, .int .i64 0, .int .i64 0]) 3 32 Try.underlying25 HI.out.1 HI.out.2.1 HI.out.2.2.1 HI.out.2.2.2 rfl (by decide) (.slice (some ⟨w.heap.size, 0, none⟩) 0 0) 0 [] rfl HCB.out.own ⟨b, o, none⟩ N cap (ch3 cs) rfl (by rw [ch3_length, HN.out]) (HA.out _ ((World.Since.refl _ _).alloc (Nat.le_refl _) _)) (ch3_one _) (by unfold maxLen; omega) (by omega) (by simp) ?_); intro v' w3 hown' hgrow _; have HC3 := Lib.hid (CB.push HCB.out (ds := cs) (n := 0 + N) (by rw [HN.out]; rfl) (World.Since.refl _ _) hown' hgrow); clear hown' hgrow)
  obtain ⟨a', cap', rfl, hO, h1, h2⟩ := HC3.out.ownC
  rw [List.nil_append] at hO h1 ⊢
  rw [HN.out] at h1 ⊢
  have HO := Lib.hid hO
  have HS := Lib.hid HC3.out.since
  clear hO HC3
  go_wp2_with fail
  go_ret
  exact ⟨_, _, rfl, HS.out, HO.out, h1, h2⟩

end Go.Proofs.Ytdodchmelepkeaa
end

section
namespace Go.Proofs.Ytdodchmelepkeaa
open Go.RowKit Go.Deep

theorem path_skip {c : CH} {cs : List CH} {i t : Nat} (h : ¬ i = chR c) : pathN (c :: cs) i t = pathN cs i t := by
  unfold chR at h
  show (if c.1 = 2 then (if i = c.2.1 then c.2.2 * pathN cs i t else pathN cs i t) else pathN cs i t + (if i = cFrom c then c.2.2 * pathN cs (cTo c) t else 0)) = _
  by_cases e : c.1 = 2
  · rw [if_pos e] at h ⊢
    rw [if_neg h]
  · rw [if_neg e] at h ⊢
    rw [if_neg h, Int.add_zero]
theorem path_here {c : CH} {cs : List CH} {t : Nat} (e : c.1 = 2) : pathN (c :: cs) (chR c) t = c.2.2 * pathN cs (chR c) t := by
  unfold chR
  rw [if_pos e]
  show (if c.1 = 2 then (if c.2.1 = c.2.1 then _ else _) else _) = _
  rw [if_pos e, if_pos rfl]
theorem path_over {c : CH} {cs : List CH} {t : Nat} (e : ¬ c.1 = 2) : pathN (c :: cs) (chR c) t = 1 * pathN cs (chR c) t + c.2.2 * pathN cs (chK c) t := by
  unfold chR chK
  rw [if_neg e, if_neg e]
  show (if c.1 = 2 then _ else pathN cs (cFrom c) t + (if cFrom c = cFrom c then c.2.2 * pathN cs (cTo c) t else 0)) = _
  rw [if_neg e, if_pos rfl, Int.one_mul]

theorem pathsTo_any {E : Nat → Nat} {n t : Nat} (hinj : ∀ i k, i < n → k < n → E i = E k → i = k) (ht : t < n) : ∀ (cs : List CH) (i p : Nat) (w : World), (∀ c ∈ cs, chOk n c ∧ -9 ≤ c.2.2 ∧ c.2.2 ≤ 9) → cs.length ≤ 10 → i < n → Lies w E n cs i p → StC w (E t) none none 0 0 →
    Calls Try.prog 97 #[.pointer (some ⟨p, 0, none⟩), .pointer (some ⟨E t, 0, none⟩)] w fun r w' => r = .returned (.int .i64 (pathN cs i t)) ∧ ∃ m, w' = w.drewN m
  | [], i, p, w, _, _, hi, hl, hE => by
    obtain ⟨rfl, hs⟩ := hl
    by_cases e : i = t
    · subst e
      have hp : pathN [] i i = 1 := by show (if i = i then (1 : Int) else 0) = 1; rw [if_pos rfl]
      rw [hp]
      exact pathsTo_end (E i) w
    · have hp : pathN [] i t = 0 * 0 + 0 * 0 := by show (if i = t then (1 : Int) else 0) = 0; rw [if_neg e]
      rw [hp]
      exact pathsTo_step (E i) (E t) none none 0 0 0 0 w (ptr_other hs hE (fun h => e (hinj i t hi ht h))) hs (by decide) (by decide) (by decide) (fun q => pathsTo_nil _ _) (fun q => pathsTo_nil _ _)
  | c :: cs, i, p, w, hc, h10, hi, hl, hE => by
    have hcc := hc c (by simp)
    have hc' : ∀ d ∈ cs, chOk n d ∧ -9 ≤ d.2.2 ∧ d.2.2 ≤ 9 := fun d hd => hc d (by simp [hd])
    have h10' : cs.length ≤ 10 := by simp at h10; omega
    have hbd : ∀ j, -10000000000 ≤ pathN cs j t ∧ pathN cs j t ≤ 10000000000 := fun j => by
      have h1 := path_bd cs (fun d hd => (hc' d hd).2) j t
      have h2 := p10_le h10'
      omega
    by_cases e : i = chR c
    · subst e
      unfold Lies at hl
      rw [if_pos rfl] at hl
      obtain ⟨hne, q, hq, h3⟩ := hl
      have hnet := hne t ht
      obtain ⟨hw1, hb1, hb2⟩ := wrap_mul9 hcc.2 (hbd (chR c))
      obtain ⟨hw2, hb3, hb4⟩ := wrap_mul9 hcc.2 (hbd (chK c))
      have hb5 := hbd (chR c)
      have hA := fun (m : Nat) => pathsTo_any hinj ht cs (chR c) q (w.drewN m) hc' h10' hi (hq.drawn (Drawn.mk w m)) hE
      by_cases e2 : c.1 = 2
      · rw [if_pos e2] at h3
        rw [path_here e2, show c.2.2 * pathN cs (chR c) t = c.2.2 * pathN cs (chR c) t + 0 * 0 by omega]
        exact pathsTo_step p (E t) _ none c.2.2 0 _ 0 w (ptr_other h3 hE hnet) h3 hw1 (by decide) (by rw [Int.zero_mul, Int.add_zero]; exact hw1) hA (fun q => pathsTo_nil _ _)
      · rw [if_neg e2] at h3
        obtain ⟨r, hr, h5⟩ := h3
        rw [path_over e2]
        have hk := (chRK hcc.1).2
        exact pathsTo_step p (E t) _ _ 1 c.2.2 _ _ w (ptr_other h5 hE hnet) h5 (by rw [Int.one_mul]; exact IntWalk.i64_in _ ⟨by omega, by omega⟩) hw2 (IntWalk.i64_in _ ⟨by omega, by omega⟩) hA
          (fun m => pathsTo_any hinj ht cs (chK c) r (w.drewN m) hc' h10' hk (hr.drawn (Drawn.mk w m)) hE)
    · unfold Lies at hl
      rw [if_neg e] at hl
      rw [path_skip e]
      exact pathsTo_any hinj ht cs i p w hc' h10' hi hl hE

theorem Lies.mono {W V : World} {E : Nat → Nat} {n : Nat} (hs : ∀ p A B x y, StC W p A B x y → StC V p A B x y) : ∀ {cs : List CH} {i p : Nat}, Lies W E n cs i p → Lies V E n cs i p
  | [], _, _, h => ⟨h.1, hs _ _ _ _ _ h.2⟩
  | c :: cs, i, p, h => by
    unfold Lies at h ⊢
    by_cases e : i = chR c
    · rw [if_pos e] at h ⊢
      obtain ⟨h1, q, h2, h3⟩ := h
      refine ⟨h1, q, h2.mono hs, ?_⟩
      by_cases e2 : c.1 = 2
      · rw [if_pos e2] at h3 ⊢
        exact hs _ _ _ _ _ h3
      · rw [if_neg e2] at h3 ⊢
        obtain ⟨r, h4, h5⟩ := h3
        exact ⟨r, h4.mono hs, hs _ _ _ _ _ h5⟩
    · rw [if_neg e] at h ⊢
      exact h.mono hs
theorem Lies.more {V : World} {E : Nat → Nat} {n : Nat} {cs : List CH} {c : CH} {P : Nat → Nat} {p : Nat} (hL : ∀ i, i < n → Lies V E n cs i (P i)) (hc : chOk n c) (hne : ∀ k, k < n → p ≠ E k)
    (hp : if c.1 = 2 then StC V p (some ⟨P (chR c), 0, none⟩) none c.2.2 0 else StC V p (some ⟨P (chR c), 0, none⟩) (some ⟨P (chK c), 0, none⟩) 1 c.2.2) :
    ∀ i, i < n → Lies V E n (c :: cs) i (if i = chR c then p else P i) := fun i hi => by
  obtain ⟨h1, h2⟩ := chRK hc
  unfold Lies
  by_cases e : i = chR c
  · rw [if_pos e, if_pos e]
    refine ⟨hne, P (chR c), by rw [e]; exact hL _ h1, ?_⟩
    by_cases e2 : c.1 = 2
    · rw [if_pos e2] at hp ⊢
      exact hp
    · rw [if_neg e2] at hp ⊢
      exact ⟨P (chK c), hL _ h2, hp⟩
  · rw [if_neg e, if_neg e]
    exact hL i hi

end Go.Proofs.Ytdodchmelepkeaa
end

section
namespace Go.Proofs.Ytdodchmelepkeaa
open Go.RowKit Go.Deep Go.Shelf
attribute [local go_sem] Oper.semAt_some

def backL (N : Nat) : Nat → List {i : Nat // i < N}
  | 0 => []
  | k + 1 => if h : k < N then backL N k ++ [⟨N - 1 - k, by omega⟩] else backL N k
theorem backL_len (N k : Nat) (h : k ≤ N) : (backL N k).length = k := by
  induction k with
  | zero => rfl
  | succ k ih =>
    unfold backL
    rw [dif_pos (by omega), List.length_append, ih (by omega)]
    rfl
theorem backL_step {N k : Nat} (h : k < N) : backL N (k + 1) = backL N k ++ [⟨N - 1 - k, by omega⟩] := by
  show (if h : k < N then _ else _) = _
  rw [dif_pos h]
def cameL (cs : List RC) {N : Nat} (pre : List {i : Nat // i < N}) : List RC := pre.map fun x => cs.getD x.1 rc0
theorem came_all {cs : List RC} {N : Nat} (hN : cs.length = N) : ∀ k, k ≤ N → cameL cs (backL N k) = (cs.drop (N - k)).reverse
  | 0, _ => by
    rw [Nat.sub_zero, List.drop_of_length_le (by omega)]
    rfl
  | k + 1, h => by
    rw [backL_step (show k < N by omega)]
    unfold cameL
    rw [List.map_append]
    have ih := came_all hN k (by omega)
    unfold cameL at ih
    rw [ih, show N - k = (N - (k + 1)) + 1 by omega]
    have hlt : N - (k + 1) < cs.length := by omega
    rw [List.drop_eq_getElem_cons hlt, List.reverse_cons]
    congr 1
    show [cs.getD (N - 1 - k) rc0] = _
    rw [show N - 1 - k = N - (k + 1) by omega]
    simp [List.getD, hlt]
theorem came_whole {cs : List RC} {N : Nat} (hN : cs.length = N) : cameL cs (backL N N) = cs.reverse := by
  rw [came_all hN N (Nat.le_refl _), Nat.sub_self, List.drop_zero]

def encB (cs : List RC) {N : Nat} (x : {i : Nat // i < N}) : Array Value := #[.int .i64 (x.1 : Int), .agg #[.string (cs.getD x.1 rc0).k, .int .i64 (cs.getD x.1 rc0).l, .int .i64 (cs.getD x.1 rc0).w]]
def KpC (B b : Nat) (X Y : World) : Prop := Y.heap[B]? = X.heap[B]? ∧ Y.heap[b]? = X.heap[b]?
theorem KpC.refl (B b : Nat) (X : World) : KpC B b X X := ⟨rfl, rfl⟩
theorem KpC.trans {B b : Nat} {X Y Z : World} (h : KpC B b X Y) (k : KpC B b Y Z) : KpC B b X Z := ⟨k.1.trans h.1, k.2.trans h.2⟩
theorem KpC.grown {B b : Nat} {X Y : World} {row : Option Nat} (h : X.grownBy Y row) (h1 : B < X.heap.size) (h2 : b < X.heap.size) (h3 : row ≠ some B) (h4 : row ≠ some b) : KpC B b X Y := ⟨h.block B h1 (fun e => h3 e.symm), h.block b h2 (fun e => h4 e.symm)⟩
theorem kpC_b {B b : Nat} {w : World} (h1 : B < w.heap.size) (h2 : b < w.heap.size) (W : World) (l : Nat) (o o' : Obj) (hl : w.heap.size ≤ l) (h : W.heap[l]? = some o) (_ : o.isCells = false) (_ : o.isWalk = false) : KpC B b W (W.putObj l o') := by
  have := (Array.getElem?_eq_some_iff.1 h).1
  exact KpC.grown (grownBy_putObj' W l o') (by omega) (by omega) (fun e => by cases e; omega) (fun e => by cases e; omega)

set_option maxRecDepth 100000 in
set_option maxHeartbeats 1000000 in
theorem back_in (q : Nat) (hq : 2 ≤ q) (l B b o N cap : Nat) (a : Option Addr) (cs : List RC) (hN : N ≤ 10) (ha : 0 < N → a = some ⟨b, o, none⟩) (J Jx : List {i : Nat // i < N} → World → Prop)
    (hY : ∀ pre x W, J pre W → pre.length < 11 → YieldAt Fence.wide (q - 1) Try.prog l (encB cs x) W fun e W' =>
      (e = .returned (.bool true) ∧ J (pre ++ [x]) W' ∧ KpC B b W W') ∨ (e = .returned (.bool false) ∧ Jx (pre ++ [x]) W'))
    (W : World) (hB : W.cell? ⟨B, 0, none⟩ = some (.slice a N cap))
    (hc : ∀ k, k < N → W.cell? ⟨b, o + k * 3, none⟩ = some (.string (cs.getD k rc0).k) ∧ W.cell? ⟨b, o + k * 3 + 1, none⟩ = some (.int .i64 (cs.getD k rc0).l) ∧ W.cell? ⟨b, o + k * 3 + 2, none⟩ = some (.int .i64 (cs.getD k rc0).w)) (h0 : J [] W) :
    CallsIn Fence.wide q Try.prog 101 #[.func (.yield l) #[] #[], .pointer (some ⟨B, 0, none⟩)] W fun e W' => (∃ v, e = .returned v) ∧
      ((∃ ys, ys = backL N N ∧ J ys W') ∨ (∃ pre, (∃ k, k ≤ N ∧ pre = backL N k) ∧ Jx pre W')) := by
  have hw1 : IntKind.i64.wrap ((N : Int) - 1) = (N : Int) - 1 := IntWalk.i64_in _ ⟨by omega, by omega⟩
  refine callsIn_of_wp Try.func101 rfl trivial ?_ rfl
  simp only [Try.ntmps101, List.size_toArray, List.length_cons, List.length_nil, Nat.reduceAdd, Nat.reduceSub, Array.replicate_succ, Array.replicate_zero, List.push_toArray, List.append_toArray, List.nil_append, List.cons_append]
  gi_wp2
  gi_loopw [3] (fun i wr => ∃ (k : Nat) (z : Int), k ≤ N ∧ i = .int .i64 z ∧ z + 1 = ((N - k : Nat) : Int) ∧ J (backL N k) wr ∧ wr.cell? ⟨B, 0, none⟩ = some (.slice a N cap) ∧ (∀ k, k < N → wr.cell? ⟨b, o + k * 3, none⟩ = some (.string (cs.getD k rc0).k) ∧ wr.cell? ⟨b, o + k * 3 + 1, none⟩ = some (.int .i64 (cs.getD k rc0).l) ∧ wr.cell? ⟨b, o + k * 3 + 2, none⟩ = some (.int .i64 (cs.getD k rc0).w)))
    (fun i _ => (intOf i + 1).toNat)
  case atStart => exact ⟨0, _, Nat.zero_le _, rfl, by omega, h0, hB, hc⟩
  case round =>
    obtain ⟨k, z, hk, rfl, hz, hJs, hB', hc'⟩ := hrel
    by_cases hlt : k < N
    · obtain ⟨j, rfl⟩ : ∃ j : Nat, z = j := ⟨N - 1 - k, by omega⟩
      have hj : j = N - 1 - k := by omega
      have hjN : j < N := by omega
      obtain rfl := ha (by omega)
      obtain ⟨c1, c2, c3⟩ := hc' j hjN
      have hst := backL_step hlt
      have hpl := backL_len N k hk
      obtain ⟨fn, tmps, assign, body, hy, hR⟩ := hY _ ⟨j, hjN⟩ wr hJs (by omega)
      have hw2 : IntKind.i64.wrap ((j : Int) - 1) = (j : Int) - 1 := IntWalk.i64_in _ ⟨by omega, by omega⟩
      dsimp only [encB] at hy
      have hx : (⟨N - 1 - k, by omega⟩ : {i : Nat // i < N}) = ⟨j, hjN⟩ := Subtype.ext hj.symm
      rw [hx] at hst
      obtain ⟨K, hK⟩ : ∃ K, (cs.getD j rc0).k = K := ⟨_, rfl⟩
      obtain ⟨L, hL⟩ : ∃ L, (cs.getD j rc0).l = L := ⟨_, rfl⟩
      obtain ⟨V, hV⟩ : ∃ V, (cs.getD j rc0).w = V := ⟨_, rfl⟩
      rw [hK] at c1 hy; rw [hL] at c2 hy; rw [hV] at c3 hy
      have HST := Lib.hid hst
      have HC := Lib.hid hc'
      have HJ := Lib.hid hj
      clear hB hc hst hc' hK hL hV hpl hx hj ha hz
      gi_wp2
      refine ⟨fun _ => by omega, hR.mono ?_⟩
      rintro e W3 (⟨rfl, hJ3, hk3⟩ | ⟨rfl, hJx3⟩)
      · have HJ3 := Lib.hid hJ3
        have hB3 := (World.cell?_of_block hk3.1).trans hB'
        have HK := Lib.hid hk3
        have HJ' := HJ.out
        clear hy hR hk3 hB' hJs hJ3
        gi_wp2
        go_roundw
        case rel => exact ⟨k + 1, _, by omega, rfl, by have := HJ.out; omega, by rw [HST.out]; exact HJ3.out, hB3, fun i hi => ⟨(World.cell?_of_block HK.out.2).trans (HC.out i hi).1, (World.cell?_of_block HK.out.2).trans (HC.out i hi).2.1, (World.cell?_of_block HK.out.2).trans (HC.out i hi).2.2⟩⟩
        case measure => simp [intOf]; omega
      · gi_wp2
        refine bodyPost_ret (results_none rfl _ _ _) rfl ?_
        exact ⟨⟨_, rfl⟩, .inr ⟨_, ⟨k + 1, by omega, HST.out.symm⟩, hJx3⟩⟩
    · obtain rfl : k = N := by omega
      obtain rfl : z = -1 := by omega
      gi_wp2
      go_end0
      exact ⟨⟨_, rfl⟩, .inl ⟨_, rfl, hJs⟩⟩

theorem back_stops (q : Nat) (hq : 2 ≤ q) (B b o N cap : Nat) (a : Option Addr) (cs : List RC) (hN : N ≤ 10) (ha : 0 < N → a = some ⟨b, o, none⟩) (w : World) (h1 : B < w.heap.size) (h2 : b < w.heap.size) (hB : w.cell? ⟨B, 0, none⟩ = some (.slice a N cap))
    (hc : ∀ k, k < N → w.cell? ⟨b, o + k * 3, none⟩ = some (.string (cs.getD k rc0).k) ∧ w.cell? ⟨b, o + k * 3 + 1, none⟩ = some (.int .i64 (cs.getD k rc0).l) ∧ w.cell? ⟨b, o + k * 3 + 2, none⟩ = some (.int .i64 (cs.getD k rc0).w)) :
    SeqStopsK Fence.wide q Try.prog 101 #[.pointer (some ⟨B, 0, none⟩)] (encB cs) (KpC B b) (fun ys => ys = backL N N) (fun pre => ∃ k, k ≤ N ∧ pre = backL N k) 11 w := fun l J Jx W hW _ _ hY hJ =>
  back_in q hq l B b o N cap a cs hN ha J Jx hY W ((hW.cell (p := ⟨B, 0, none⟩) h1).trans hB)
    (fun k hk => ⟨(hW.cell (p := ⟨b, o + k * 3, none⟩) h2).trans (hc k hk).1, (hW.cell (p := ⟨b, o + k * 3 + 1, none⟩) h2).trans (hc k hk).2.1, (hW.cell (p := ⟨b, o + k * 3 + 2, none⟩) h2).trans (hc k hk).2.2⟩) hJ

theorem backward_any (a : Option Addr) (N cap : Nat) (w : World) :
    Calls Try.prog 73 #[.slice a N cap] w fun e w' => e = .returned (.func (.func 101) #[] #[.pointer (some ⟨w.heap.size, 0, none⟩)]) ∧ w' = w.alloc (.cells #[.slice a N cap] 25) := by
  go_enter Try.func73, Try.ntmps73
  go_wp2
  go_ret
  exact ⟨rfl, rfl⟩

end Go.Proofs.Ytdodchmelepkeaa
end

section
namespace Go.Proofs.Ytdodchmelepkeaa
open Go.RowKit Go.Deep Go.Shelf
attribute [local go_sem] Oper.semAt_some

theorem round_region_heldL {lp n id : Nat} {P : Program} {ops : Array Oper} {Q : Exit → Act → World → Prop} {a : Act} {w : World} {S : World → Prop} (hm : P.follows .mixedOrders = true) (hd : noDefer ops = true) (hno : ¬ LetsOut Q) (hS : S w.drew)
    (h : S w.drew → wpAnyH P .any ops Q S ops.size (Array.replicate ops.size false) a w.drew) : (Code.region id ops true).wpIn (Fence.wide.inRound lp) n P Q a w :=
  wpIn_region_any hm (wpAnyIn_of_wpAny hno (noDefer_of hd) _ _ _ _ (wpAny_of_held _ _ _ _ (h hS)))

structure EndsAt (w wr : World) (v : Value) (k : Nat) (E : Nat → Nat) : Prop where
  since : w.Since w.heap.size wr
  box : Boxed wr w.heap.size 98 (.slice none 0 0)
  own : wr.ownsRow (w.heap.size + 1) 101 1 v k (ptrs E k)
  st : ∀ j, j < k → StC wr (E j) none none 0 0
  inj : ∀ i j, i < k → j < k → E i = E j → i = j

theorem EndsAt.push {w wr w1 : World} {v v' : Value} {k : Nat} {E : Nat → Nat} (h : EndsAt w wr v k E)
    (hown : w1.ownsRow (w.heap.size + 1) 101 1 v' (k + 1) (ptrs E k ++ [ptrV wr.heap.size])) (hg : ((wr.alloc (.cells #[.pointer none, .pointer none, .int .i64 0, .int .i64 0] 113)).alloc (.cells #[ptrV wr.heap.size] 101)).grownBy w1 v.ownBlock) :
    EndsAt w w1 v' (k + 1) (fun j => if j = k then wr.heap.size else E j) := by
  have hz := h.since.size
  have hzb := h.box.lt
  have hlt := fun j hj => (h.st j hj).lt
  have hnew : StC ((wr.alloc (.cells #[.pointer none, .pointer none, .int .i64 0, .int .i64 0] 113)).alloc (.cells #[ptrV wr.heap.size] 101)) wr.heap.size none none 0 0 :=
    (Below.heap_alloc _ _ _ (by simp)).trans (World.alloc_heap_new wr _)
  have hold : ∀ j, j < k → StC ((wr.alloc (.cells #[.pointer none, .pointer none, .int .i64 0, .int .i64 0] 113)).alloc (.cells #[ptrV wr.heap.size] 101)) (E j) none none 0 0 := fun j hj =>
    (h.st j hj).since (((World.Since.refl _ _).alloc (Nat.le_refl _) _).alloc (by simp) _)
  have hrow : ∀ p A B x y, StC ((wr.alloc (.cells #[.pointer none, .pointer none, .int .i64 0, .int .i64 0] 113)).alloc (.cells #[ptrV wr.heap.size] 101)) p A B x y → StC w1 p A B x y := fun p A B x y hp => by
    refine (hg.block p hp.lt fun e => ?_).trans hp
    rcases h.own.2 with ⟨rfl, _⟩ | ⟨g, cap, cur, rfl, _, hgg, _⟩
    · simp [Value.ownBlock] at e
    · simp [Value.ownBlock] at e
      subst e
      have h1 : ((wr.alloc (.cells #[.pointer none, .pointer none, .int .i64 0, .int .i64 0] 113)).alloc (.cells #[ptrV wr.heap.size] 101)).heap[p]? = wr.heap[p]? := (Below.heap_alloc _ _ _ (by have := (Array.getElem?_eq_some_iff.1 hgg).1; simp; omega)).trans (Below.heap_alloc _ _ _ (Array.getElem?_eq_some_iff.1 hgg).1)
      have h2 : (_ : World).heap[p]? = _ := hp
      rw [h1, hgg] at h2
      simp at h2
  refine ⟨((h.since.alloc hz _).alloc (by simp; omega) _).grown hg (by simp; omega) (fun b e => by have := (h.own.lt b e).1; omega), ?_, ?_, fun j hj => ?_, fun i j hi hj e => ?_⟩
  · refine ((h.box.alloc _).alloc _).kept hg fun e => ?_
    have := (h.own.lt _ e.symm).1
    omega
  · rw [ptrs_succ, if_pos rfl, ptrs_congr (Q := E) (fun j hj => by rw [if_neg (by omega)])]
    exact hown
  · by_cases e : j = k
    · rw [if_pos e]; exact hrow _ _ _ _ _ hnew
    · rw [if_neg e]; exact hrow _ _ _ _ _ (hold j (by omega))
  · by_cases e1 : i = k <;> by_cases e2 : j = k
    · omega
    · rw [if_pos e1, if_neg e2] at e; have := hlt j (by omega); omega
    · rw [if_neg e1, if_pos e2] at e; have := hlt i (by omega); omega
    · rw [if_neg e1, if_neg e2] at e; exact h.inj i j (by omega) (by omega) e

structure LinkI (w W0 : World) (sb eb n sc : Nat) (E : Nat → Nat) (L : List CH) (W : World) : Prop where
  since : w.Since w.heap.size W
  size : W0.heap.size ≤ W.heap.size
  box : Boxed W w.heap.size 98 (.slice (some ⟨sb, 0, none⟩) n sc)
  ends : PR W eb n E
  st : ∀ i, i < n → StC W (E i) none none 0 0
  lies : ∃ P, PR W sb n P ∧ ∀ i, i < n → Lies W E n L i (P i)
theorem StC.frz {W : World} {p : Nat} {A B : Option Addr} {x y : Int} (h : StC W p A B x y) (j : Nat) : W.frozen? ⟨p, j, none⟩ = false := by
  have h' : W.heap[p]? = _ := h
  simp [World.frozen?, h']
theorem StC.set1 {W : World} {p : Nat} {A B : Option Addr} {x y : Int} (h : StC W p A B x y) (C : Option Addr) : StC (W.setCell ⟨p, 1, none⟩ (.pointer C)) p A C x y := by
  obtain ⟨hlt, hk⟩ := Array.getElem?_eq_some_iff.1 h
  show (W.heap.modify p _)[p]? = _
  rw [Array.getElem?_eq_getElem (by rw [Array.size_modify]; exact hlt), Array.getElem_modify_self, hk]
  rfl
theorem StC.set3 {W : World} {p : Nat} {A B : Option Addr} {x y : Int} (h : StC W p A B x y) (z : Int) : StC (W.setCell ⟨p, 3, none⟩ (.int .i64 z)) p A B x z := by
  obtain ⟨hlt, hk⟩ := Array.getElem?_eq_some_iff.1 h
  show (W.heap.modify p _)[p]? = _
  rw [Array.getElem?_eq_getElem (by rw [Array.size_modify]; exact hlt), Array.getElem_modify_self, hk]
  rfl
theorem StC.kept {W V : World} {row : Option Nat} {p : Nat} {A B : Option Addr} {x y : Int} (h : StC W p A B x y) (hg : W.grownBy V row) (hr : ∀ r, row = some r → ∃ o : Obj, W.heap[r]? = some o ∧ o.isCells = false) : StC V p A B x y := (hg.block p h.lt (fun e => by
  obtain ⟨o, ho, hc⟩ := hr p e.symm
  have h' : W.heap[p]? = _ := h
  rw [h'] at ho; cases ho; cases hc)).trans h
theorem PR.kept {W V : World} {row : Option Nat} {b n : Nat} {P : Nat → Nat} (h : PR W b n P) (hg : W.grownBy V row) (hr : ∀ r, row = some r → ∃ o : Obj, W.heap[r]? = some o ∧ o.isCells = false) : PR V b n P := h.block (hg.block b h.lt (fun e => by
  obtain ⟨o, ho, hc⟩ := hr b e.symm
  obtain ⟨cur, h', _⟩ := h
  rw [h'] at ho; cases ho; cases hc))
theorem since_rowL {w X Y : World} {row : Option Nat} {B : Nat} (h : w.Since w.heap.size X) (hB : w.heap.size ≤ B) (hg : X.grownBy Y row) (hr : ∀ r, row = some r → B ≤ r) : w.Since w.heap.size Y :=
  ⟨hg.os.trans h.os, hg.tape.trans h.tape, hg.output.trans h.output, Nat.le_trans h.size hg.size, fun k hk => (hg.block k (by have := h.size; omega) (fun e => by have := hr k e.symm; omega)).trans (h.block k hk)⟩
theorem LinkI.own {w W0 : World} {sb eb n sc : Nat} {E : Nat → Nat} {L : List CH} {X Y : World} {row : Option Nat} (h : LinkI w W0 sb eb n sc E L X) (hg : X.grownBy Y row) (hr : ∀ r, row = some r → W0.heap.size ≤ r ∧ ∃ o : Obj, X.heap[r]? = some o ∧ o.isCells = false) (hw : w.heap.size ≤ W0.heap.size) : LinkI w W0 sb eb n sc E L Y :=
  ⟨since_rowL h.since hw hg (fun r e => (hr r e).1), Nat.le_trans h.size hg.size, boxed_own w.heap.size _ (fun (_ : Unit) => .slice (some ⟨sb, 0, none⟩) n sc) () X Y row h.box hg (fun r e => (hr r e).2), h.ends.kept hg (fun r e => (hr r e).2), fun i hi => (h.st i hi).kept hg (fun r e => (hr r e).2), by
    obtain ⟨P, h1, h2⟩ := h.lies
    exact ⟨P, h1.kept hg (fun r e => (hr r e).2), fun i hi => (h2 i hi).mono fun p A B x y hp => hp.kept hg (fun r e => (hr r e).2)⟩⟩

theorem link_end {w W0 W w4 V : World} {sb eb n sc B b : Nat} {E : Nat → Nat} {L : List CH} {CC : CH} {P : Nat → Nat} (hI : LinkI w W0 sb eb n sc E L W) (hP : PR W sb n P) (hL : ∀ i, i < n → Lies W E n L i (P i)) (hs4 : W.Since W.heap.size w4) (hV : w4.Since w4.heap.size V) (hok : chOk n CC)
    (hst : if CC.1 = 2 then StC V w4.heap.size (some ⟨P (chR CC), 0, none⟩) none CC.2.2 0 else StC V w4.heap.size (some ⟨P (chR CC), 0, none⟩) (some ⟨P (chK CC), 0, none⟩) 1 CC.2.2)
    (h1 : w.heap.size < sb) (h2 : sb < W0.heap.size) (h3 : eb ≠ sb) (h4 : B < W0.heap.size) (h5 : b < W0.heap.size) (h6 : B ≠ sb) (h7 : b ≠ sb) :
    KeepsFrom W0.heap.size W (V.setCell ⟨sb, chR CC, none⟩ (.pointer (some ⟨w4.heap.size, 0, none⟩))) ∧ KpC B b W (V.setCell ⟨sb, chR CC, none⟩ (.pointer (some ⟨w4.heap.size, 0, none⟩))) ∧ LinkI w W0 sb eb n sc E (CC :: L) (V.setCell ⟨sb, chR CC, none⟩ (.pointer (some ⟨w4.heap.size, 0, none⟩))) := by
  have hz4 := hs4.size
  have hzV := hV.size
  have hzW := hI.size
  have hsV : W.Since W.heap.size V := hs4.trans (since_mono hV hz4)
  have hblk : ∀ q, q < W.heap.size → q ≠ sb → (V.setCell ⟨sb, chR CC, none⟩ (.pointer (some ⟨w4.heap.size, 0, none⟩))).heap[q]? = W.heap[q]? := fun q hq hne => (Below.heap_setCell _ _ _ _ (by exact hne)).trans (hsV.block q hq)
  have hzS : (V.setCell ⟨sb, chR CC, none⟩ (.pointer (some ⟨w4.heap.size, 0, none⟩))).heap.size = V.heap.size := by simp
  have hPV := hP.since hsV
  have hstC : ∀ p A B x y, StC V p A B x y → StC (V.setCell ⟨sb, chR CC, none⟩ (.pointer (some ⟨w4.heap.size, 0, none⟩))) p A B x y := fun p A B x y hp => (Below.heap_setCell _ _ _ _ (by exact hPV.ne hp)).trans hp
  refine ⟨⟨by rw [hzS]; omega, fun q o hq hk _ => (hblk q (Array.getElem?_eq_some_iff.1 hk).1 (by omega)).trans hk⟩, ⟨hblk B (by omega) h6, hblk b (by omega) h7⟩, ⟨(hI.since.trans (since_mono hsV hI.since.size)).setCell (by show w.heap.size ≤ sb; omega) _, by rw [hzS]; omega, (hblk _ hI.box.lt (by omega)).trans hI.box, hI.ends.block (hblk _ hI.ends.lt h3), fun i hi => hstC _ _ _ _ _ ((hI.st i hi).since hsV), ?_⟩⟩
  refine ⟨_, hPV.set w4.heap.size, fun i hi => ?_⟩
  refine (Lies.more (fun i hi => (hL i hi).since hsV) hok (fun k hk e => ?_) hst i hi).mono hstC
  have := (hI.st k hk).lt
  omega

set_option maxRecDepth 100000 in
set_option maxHeartbeats 1000000 in
theorem linked_any (a : Option Addr) (cap N n : Nat) (cs : List RC) (w : World) (hN : cs.length = N) (ho : NetOk n cs) (hm : ChipsR w a cs) :
    Calls Try.prog 96 #[.int .i64 n, .slice a N cap] w fun e w' => ∃ (sb eb c1 c2 : Nat) (P E : Nat → Nat), e = .returned (.tuple #[.slice (some ⟨sb, 0, none⟩) n c1, .slice (some ⟨eb, 0, none⟩) n c2]) ∧ w.Since w.heap.size w' ∧
      PR w' sb n P ∧ PR w' eb n E ∧ (∀ i j, i < n → j < n → E i = E j → i = j) ∧ (∀ i, i < n → StC w' (E i) none none 0 0) ∧ ∀ i, i < n → Lies w' E n (cs.map toC) i (P i) := by
  obtain ⟨iP, hiP⟩ := infoPt_parts
  have HI := Lib.hid hiP
  have hn2 := ho.lo
  have hn5 := ho.hi
  have h10 := ho.len
  rw [hN] at h10
  have hst : EndsAt w (w.alloc (.cells #[.slice none 0 0] 98)) (.slice none 0 0) 0 (fun _ => 0) := ⟨(World.Since.refl _ _).alloc (Nat.le_refl _) _, Boxed.new w _ _, World.ownsRow_nil _ _ _ _, fun j hj => by omega, fun i j hi => by omega⟩
  have HST := Lib.hid hst
  have HN := Lib.hid hN
  have HM := Lib.hid hm
  have HO := Lib.hid ho
  clear hiP hst hN hm ho
  refine (callsIn_wide (n := 9)).1 ?_
  refine callsIn_of_wp_marks Try.func96 rfl trivial ?_ rfl
  simp only [Try.ntmps96, List.size_toArray, List.length_cons, List.length_nil, Nat.reduceAdd, Nat.reduceSub, Array.replicate_succ, Array.replicate_zero, List.push_toArray, List.append_toArray, List.nil_append, List.cons_append]
  gi_wp2
  gi_loopw [5, 12] (fun v i wr => ∃ (k : Nat) (E : Nat → Nat), k ≤ n ∧ i = .int .i64 k ∧ EndsAt w wr v k E) (fun _ i _ => n - (intOf i).toNat)
  case atStart => exact ⟨0, _, Nat.zero_le _, rfl, HST.out⟩
  case round =>
    obtain ⟨k, E, hk, rfl, hE⟩ := hrel
    clear HST
    by_cases hlt : k < n
    · have HE := Lib.hid hE
      have hz := hE.since.size
      have hzb := hE.box.lt
      clear hE
      gi_wp2_with (gi_at_builtin; (refine wpListIn_append_own _ rfl _ _ 98 rfl (w.heap.size + 1) 101 iP (.pointer none) 1 8 Try.underlying98 HI.out.1 HI.out.2.1 HI.out.2.2.1 HI.out.2.2.2 rfl (by decide) _ _ _ rfl ((HE.out.own.alloc _).alloc _) ⟨wr.heap.size + 1, 0, none⟩ 1 1 [ptrV wr.heap.size] rfl rfl (cell_one_at _ _ _ (by simp)) (fun x hx => by simp at hx; subst hx; rfl) (by unfold maxLen; omega) (by omega) (by simp; omega) ?_); intro v' w1 hown' hgrow _)
      have HP := Lib.hid (HE.out.push hown' hgrow)
      clear hown' hgrow
      go_roundw
      case rel => exact ⟨k + 1, _, by omega, by simp, HP.out⟩
      case measure => simp [intOf]; omega
    · obtain rfl : k = n := by omega
      obtain ⟨eb, ec, rfl, heb, hpr⟩ := PR.of_own hE.own (by omega)
      have HC := Lib.hid (clonePtr_any eb k ec E wr (by omega) (by omega) hpr)
      have HE := Lib.hid hE
      have HPR := Lib.hid hpr
      have hbx := hE.box.cell
      clear hE hpr
      gi_wp2_with (first
        | (refine ⟨trivial, ?_⟩; gi_at_call 109; refine (callsIn_wide.2 (HC.out)).mono ?_; rintro e w2 ⟨sb, sc, rfl, hs2, hsb, hpr2⟩; have HS2 := Lib.hid hs2; have HPR2 := Lib.hid hpr2; have bx2 := (HE.out.box.kept (row := none) ⟨hs2.os, hs2.tape, hs2.output, hs2.size, fun b hb _ => hs2.block b hb⟩ (by simp)); have cb2 := bx2.cell; have fb2 := bx2.frozen; clear hs2 hpr2)
        | (refine ⟨trivial, ?_⟩; gi_at_call 73; refine (callsIn_wide.2 (backward_any _ _ _ _)).mono ?_; rintro e w3 ⟨rfl, rfl⟩))
      obtain ⟨B, hB⟩ : ∃ B, w2.heap.size = B := ⟨_, rfl⟩
      obtain ⟨W0, hW0⟩ : ∃ W0, W0 = (w2.setCell ⟨w.heap.size, 0, none⟩ (.slice (some ⟨sb, 0, none⟩) k sc)).alloc (.cells #[.slice a N cap] 25) := ⟨_, rfl⟩
      rw [hB, ← hW0]
      have hz2 := HS2.out.size
      have hzE := HE.out.since.size
      have hsz0 : W0.heap.size = B + 1 := by rw [hW0, ← hB]; simp
      have hsb2 := HPR2.out.lt
      have hx0 := HE.out.box.lt
      have heb0 := HPR.out.lt
      have hS0 : w.Since w.heap.size W0 := by rw [hW0]; exact (((HE.out.since.trans (since_mono HS2.out hzE)).setCell (Nat.le_refl _) _).alloc (by simp; omega) _)
      have hbox : Boxed W0 w.heap.size 98 (.slice (some ⟨sb, 0, none⟩) k sc) := by rw [hW0]; exact (bx2.set _).alloc _
      have hkeep : ∀ q, q < w2.heap.size → q ≠ w.heap.size → W0.heap[q]? = w2.heap[q]? := fun q h1 h2 => by rw [hW0]; exact (Below.heap_alloc _ _ _ (by simp; omega)).trans (Below.heap_setCell _ _ _ _ (by exact h2))
      have hpr0 : PR W0 sb k E := HPR2.out.block (hkeep _ hsb2 (by omega))
      have hpe0 : PR W0 eb k E := (HPR.out.since HS2.out).block (hkeep _ (by omega) (by omega))
      have hstc0 : ∀ i, i < k → StC W0 (E i) none none 0 0 := fun i hi => by
        have h1 := (HE.out.st i hi).since HS2.out
        refine (hkeep _ h1.lt (fun e => ?_)).trans h1
        have h2 : w2.heap[E i]? = _ := h1
        have h3 : w2.heap[w.heap.size]? = _ := bx2
        rw [e, h3] at h2
        simp at h2
      have hBc : W0.cell? ⟨B, 0, none⟩ = some (.slice a N cap) := by
        have h := Boxed.new (w2.setCell ⟨w.heap.size, 0, none⟩ (.slice (some ⟨sb, 0, none⟩) k sc)) 25 (.slice a N cap)
        rw [← hW0] at h
        have h' := h.cell
        simpa [hB] using h'
      have HIN := Lib.hid HE.out.inj
      have HO5 := Lib.hid (fun (x : {i : Nat // i < N}) => show cs.getD x.1 rc0 ∈ cs from by
        have hx : x.1 < cs.length := by rw [HN.out]; exact x.2
        have : cs.getD x.1 rc0 = cs[x.1] := by simp [List.getD, hx]
        rw [this]; exact List.getElem_mem _)
      -- the chips' block
      obtain ⟨b, o, ha, hb, hc⟩ : ∃ b o, (0 < N → a = some ⟨b, o, none⟩) ∧ (b < w.heap.size ∨ b = B) ∧ ∀ q, q < N → W0.cell? ⟨b, o + q * 3, none⟩ = some (.string (cs.getD q rc0).k) ∧ W0.cell? ⟨b, o + q * 3 + 1, none⟩ = some (.int .i64 (cs.getD q rc0).l) ∧ W0.cell? ⟨b, o + q * 3 + 2, none⟩ = some (.int .i64 (cs.getD q rc0).w) := by
        by_cases h0 : 0 < N
        · obtain ⟨b, o, e, hc⟩ := HM.out (by rw [HN.out]; exact h0)
          have hl := World.block_lt_of_cell? _ _ (hc 0 (by rw [HN.out]; exact h0)).1
          exact ⟨b, o, fun _ => e, .inl hl, fun q hq => ⟨(hS0.cell (by exact hl)).trans (hc q (by rw [HN.out]; exact hq)).1, (hS0.cell (by exact hl)).trans (hc q (by rw [HN.out]; exact hq)).2.1, (hS0.cell (by exact hl)).trans (hc q (by rw [HN.out]; exact hq)).2.2⟩⟩
        · exact ⟨B, 0, fun h => absurd h h0, .inr rfl, fun q hq => by omega⟩
      have hB1 : w2.heap.size ≤ B := by omega
      have hbB : b < W0.heap.size := by omega
      have hne1 : b ≠ sb := by omega
      have hne2 : B ≠ sb := by omega
      clear hW0 hB hkeep bx2 cb2 fb2 hbx
      refine wpIn_rangeFunc_ownH (F := Fence.wide) (n := 9) rfl (by omega) (gf := 101) (lb := #[.pointer (some ⟨B, 0, none⟩)]) rfl trivial (enters_of Try.func101 (by kernel_rfl) rfl)
        (back_stops 8 (by omega) B b o N cap a cs h10 ha W0 (by omega) hbB hBc hc)
        (fun h k => h.trans k) (kpC_b (by omega) hbB) (Below.refl _ _) (fun _ => rfl)
        (fun pre W => LinkI w W0 sb eb k sc E (((cameL cs pre).reverse).map toC) W)
        (fun _ _ _ => False)
        (fun s X Y row hs hg hr => hs.own hg hr hS0.size)
        (fun c s X Y row hs hg hr => hs)
        ⟨hS0, Nat.le_refl _, hbox, hpe0, hstc0, E, hpr0, fun i hi => ⟨rfl, hstc0 i hi⟩⟩
        (fun x a' W => ∃ Bx, W0.heap.size ≤ Bx ∧ Box3 W Bx (cs.getD x.1 rc0).k (cs.getD x.1 rc0).l (cs.getD x.1 rc0).w ∧ a' = { tmps := #[.int .i64 k, .slice a N cap, undef, undef, .pointer (some ⟨w.heap.size, 0, none⟩), .slice (some ⟨eb, 0, none⟩) k ec, undef, .pointer (some ⟨Bx, 0, none⟩), undef, undef, undef, .int .i64 k, .int .i64 k, .bool false, u14, u15, u16, u17, u18, u19, .slice (some ⟨eb, 0, none⟩) k ec, .slice (some ⟨sb, 0, none⟩) k sc, .slice a N cap, .func (.func 101) #[] #[.pointer (some ⟨B, 0, none⟩)], .int .i64 (x.1 : Int), .agg #[.string (cs.getD x.1 rc0).k, .int .i64 (cs.getD x.1 rc0).l, .int .i64 (cs.getD x.1 rc0).w], undef, undef, undef, undef, undef, undef, undef, undef, undef, undef, undef, undef, undef, undef, undef, undef, undef, undef, undef, undef, undef, undef, undef, undef, undef, undef, undef, undef, undef, undef, undef, undef, undef, undef, undef, undef, undef], defers := [] })
        (fun x a' _ X Y row hs hg hr => by obtain ⟨Bx, h1, h2, h3⟩ := hs; exact ⟨Bx, h1, h2.own hg (fun r e => (hr r e).2), h3⟩)
        ?assign ?body ?done ?stop
      case assign =>
        rintro l2 pre x W Kq hI hK
        simp only [encB]
        gi_wp2
        exact hK _ _ ((KeepsOthers.alloc _ _).from _) (KpC.grown (World.grownBy_alloc _ _ none) (by have := hI.size; omega) (by have := hI.size; omega) (by simp) (by simp)) (hI.own (World.grownBy_alloc _ _ none) (fun r e => by cases e) hS0.size) ⟨W.heap.size, hI.size, Box3.new W _ _ _, rfl⟩
      case body =>
        rintro l2 pre x a' W hl ⟨r, hr⟩ hI ⟨Bx, hBx, bX, rfl⟩ hlt
        have hmem := HO5.out x
        have hcam : ((cameL cs (pre ++ [x])).reverse).map toC = toC (cs.getD x.1 rc0) :: ((cameL cs pre).reverse).map toC := by
          unfold cameL
          rw [List.map_append, List.reverse_append, List.map_append]
          rfl
        obtain ⟨L, hL⟩ : ∃ L, ((cameL cs pre).reverse).map toC = L := ⟨_, rfl⟩
        rw [hL] at hI hcam
        have hok := HO.out.ok _ hmem
        obtain ⟨c, hcc⟩ : ∃ c, cs.getD x.1 rc0 = c := ⟨_, rfl⟩
        rw [hcc] at bX hok hcam ⊢
        have hRK := chRK hok.2
        have EE := fun (V : World) => ends_any c V hok.1
        have hmore := fun (w4 V : World) (P : Nat → Nat) (hP : PR W sb k P) (hL : ∀ i, i < k → Lies W E k L i (P i)) (hs4 : W.Since W.heap.size w4) (hV : w4.Since w4.heap.size V) hst => link_end (B := B) (b := b) (CC := toC c) hI hP hL hs4 hV hok.2 hst (by omega) (by omega) (by omega) (by omega) hbB hne2 hne1
        have hkind : chR (toC c) = chK (toC c) ↔ (toC c).1 = 2 := by
          constructor
          · intro e
            by_cases e2 : (toC c).1 = 2
            · exact e2
            · unfold chR chK at e
              rw [if_neg e2, if_neg e2] at e
              exact absurd e (ch_ft hok.2 e2).2.2
          · intro e
            unfold chR chK
            rw [if_pos e, if_pos e]
        rw [toC_w] at hmore
        obtain ⟨f, hf⟩ : ∃ f, chR (toC c) = f := ⟨_, rfl⟩
        obtain ⟨t, ht⟩ : ∃ t, chK (toC c) = t := ⟨_, rfl⟩
        simp only [hf, ht] at EE hmore hRK hkind
        obtain ⟨CC, hCC⟩ : ∃ CC, toC c = CC := ⟨_, rfl⟩
        rw [hCC] at hcam hmore hkind
        obtain ⟨K, Ln, V⟩ := c
        simp only at EE hmore bX ⊢
        obtain ⟨hf5, ht5⟩ := hRK
        obtain ⟨P, hPR, hLie⟩ := hI.lies
        obtain ⟨c1, c2, c3⟩ := bX.cells
        have hI1 := hI.size
        have HII := Lib.hid hI
        have HPRR := Lib.hid hPR
        have HLIE := Lib.hid hLie
        have HMORE := Lib.hid hmore
        have HCAM := Lib.hid hcam
        have HBXX := Lib.hid bX
        have HKIND := Lib.hid hkind
        replace EE := Lib.hid EE
        have hBxl := bX.lt
        clear hI hPR hLie hmore hcam hok hcc hf ht hCC hmem hL hkind bX hr
        by_cases e2 : f = t
        · subst e2
          have HK2 := Lib.hid (HKIND.out.1 rfl)
          clear HKIND
          gi_wp2_with (first
            | (refine ⟨trivial, ?_⟩; gi_at_call 93; refine (CallsIn.inRound l2 (callsIn_wide.2 (EE.out _))).mono ?_; rintro e w4 ⟨rfl, hs4⟩; have hz4 := hs4.size; have cb4 := (hs4.cell (World.block_lt_of_cell? _ _ HII.out.box.cell)).trans HII.out.box.cell; have cp4 := (hs4.cell (World.block_lt_of_cell? _ _ (HPRR.out.cell hf5).1)).trans (HPRR.out.cell hf5).1; have fp4 := (hs4.frozen (World.block_lt_of_cell? _ _ (HPRR.out.cell hf5).1)).trans (HPRR.out.cell hf5).2; have ct4 := (hs4.cell (World.block_lt_of_cell? _ _ (HPRR.out.cell ht5).1)).trans (HPRR.out.cell ht5).1; have cw4 := (hs4.cell (World.block_lt_of_cell? _ _ c3)).trans c3; have cb5 := fun ob => cell_alloc_l ob cb4; have cp5 := fun ob => cell_alloc_l ob cp4; have ct5 := fun ob => cell_alloc_l ob ct4; have cw5 := fun ob => cell_alloc_l ob cw4; have fp5 := fun ob => frozen_alloc_l ob cp4 fp4; have HS4 := Lib.hid hs4; clear hs4 c1 c2 c3))
          have hfin := HMORE.out w4 _ P HPRR.out HLIE.out HS4.out ((World.Since.refl _ _).alloc (Nat.le_refl _) (.cells #[.pointer (some ⟨P f, 0, none⟩), .pointer none, .int .i64 V, .int .i64 0] 113)) (by rw [if_pos HK2.out]; exact World.alloc_heap_new w4 _)
          rw [← HCAM.out] at hfin
          exact hfin
        · have hft : (f == t) = false := by simpa using e2
          have hft' : ((f : Int) == (t : Int)) = false := by simp; omega
          have HK2 := Lib.hid (fun h => e2 (HKIND.out.2 h))
          clear HKIND e2
          gi_wp2_with (first
            | (refine ⟨trivial, ?_⟩; gi_at_call 93; refine (CallsIn.inRound l2 (callsIn_wide.2 (EE.out _))).mono ?_; rintro e w4 ⟨rfl, hs4⟩; have hz4 := hs4.size; have cb4 := (hs4.cell (World.block_lt_of_cell? _ _ HII.out.box.cell)).trans HII.out.box.cell; have cp4 := (hs4.cell (World.block_lt_of_cell? _ _ (HPRR.out.cell hf5).1)).trans (HPRR.out.cell hf5).1; have fp4 := (hs4.frozen (World.block_lt_of_cell? _ _ (HPRR.out.cell hf5).1)).trans (HPRR.out.cell hf5).2; have ct4 := (hs4.cell (World.block_lt_of_cell? _ _ (HPRR.out.cell ht5).1)).trans (HPRR.out.cell ht5).1; have cw4 := (hs4.cell (World.block_lt_of_cell? _ _ c3)).trans c3; have cb5 := fun ob => cell_alloc_l ob cb4; have cp5 := fun ob => cell_alloc_l ob cp4; have ct5 := fun ob => cell_alloc_l ob ct4; have cw5 := fun ob => cell_alloc_l ob cw4; have fp5 := fun ob => frozen_alloc_l ob cp4 fp4; have HS4 := Lib.hid hs4; clear hs4 c1 c2 c3))
          have hmix : Try.prog.follows .mixedOrders = true := by kernel_rfl
          have hX0 : StC (w4.alloc (.cells #[.pointer (some ⟨P f, 0, none⟩), .pointer none, .int .i64 1, .int .i64 0] 113)).drew w4.heap.size (some ⟨P f, 0, none⟩) none 1 0 := World.alloc_heap_new w4 _
          have hsX : w4.Since w4.heap.size (w4.alloc (.cells #[.pointer (some ⟨P f, 0, none⟩), .pointer none, .int .i64 1, .int .i64 0] 113)).drew := ((World.Since.refl _ _).alloc (Nat.le_refl _) _).drew
          have hbl := World.block_lt_of_cell? _ _ cb4
          have hsl := World.block_lt_of_cell? _ _ ct4
          have hxl := World.block_lt_of_cell? _ _ cw4
          simp only at hbl hsl hxl
          have hS : (fun W' : World => W'.cell? ⟨w.heap.size, 0, none⟩ = some (.slice (some ⟨sb, 0, none⟩) k sc) ∧ W'.cell? ⟨sb, t, none⟩ = some (.pointer (some ⟨P t, 0, none⟩)) ∧ W'.cell? ⟨Bx, 2, none⟩ = some (.int .i64 V)) (w4.alloc (.cells #[.pointer (some ⟨P f, 0, none⟩), .pointer none, .int .i64 1, .int .i64 0] 113)).drew := ⟨cb5 _, ct5 _, cw5 _⟩
          refine round_region_heldL (S := fun W' : World => W'.cell? ⟨w.heap.size, 0, none⟩ = some (.slice (some ⟨sb, 0, none⟩) k sc) ∧ W'.cell? ⟨sb, t, none⟩ = some (.pointer (some ⟨P t, 0, none⟩)) ∧ W'.cell? ⟨Bx, 2, none⟩ = some (.int .i64 V)) hmix (by kernel_rfl) (by rintro ⟨a, w, h⟩; exact h) hS (fun hS => ?_)
          obtain ⟨p4, hp4⟩ : ∃ p, w4.heap.size = p := ⟨_, rfl⟩
          obtain ⟨X, hX⟩ : ∃ X, (w4.alloc (.cells #[.pointer (some ⟨P f, 0, none⟩), .pointer none, .int .i64 1, .int .i64 0] 113)).drew = X := ⟨_, rfl⟩
          rw [hX] at hX0 hsX hS ⊢
          rw [hp4] at hX0 hbl hsl hxl ⊢
          have fpX : X.frozen? ⟨sb, f, none⟩ = false := by rw [← hX]; exact fp5 _
          have cpX : X.cell? ⟨sb, f, none⟩ = some (.pointer (some ⟨P f, 0, none⟩)) := by rw [← hX]; exact cp5 _
          have HP4 := Lib.hid hp4
          clear hX hp4 cb5 cp5 ct5 cw5 fp5 cb4 cp4 fp4 ct4 cw4
          refine wpAnyH_take (i := 0) (v := .pointer (some ⟨p4, 0, none⟩)) rfl (by kernel_rfl) (by kernel_rfl) (by kernel_rfl) (fun _ _ _ h => h) (Or.inl ⟨by rfl, fun W' h => by go_simp⟩) hS ?_
          simp only [Act.put, List.setIfInBounds_toArray]
          refine wpAnyH_take (i := 1) (v := .pointer (some ⟨p4, 0, none⟩)) rfl (by kernel_rfl) (by kernel_rfl) (by kernel_rfl) (fun _ _ _ h => h) (Or.inl ⟨by rfl, fun W' h => by go_simp⟩) hS ?_
          simp only [Act.put]
          refine wpAnyH_take (i := 2) (v := .slice (some ⟨sb, 0, none⟩) k sc) rfl (by kernel_rfl) (by kernel_rfl) (by kernel_rfl) (fun _ _ _ h => h) (Or.inl ⟨by rfl, fun W' h => by have hc := h.1; go_simp⟩) hS ?_
          simp only [Act.put]
          refine wpAnyH_take (i := 3) (v := .int .i64 t) rfl (by kernel_rfl) (by kernel_rfl) (by kernel_rfl) (fun _ _ _ h => h) (Or.inl ⟨by rfl, fun W' h => by go_simp⟩) hS ?_
          simp only [Act.put]
          refine wpAnyH_take (i := 4) (v := .pointer (some ⟨sb, t, none⟩)) rfl (by kernel_rfl) (by kernel_rfl) (by kernel_rfl) (fun _ _ _ h => h) (Or.inl ⟨by rfl, fun W' h => by go_simp⟩) hS ?_
          simp only [Act.put]
          refine wpAnyH_take (i := 5) (v := .pointer (some ⟨P t, 0, none⟩)) rfl (by kernel_rfl) (by kernel_rfl) (by kernel_rfl) (fun _ _ _ h => h) (Or.inl ⟨by rfl, fun W' h => by have hc := h.2.1; go_simp⟩) hS ?_
          simp only [Act.put]
          refine wpAnyH_take (i := 6) (v := .pointer (some ⟨Bx, 2, none⟩)) rfl (by kernel_rfl) (by kernel_rfl) (by kernel_rfl) (fun _ _ _ h => h) (Or.inl ⟨by rfl, fun W' h => by go_simp⟩) hS ?_
          simp only [Act.put]
          refine wpAnyH_take (i := 7) (v := .int .i64 V) rfl (by kernel_rfl) (by kernel_rfl) (by kernel_rfl) (fun _ _ _ h => h) (Or.inl ⟨by rfl, fun W' h => by have hc := h.2.2; go_simp⟩) hS ?_
          simp only [Act.put]
          refine wpAnyH_take (i := 8) (v := .pointer (some ⟨p4, 0, none⟩)) rfl (by kernel_rfl) (by kernel_rfl) (by kernel_rfl) (fun _ _ _ h => h) (Or.inl ⟨by rfl, fun W' h => by go_simp⟩) hS ?_
          simp only [Act.put]
          refine wpAnyH_take (i := 9) (v := .pointer (some ⟨p4, 1, none⟩)) rfl (by kernel_rfl) (by kernel_rfl) (by kernel_rfl) (fun _ _ _ h => h) (Or.inl ⟨by rfl, fun W' h => by go_simp⟩) hS ?_
          simp only [Act.put]
          obtain ⟨x1, x2, x3, x4⟩ := hX0.cells
          have f1 := hX0.frz
          refine wpAnyH_ready (rs := [10]) (by kernel_rfl) (by simp) (AllReadyH.cons rfl (fun K hK => ?_) AllReadyH.nil)
          go_simp
          refine hK.out _ _ ⟨cell_set_ne hS.1 (by show w.heap.size ≠ p4; omega), cell_set_ne hS.2.1 (by show sb ≠ p4; omega), cell_set_ne hS.2.2 (by show Bx ≠ p4; omega)⟩ (fun hS1 => ?_)
          clear hK K
          have hX1 := hX0.set1 (some ⟨P t, 0, none⟩)
          have hsX1 := hsX.setCell (a := ⟨p4, 1, none⟩) (by have := HP4.out; show w4.heap.size ≤ p4; omega) (.pointer (some ⟨P t, 0, none⟩))
          have cpX1 := cell_set_ne (g := p4) (j := 1) (v := .pointer (some ⟨P t, 0, none⟩)) cpX (by show sb ≠ p4; omega)
          have fpX1 : (X.setCell ⟨p4, 1, none⟩ (.pointer (some ⟨P t, 0, none⟩))).frozen? ⟨sb, f, none⟩ = false := by rw [World.frozen?_setCell]; exact fpX
          obtain ⟨X1, hX1e⟩ : ∃ X1, X.setCell ⟨p4, 1, none⟩ (.pointer (some ⟨P t, 0, none⟩)) = X1 := ⟨_, rfl⟩
          rw [hX1e] at hS1 hX1 hsX1 cpX1 fpX1 ⊢
          clear hX1e hS hX0 hsX cpX fpX x1 x2 x3 x4 f1
          refine wpAnyH_take (i := 11) (v := .pointer (some ⟨p4, 0, none⟩)) rfl (by kernel_rfl) (by kernel_rfl) (by kernel_rfl) (fun _ _ _ h => h) (Or.inl ⟨by rfl, fun W' h => by go_simp⟩) hS1 ?_
          simp only [Act.put, List.setIfInBounds_toArray]
          refine wpAnyH_take (i := 12) (v := .pointer (some ⟨p4, 3, none⟩)) rfl (by kernel_rfl) (by kernel_rfl) (by kernel_rfl) (fun _ _ _ h => h) (Or.inl ⟨by rfl, fun W' h => by go_simp⟩) hS1 ?_
          simp only [Act.put]
          obtain ⟨x1, x2, x3, x4⟩ := hX1.cells
          have f1 := hX1.frz
          refine wpAnyH_ready (rs := [13]) (by kernel_rfl) (by simp) (AllReadyH.cons rfl (fun K hK => ?_) AllReadyH.nil)
          go_simp
          refine hK.out _ _ ⟨cell_set_ne hS1.1 (by show w.heap.size ≠ p4; omega), cell_set_ne hS1.2.1 (by show sb ≠ p4; omega), cell_set_ne hS1.2.2 (by show Bx ≠ p4; omega)⟩ (fun hS2 => ?_)
          clear hK K
          have hX2 := hX1.set3 V
          have hsX2 := hsX1.setCell (a := ⟨p4, 3, none⟩) (by have := HP4.out; show w4.heap.size ≤ p4; omega) (.int .i64 V)
          have cpX2 := cell_set_ne (g := p4) (j := 3) (v := .int .i64 V) cpX1 (by show sb ≠ p4; omega)
          have fpX2 : (X1.setCell ⟨p4, 3, none⟩ (.int .i64 V)).frozen? ⟨sb, f, none⟩ = false := by rw [World.frozen?_setCell]; exact fpX1
          obtain ⟨X2, hX2e⟩ : ∃ X2, X1.setCell ⟨p4, 3, none⟩ (.int .i64 V) = X2 := ⟨_, rfl⟩
          rw [hX2e] at hS2 hX2 hsX2 cpX2 fpX2 ⊢
          clear hX2e hS1 hX1 hsX1 cpX1 fpX1 x1 x2 x3 x4 f1
          refine wpAnyH_done (by kernel_rfl) ?_ _
          obtain ⟨cb, _, _⟩ := hS2
          have hfin := HMORE.out w4 X2 P HPRR.out HLIE.out HS4.out hsX2 (by rw [if_neg HK2.out, HP4.out]; exact hX2)
          rw [← HCAM.out, HP4.out] at hfin
          have HFIN := Lib.hid hfin
          clear hfin hX2 hsX2
          gi_wp2_with fail
          have h := HFIN.out
          rw [hsz0, List.map_reverse] at h
          exact h
      case done =>
        rintro D ys W hD rfl hI hK
        rw [came_whole HN.out, List.reverse_reverse] at hI
        have cb := hI.box.cell
        have fb := hI.box.frozen
        obtain ⟨P, hPR, hLie⟩ := hI.lies
        have H1 := Lib.hid hI
        have H2 := Lib.hid (And.intro hPR hLie)
        have hzW := hI.size
        clear hI hPR hLie hc hpr0 hpe0 hstc0 hS0 hBc hbox
        gi_wp2
        have hK' := (KeepsOthers.setCell W ⟨w.heap.size, 0, none⟩ (.slice (some ⟨sb, 0, none⟩) k sc)).same D _ hK rfl
        refine ⟨by simp, .inl ⟨_, _, rfl, run_takeDeferred hK', ?_⟩⟩
        have hg := grownBy_putObj' (W.setCell ⟨w.heap.size, 0, none⟩ (.slice (some ⟨sb, 0, none⟩) k sc)) D (.deferred none)
        have hr : ∀ r, some D = some r → ∃ o : Obj, (W.setCell ⟨w.heap.size, 0, none⟩ (.slice (some ⟨sb, 0, none⟩) k sc)).heap[r]? = some o ∧ o.isCells = false := fun r e => by cases e; exact ⟨_, hK', rfl⟩
        have hbk : ∀ q, q ≠ w.heap.size → (W.setCell ⟨w.heap.size, 0, none⟩ (.slice (some ⟨sb, 0, none⟩) k sc)).heap[q]? = W.heap[q]? := fun q hq => Below.heap_setCell _ _ _ _ (by exact hq)
        have hc5 := ((H1.out.box.set (.slice (some ⟨sb, 0, none⟩) k sc)).kept hg (fun e => by injection e; omega)).cell
        have hst : ∀ p A B x y, StC W p A B x y → StC ((W.setCell ⟨w.heap.size, 0, none⟩ (.slice (some ⟨sb, 0, none⟩) k sc)).putObj D (.deferred none)) p A B x y := fun p A B x y hp => StC.kept ((hbk p (fun e => by
          have h1 : W.heap[p]? = _ := hp
          have h2 : W.heap[w.heap.size]? = _ := H1.out.box
          rw [e, h2] at h1
          simp at h1)).trans hp) hg hr
        have hsn := since_rowL ((H1.out.since.setCell (a := ⟨w.heap.size, 0, none⟩) (Nat.le_refl _) (.slice (some ⟨sb, 0, none⟩) k sc))) (Nat.le_refl _) hg (fun r e => by cases e; omega)
        refine ⟨.tuple #[.slice (some ⟨sb, 0, none⟩) k sc, .slice (some ⟨eb, 0, none⟩) k ec], ?_, sb, eb, sc, ec, P, E, rfl, hsn, ?_, ?_, HIN.out, fun i hi => hst _ _ _ _ _ (H1.out.st i hi), fun i hi => (H2.out.2 i hi).mono hst⟩
        · simp [results, Try.f96, go_sem, hc5]
        · exact (H2.out.1.block (hbk sb (by omega))).kept hg hr
        · exact (H1.out.ends.block (hbk eb (by omega))).kept hg hr
      case stop =>
        rintro D c pre W hD hpre hF hK
        exact hF.elim

set_option maxRecDepth 100000 in
set_option maxHeartbeats 400000 in
theorem pathSum_any (a : Option Addr) (cap N n i k : Nat) (cs : List RC) (w : World) (hN : cs.length = N) (ho : NetOk n cs) (hm : ChipsR w a cs) (hi : i < n) (hk : k < n) :
    Calls Try.prog 67 #[.int .i64 n, .slice a N cap, .int .i64 i, .int .i64 k] w fun e w' => e = .returned (.int .i64 (pathN (cs.map toC) i k)) ∧ w.Since w.heap.size w' := by
  have E := Lib.hid (linked_any a cap N n cs w hN ho hm)
  have HO := Lib.hid ho
  obtain ⟨Z, hZ⟩ : ∃ Z, pathN (cs.map toC) i k = Z := ⟨_, rfl⟩
  have HZ := Lib.hid hZ
  rw [hZ]
  have hw5 := ho.hi
  clear hN ho hm hZ
  go_enter Try.func67, Try.ntmps67
  go_wp2_with (go_at_call 96; refine (E.out).mono ?_; rintro e w1 ⟨sb, eb, c1, c2, P, E1, rfl, hs1, hp, he, hin, hst, hl⟩; have HS1 := Lib.hid hs1; have cp := (hp.cell hi).1; have ce := (he.cell hk).1; have EP := Lib.hid (fun (q : Nat) => pathsTo_any hin hk (cs.map toC) i (P i) (w1.drewN q) (fun c hc => by obtain ⟨d, hd, rfl⟩ := List.mem_map.1 hc; exact ⟨(HO.out.ok d hd).2, (HO.out.rc d hd).2.2⟩) (by rw [List.length_map]; exact HO.out.len) hi ((hl i hi).drawn (Drawn.mk w1 q)) (hst k hk)); clear hs1 hp he hin hst hl)
  rw [HZ.out] at EP
  go_quiet ((go_at_call 97; with_reducible exact Calls.quiet_of (EP.out _)))
  go_wp2_with fail
  go_ret
  exact ⟨rfl, since_drewN HS1.out _⟩

end Go.Proofs.Ytdodchmelepkeaa
end

section
namespace Go.Proofs.Ytdodchmelepkeaa
open Go.RowKit Go.Deep

set_option maxHeartbeats 400000 in
theorem netIn1_any (K : ByteArray) (L V : Int) (n Bn : Nat) (hn2 : 2 ≤ n) (hn5 : n ≤ 5) (w : World) (hb : w.cell? ⟨Bn, 0, none⟩ = some (.int .i64 n)) :
    Calls Try.prog 48 #[.agg #[.string K, .int .i64 L, .int .i64 V], .pointer (some ⟨Bn, 0, none⟩)] w fun e w' => e = .returned (.bool (!chipB n ⟨K, L, V⟩)) ∧ w.Since w.heap.size w' := by
  have E := Lib.hid (fun (W : World) => isIn_any K L V n hn2 hn5 W)
  obtain ⟨d1, d2, d3⟩ := chip_box w K L V 52
  have HS := Lib.hid ((World.Since.refl w.heap.size w).alloc (Nat.le_refl _) (.cells #[.string K, .int .i64 L, .int .i64 V] 52))
  have hb' := cell_alloc_l (.cells #[.string K, .int .i64 L, .int .i64 V] 52) hb
  clear hb
  go_enter Try.func48, Try.ntmps48
  go_wp2_with (go_at_call 49; refine (E.out _).mono ?_; rintro e w1 ⟨rfl, hs1⟩; have HS1 := Lib.hid (HS.out.trans (since_mono hs1 HS.out.size)); clear hs1)
  go_ret
  exact ⟨rfl, HS1.out⟩

theorem all_no {n : Int} {cs : List RC} {i : Nat} (hi : i < cs.length) (h : chipB n (cs.getD i rc0) = false) : cs.all (chipB n) = false := by
  cases e : cs.all (chipB n) with
  | false => rfl
  | true =>
    have h1 := List.all_eq_true.1 e (cs.getD i rc0) (by
      have : cs.getD i rc0 = cs[i] := by simp [List.getD, hi]
      rw [this]; exact List.getElem_mem _)
    rw [h] at h1; cases h1
theorem all_yes {n : Int} {cs : List RC} (h : ∀ i, i < cs.length → chipB n (cs.getD i rc0) = true) : cs.all (chipB n) = true := List.all_eq_true.2 fun c hc => by
  obtain ⟨i, hi, e⟩ := List.mem_iff_getElem.1 hc
  have := h i hi
  rw [show cs.getD i rc0 = cs[i] by simp [List.getD, hi], e] at this
  exact this

def IdxPost (b : Bool) (w : World) (e : Ending) (w' : World) : Prop := ∃ z : Int, e = .returned (.int .i64 z) ∧ decide (0 ≤ z) = !b ∧ w.Since w.heap.size w'

set_option maxRecDepth 100000 in
set_option maxHeartbeats 400000 in
theorem indexF_any (a : Option Addr) (cap N n Bn : Nat) (cs : List RC) (w : World) (hN : cs.length = N) (h10 : N ≤ 10) (hn2 : 2 ≤ n) (hn5 : n ≤ 5) (hm : ChipsR w a cs) (hb : w.cell? ⟨Bn, 0, none⟩ = some (.int .i64 n)) :
    Calls Try.prog 85 #[.slice a N cap, .func (.func 48) #[] #[.pointer (some ⟨Bn, 0, none⟩)]] w (IdxPost (cs.all (chipB n)) w) := by
  have E := Lib.hid (fun (W : World) (hs : w.Since w.heap.size W) (K : ByteArray) (L V : Int) => netIn1_any K L V n Bn hn2 hn5 W ((hs.cell (World.block_lt_of_cell? _ _ hb)).trans hb))
  have HN := Lib.hid hN
  have HM := Lib.hid hm
  have HF := Lib.hid (fun (i : Nat) (hi : i < N) h => all_no (n := n) (cs := cs) (i := i) (by omega) h)
  have HT := Lib.hid (fun h => all_yes (n := (n : Int)) (cs := cs) h)
  clear hN hm hb
  go_enter Try.func85, Try.ntmps85
  go_wp2_with fail
  go_loopg [5, 8] N (fun g _ i wr => ∃ r : Nat, r ≤ N ∧ g = N - r ∧ i = .int .i64 r ∧ w.Since w.heap.size wr ∧ ∀ j, j < r → chipB n (cs.getD j rc0) = true)
  case atStart => exact ⟨0, Nat.zero_le _, rfl, rfl, World.Since.refl _ _, fun j hj => by omega⟩
  case round =>
    obtain ⟨r, hr, rfl, rfl, hS, hall⟩ := hrel
    by_cases hlt : r < N
    · obtain ⟨b, o, rfl, k1, k2, k3⟩ := HM.out.at (show r < cs.length by rw [HN.out]; exact hlt)
      have c1 := (hS.cell (World.block_lt_of_cell? _ _ k1)).trans k1
      have c2 := (hS.cell (World.block_lt_of_cell? _ _ k2)).trans k2
      have c3 := (hS.cell (World.block_lt_of_cell? _ _ k3)).trans k3
      have hf := HF.out r hlt
      have ht := fun (h : chipB n (cs.getD r rc0) = true) => show ∀ j, j < r + 1 → chipB n (cs.getD j rc0) = true from fun j hj => by
        by_cases e : j = r
        · subst e; exact h
        · exact hall j (by omega)
      obtain ⟨c, hc⟩ : ∃ c, cs.getD r rc0 = c := ⟨_, rfl⟩
      rw [hc] at c1 c2 c3 hf ht
      obtain ⟨K, L, V⟩ := c
      simp only at c1 c2 c3
      have E1 := E.out wr hS K L V
      have HS := Lib.hid hS
      have HTT := Lib.hid ht
      cases hcb : chipB n ⟨K, L, V⟩ with
      | false =>
        have HFF := Lib.hid (hf hcb)
        rw [hcb] at E1
        replace E1 := Lib.hid E1
        clear k1 k2 k3 hc hcb hf hall hS ht
        go_wp2_with (go_at_call 48; refine (E1.out).mono ?_; rintro e w1 ⟨rfl, hs1⟩; have HS1 := Lib.hid (HS.out.trans (since_mono hs1 HS.out.size)); clear hs1)
        go_ret
        exact ⟨_, rfl, by rw [HFF.out]; simp, HS1.out⟩
      | true =>
        rw [hcb] at E1
        replace E1 := Lib.hid E1
        have HTA := Lib.hid (ht hcb)
        clear k1 k2 k3 hc hcb hf hall hS ht HTT
        go_wp2_with (go_at_call 48; refine (E1.out).mono ?_; rintro e w1 ⟨rfl, hs1⟩; have HS1 := Lib.hid (HS.out.trans (since_mono hs1 HS.out.size)); clear hs1)
        go_roundg (N - (r + 1))
        case measure => omega
        case rel => exact ⟨r + 1, by omega, rfl, by go_num, HS1.out, HTA.out⟩
    · obtain rfl : r = N := by omega
      have HTA := Lib.hid (HT.out (fun i hi => hall i (by rw [HN.out] at hi; exact hi)))
      have HS := Lib.hid hS
      clear hall hS
      go_wp2_with fail
      go_ret
      exact ⟨_, rfl, by rw [HTA.out]; rfl, HS.out⟩

set_option maxHeartbeats 400000 in
theorem containsF_any (a : Option Addr) (cap N n Bn : Nat) (cs : List RC) (w : World) (hN : cs.length = N) (h10 : N ≤ 10) (hn2 : 2 ≤ n) (hn5 : n ≤ 5) (hm : ChipsR w a cs) (hb : w.cell? ⟨Bn, 0, none⟩ = some (.int .i64 n)) :
    Calls Try.prog 47 #[.slice a N cap, .func (.func 48) #[] #[.pointer (some ⟨Bn, 0, none⟩)]] w fun e w' => e = .returned (.bool (!cs.all (chipB n))) ∧ w.Since w.heap.size w' := by
  have E := Lib.hid (indexF_any a cap N n Bn cs w hN h10 hn2 hn5 hm hb)
  obtain ⟨b, hbb⟩ : ∃ b, cs.all (chipB n) = b := ⟨_, rfl⟩
  rw [hbb] at E ⊢
  clear hbb hN hm hb
  go_enter Try.func47, Try.ntmps47
  go_wp2_with (go_at_call 85; refine (E.out).mono ?_; rintro e w1 ⟨z, rfl, hz, hs1⟩; have HZ := Lib.hid hz; have HS1 := Lib.hid hs1; clear hs1 hz)
  go_ret
  exact ⟨ret_bool HZ.out, HS1.out⟩

set_option maxHeartbeats 400000 in
theorem implNetIn_any (a : Option Addr) (cap N : Nat) (n : Int) (cs : List RC) (w : World) (hN : cs.length = N) (h63 : N ≤ 9223372036854775807) (hm : ChipsR w a cs) :
    Calls Try.prog 16 #[.int .i64 n, .slice a N cap] w fun e w' => e = .returned (.bool (netB n cs)) ∧ w.Since w.heap.size w' := by
  have hv : netB n cs = (inB n 2 5 && (decide (N ≤ 10) && cs.all (chipB n))) := by unfold netB; rw [hN]
  have HS := Lib.hid ((World.Since.refl w.heap.size w).alloc (Nat.le_refl _) (.cells #[.int .i64 n] 3))
  have hbx := (cell_new_l w (.int .i64 n) 3).1
  obtain ⟨b, hbb⟩ : ∃ b, inB n 2 5 = b := ⟨_, rfl⟩
  rw [hbb] at hv
  have E := fun (W : World) => inRange_any n 2 5 W
  simp only [hbb] at E
  replace E := Lib.hid E
  cases b with
  | false =>
    rw [hv, Bool.false_and]
    clear hv hbb hN hm
    go_enter Try.func16, Try.ntmps16
    go_wp2_with (go_at_call 46; refine (E.out _).mono ?_; rintro e w' ⟨rfl, rfl⟩)
    go_ret
    exact ⟨rfl, HS.out⟩
  | true =>
    unfold inB at hbb
    have hbb := of_decide_eq_true hbb
    obtain ⟨m, rfl⟩ : ∃ m : Nat, n = m := ⟨n.toNat, by omega⟩
    rw [Bool.true_and] at hv
    by_cases h10 : N ≤ 10
    · rw [decide_eq_true h10, Bool.true_and] at hv
      have hl' : decide ((10 : Int) < (N : Int)) = false := by simp; omega
      have E2 := Lib.hid (containsF_any a cap N m w.heap.size cs (w.alloc (.cells #[.int .i64 m] 3)) hN h10 (by omega) (by omega) (hm.since ((World.Since.refl w.heap.size w).alloc (Nat.le_refl _) _)) hbx)
      obtain ⟨q, hq⟩ : ∃ q, cs.all (chipB m) = q := ⟨_, rfl⟩
      rw [hq] at hv E2
      rw [hv]
      clear hv hbb hN hm hq
      go_enter Try.func16, Try.ntmps16
      go_wp2_with (first
        | (go_at_call 46; refine (E.out _).mono ?_; rintro e w' ⟨rfl, rfl⟩)
        | (go_at_call 47; refine (E2.out).mono ?_; rintro e w1 ⟨rfl, hs1⟩; have HS1 := Lib.hid (HS.out.trans (since_mono hs1 HS.out.size)); clear hs1))
      go_ret
      exact ⟨by simp, HS1.out⟩
    · rw [decide_eq_false h10, Bool.false_and] at hv
      have hl' : decide ((10 : Int) < (N : Int)) = true := by simp; omega
      rw [hv]
      clear hv hbb hN hm
      go_enter Try.func16, Try.ntmps16
      go_wp2_with (go_at_call 46; refine (E.out _).mono ?_; rintro e w' ⟨rfl, rfl⟩)
      go_ret
      exact ⟨rfl, HS.out⟩

end Go.Proofs.Ytdodchmelepkeaa
end

section
namespace Go.Proofs.Ytdodchmelepkeaa
open Go.RowKit Go.Deep Go.Shelf
attribute [local go_sem] Oper.semAt_some

theorem CB.turn {w W W' : World} {v : Value} {cs : List RC} {row : Option Nat} (h : CB w W v cs) (hg : W.grownBy W' row) (hr : ∀ r, row = some r → w.heap.size ≤ r ∧ ∃ o : Obj, W.heap[r]? = some o ∧ o.isCells = false) : CB w W' v cs := by
  refine ⟨h.since.grown hg h.since.size (fun k e => (hr k e).1), h.own.kept hg ?_⟩
  rcases h.own.2 with ⟨hv, _⟩ | ⟨g, cap, cur, hv, _, hgg, _⟩
  · exact .inl (by rw [hv]; rfl)
  · refine .inr ?_
    rw [hv]
    intro e
    obtain ⟨_, o, h2, h3⟩ := hr g e.symm
    rw [hgg] at h2
    injection h2 with h2
    rw [← h2] at h3
    cases h3
theorem CB.setBelow {w W : World} {v : Value} {cs : List RC} {g : Nat} (h : CB w W v cs) (hg : g < w.heap.size) (u : Value) : CB (w.setCell ⟨g, 0, none⟩ u) (W.setCell ⟨g, 0, none⟩ u) v cs := by
  refine ⟨⟨h.since.os, h.since.tape, h.since.output, by simpa using h.since.size, fun k hk => ?_⟩, ?_⟩
  · have hk' : k < w.heap.size := by simpa using hk
    simp [World.setCell, Array.getElem?_modify, h.since.block k hk']
  · rw [World.size_setCell]
    refine h.own.kept (row := some g) ⟨rfl, rfl, rfl, by simp, fun k hk hne => Below.heap_setCell _ _ _ _ (fun e => hne (by rw [e]))⟩ ?_
    cases hv : v.ownBlock with
    | none => exact .inl rfl
    | some k => exact .inr (fun e => by injection e with e; have := (h.own.lt k hv).1; omega)

structure TndC (W0 Wb : World) (g : Nat) : Prop where
  os : Wb.os = W0.os
  tape : Wb.tape = W0.tape
  output : Wb.output = W0.output
  size : Wb.heap.size = W0.heap.size
  block : ∀ b, b < W0.heap.size → b ≠ g → Wb.heap[b]? = W0.heap[b]?
def PCh (W0 : World) (g : Nat) (L : List RC) (W : World) : Prop :=
  ∃ Wb v, TndC W0 Wb g ∧ Wb.heap[g]? = some (.cells #[v] 25 (0, 0)) ∧ CB Wb W v L
theorem PCh.kp {W0 : World} {g : Nat} {L : List RC} {W : World} (h : PCh W0 g L W) : W0.heap.size ≤ W.heap.size ∧ ∀ b, b ≠ g → b < W0.heap.size → W.heap[b]? = W0.heap[b]? := by
  obtain ⟨Wb, v, hT, _, hB⟩ := h
  have h1 := hT.size
  exact ⟨by have := hB.since.size; omega, fun b hb hlt => (hB.since.block b (by omega)).trans (hT.block b hlt hb)⟩
theorem PCh.own {W0 A B : World} {g : Nat} {L : List RC} {row : Option Nat} (h : PCh W0 g L A) (hg : A.grownBy B row) (hr : ∀ r, row = some r → W0.heap.size ≤ r ∧ ∃ o : Obj, A.heap[r]? = some o ∧ o.isCells = false) : PCh W0 g L B := by
  obtain ⟨Wb, v, hT, hb, hB⟩ := h
  exact ⟨Wb, v, hT, hb, hB.turn hg (fun r e => by rw [hT.size]; exact hr r e)⟩
theorem PCh.since {w W0 W : World} {g : Nat} {L : List RC} (h : PCh W0 g L W) (hB : w.Since w.heap.size W0) (hg : w.heap.size ≤ g) : w.Since w.heap.size W := by
  obtain ⟨Wb, v, hT, _, hBT⟩ := h
  have h1 := hT.size
  have h0 := hB.size
  exact ⟨hBT.since.os.trans (hT.os.trans hB.os), hBT.since.tape.trans (hT.tape.trans hB.tape), hBT.since.output.trans (hT.output.trans hB.output), by have := hBT.since.size; omega,
    fun k hk => ((hBT.since.block k (by omega)).trans (hT.block k (by omega) (by omega))).trans (hB.block k hk)⟩

theorem turn_end {W0 Wb W w1 w2 : World} {v v' : Value} {xs : List RC} {c : RC} {g B b : Nat} {n : Nat} (hT : TndC W0 Wb g) (hb : Wb.heap[g]? = some (.cells #[v] 25 (0, 0))) (h : CB Wb W v xs) (hs : W.Since W.heap.size w1) (hn : n = xs.length + 1)
    (hg : g < W0.heap.size) (hB : B < W0.heap.size) (hbb : b < W0.heap.size) (hB2 : B ≠ g) (hb2 : b ≠ g)
    (hown : w2.ownsRow Wb.heap.size 52 3 v' n (ch3 xs ++ ch3 [c])) (hgr : (w1.alloc (.cells #[.string c.k, .int .i64 c.l, .int .i64 c.w] 52)).grownBy w2 v.ownBlock) :
    (∃ va vcap, v' = .slice va n vcap) ∧ (w2.cell? ⟨g, 0, none⟩ = some v ∧ w2.frozen? ⟨g, 0, none⟩ = false) ∧ ∀ u, u = v' → (KeepsFrom W0.heap.size W (w2.setCell ⟨g, 0, none⟩ u) ∧ KpC B b W (w2.setCell ⟨g, 0, none⟩ u) ∧ PCh W0 g (xs ++ [c]) (w2.setCell ⟨g, 0, none⟩ u)) := by
  have h0 := h.since.size
  have h1 := hs.size
  have hz := hT.size
  have hkeep : ∀ q, q < W.heap.size → some q ≠ v.ownBlock → w2.heap[q]? = W.heap[q]? := fun q hq hne => by
    rw [hgr.block q (by simp; omega) hne, Below.heap_alloc _ _ _ (by omega), hs.block q hq]
  have hown0 : ∀ q, q < W0.heap.size → some q ≠ v.ownBlock := fun q hq e => by have := (h.own.lt q e.symm).1; omega
  have hbw : W.heap[g]? = some (.cells #[v] 25 (0, 0)) := (h.since.block g (by omega)).trans hb
  have hg2 : w2.heap[g]? = some (.cells #[v] 25 (0, 0)) := (hkeep g (by omega) (hown0 g hg)).trans hbw
  have hz2 := hgr.size
  simp only [World.size_alloc] at hz2
  refine ⟨?_, ⟨by simp [World.cell?, hg2], by simp [World.frozen?, hg2]⟩, ?_⟩
  · rcases hown.2 with ⟨hv, h0⟩ | ⟨g, cap, cur, rfl, _⟩
    · exact ⟨none, 0, by rw [hv, h0]⟩
    · exact ⟨_, _, rfl⟩
  rintro u rfl
  have hP : CB Wb w2 u (xs ++ [c]) := h.push (ds := [c]) hn (hs.alloc (by omega) _) hown hgr
  have hk2 : KeepsOthers W w2 := ⟨by omega, fun k o hk ho => by
    have hlt := (Array.getElem?_eq_some_iff.1 hk).1
    rw [hkeep k hlt (fun e => ?_)]
    · exact hk
    · rcases h.own.2 with ⟨hv, _⟩ | ⟨g', cap, cur, hv, _, hgg, _⟩
      · rw [hv] at e; cases e
      · rw [hv] at e
        injection e with e
        rw [e, hgg] at hk
        injection hk with hk
        rw [← hk] at ho
        cases ho⟩
  refine ⟨(hk2.trans (KeepsOthers.setCell _ _ _)).from _, ⟨?_, ?_⟩, ⟨Wb.setCell ⟨g, 0, none⟩ u, u, ⟨hT.os, hT.tape, hT.output, (World.size_setCell Wb ⟨g, 0, none⟩ u).trans hT.size, fun q hq hn => (Below.heap_setCell _ _ _ _ hn).trans (hT.block q hq hn)⟩, by simp [World.setCell, Array.getElem?_modify, hb], hP.setBelow (by omega) u⟩⟩
  · rw [Below.heap_setCell _ _ _ _ hB2]; exact hkeep B (by omega) (hown0 B hB)
  · rw [Below.heap_setCell _ _ _ _ hb2]; exact hkeep b (by omega) (hown0 b hbb)

set_option maxRecDepth 100000 in
set_option maxHeartbeats 1000000 in
theorem implNetTurn_any (a : Option Addr) (cap N : Nat) (n : Int) (cs : List RC) (w : World) (hN : cs.length = N) (h63 : N ≤ 9223372036854775807) (hm : ChipsR w a cs) :
    Calls Try.prog 29 #[.int .i64 n, .slice a N cap] w fun e w' => ∃ a' cap', e = .returned (.tuple #[.slice a' (resC (netB n cs) (turnC cs)).length cap', .bool (netB n cs)]) ∧ w.Since w.heap.size w' ∧ OwnC w.heap.size w'.heap.size w' a' (resC (netB n cs) (turnC cs)) := by
  have E := implNetIn_any a cap N n cs w hN h63 hm
  cases hb : netB n cs with
  | false =>
    rw [hb] at E
    replace E := Lib.hid E
    clear hb hm hN
    go_enter Try.func29, Try.ntmps29
    go_wp2_with (go_at_call 16; refine (E.out).mono ?_; rintro e w1 ⟨rfl, hs1⟩; have HS1 := Lib.hid hs1; clear hs1)
    go_ret2
    exact ⟨_, _, rfl, HS1.out, OwnC.nil _ _ _ _⟩
  | true =>
    have hl : (resC true (turnC cs)).length = N := by unfold resC turnC; rw [if_pos rfl, List.length_map, List.length_reverse, hN]
    rw [hl]
    have hres : resC true (turnC cs) = turnC cs := rfl
    rw [hres]
    obtain ⟨m, rfl, ho⟩ := netB_ok hb
    have h10 := ho.len
    rw [hN] at h10
    rw [hb] at E
    replace E := Lib.hid E
    obtain ⟨iC, hiC⟩ := infoChip_parts
    have HI := Lib.hid hiC
    have HN := Lib.hid hN
    have HM := Lib.hid hm
    have hmix : Try.prog.follows .mixedOrders = true := by kernel_rfl
    clear hb hm hN hl hres hiC ho
    refine (callsIn_wide (n := 9)).1 ?_
    refine callsIn_of_wp_marks Try.func29 rfl trivial ?_ rfl
    simp only [Try.ntmps29, List.size_toArray, List.length_cons, List.length_nil, Nat.reduceAdd, Nat.reduceSub, Array.replicate_succ, Array.replicate_zero, List.push_toArray, List.append_toArray, List.nil_append, List.cons_append]
    gi_wp2_with (first
      | (refine ⟨trivial, ?_⟩; gi_at_call 16; refine (callsIn_wide.2 (E.out)).mono ?_; rintro e w1 ⟨rfl, hs1⟩; have HS1 := Lib.hid hs1; clear hs1)
      | (refine ⟨trivial, ?_⟩; gi_at_call 73; refine (callsIn_wide.2 (backward_any _ _ _ _)).mono ?_; rintro e w3 ⟨rfl, rfl⟩))
    obtain ⟨W0, hW0⟩ : ∃ W0, W0 = (w1.alloc (.cells #[.slice none 0 0] 25)).alloc (.cells #[.slice a N cap] 25) := ⟨_, rfl⟩
    obtain ⟨g, hg⟩ : ∃ g, w1.heap.size = g := ⟨_, rfl⟩
    rw [← hW0, hg]
    have hz1 := HS1.out.size
    have hsz0 : W0.heap.size = g + 1 + 1 := by rw [hW0, ← hg]; simp
    have hS0 : w.Since w.heap.size W0 := by rw [hW0]; exact ((HS1.out.alloc (by omega) _).alloc (by simp; omega) _)
    have hbx0 : W0.heap[g]? = some (.cells #[.slice none 0 0] 25 (0, 0)) := by rw [hW0, ← hg]; exact (Below.heap_alloc _ _ _ (by simp)).trans (World.alloc_heap_new w1 _)
    have hBc : W0.cell? ⟨g + 1, 0, none⟩ = some (.slice a N cap) := by
      have h := cell_new_l (w1.alloc (.cells #[.slice none 0 0] 25)) (.slice a N cap) 25
      rw [← hW0] at h
      have h' := h.1
      simpa [hg] using h'
    obtain ⟨b, o, ha, hb, hc⟩ : ∃ b o, (0 < N → a = some ⟨b, o, none⟩) ∧ (b < w.heap.size ∨ b = g + 1) ∧ ∀ q, q < N → W0.cell? ⟨b, o + q * 3, none⟩ = some (.string (cs.getD q rc0).k) ∧ W0.cell? ⟨b, o + q * 3 + 1, none⟩ = some (.int .i64 (cs.getD q rc0).l) ∧ W0.cell? ⟨b, o + q * 3 + 2, none⟩ = some (.int .i64 (cs.getD q rc0).w) := by
      by_cases h0 : 0 < N
      · obtain ⟨b, o, e, hc⟩ := HM.out (by rw [HN.out]; exact h0)
        have hl := World.block_lt_of_cell? _ _ (hc 0 (by rw [HN.out]; exact h0)).1
        exact ⟨b, o, fun _ => e, .inl hl, fun q hq => ⟨(hS0.cell (by exact hl)).trans (hc q (by rw [HN.out]; exact hq)).1, (hS0.cell (by exact hl)).trans (hc q (by rw [HN.out]; exact hq)).2.1, (hS0.cell (by exact hl)).trans (hc q (by rw [HN.out]; exact hq)).2.2⟩⟩
      · exact ⟨g + 1, 0, fun h => absurd h h0, .inr rfl, fun q hq => by omega⟩
    have hbB : b < W0.heap.size := by omega
    have hne1 : b ≠ g := by omega
    have hP0 : PCh W0 g [] W0 := ⟨W0, _, ⟨rfl, rfl, rfl, rfl, fun _ _ _ => rfl⟩, hbx0, cb_none _⟩
    have hwg : w.heap.size ≤ g := by omega
    clear hW0 hg hbx0
    refine wpIn_rangeFunc_ownH (F := Fence.wide) (n := 9) rfl (by omega) (gf := 101) (lb := #[.pointer (some ⟨g + 1, 0, none⟩)]) rfl trivial (enters_of Try.func101 (by kernel_rfl) rfl)
      (back_stops 8 (by omega) (g + 1) b o N cap a cs h10 ha W0 (by omega) hbB hBc hc)
      (fun h k => h.trans k) (kpC_b (by omega) hbB) (Below.refl _ _) (fun _ => rfl)
      (fun pre W => PCh W0 g ((cameL cs pre).map trC) W)
      (fun _ _ _ => False)
      (fun s X Y row hs hg hr => hs.own hg hr)
      (fun c s X Y row hs hg hr => hs)
      hP0
      (fun x a' W => ∃ Bx, W0.heap.size ≤ Bx ∧ Box3 W Bx (cs.getD x.1 rc0).k (cs.getD x.1 rc0).l (cs.getD x.1 rc0).w ∧ a' = { tmps := #[.int .i64 m, .slice a N cap, undef, undef, .slice none 0 0, .bool false, .pointer (some ⟨g, 0, none⟩), undef, .pointer (some ⟨Bx, 0, none⟩), .int .i64 m, .slice a N cap, .bool true, .bool false, .slice a N cap, .func (.func 101) #[] #[.pointer (some ⟨g + 1, 0, none⟩)], .int .i64 (x.1 : Int), .agg #[.string (cs.getD x.1 rc0).k, .int .i64 (cs.getD x.1 rc0).l, .int .i64 (cs.getD x.1 rc0).w], undef, undef, undef, undef, undef, undef], defers := [] })
      (fun x a' _ X Y row hs hg hr => by obtain ⟨Bx, h1, h2, h3⟩ := hs; exact ⟨Bx, h1, h2.own hg (fun r e => (hr r e).2), h3⟩)
      ?assign ?body ?done ?stop
    case assign =>
      rintro l2 pre x W Kq hI hK
      have hkp := hI.kp
      simp only [encB]
      gi_wp2
      exact hK _ _ ((KeepsOthers.alloc _ _).from _) (KpC.grown (World.grownBy_alloc _ _ none) (by omega) (by omega) (by simp) (by simp)) (hI.own (World.grownBy_alloc _ _ none) (fun r e => by cases e)) ⟨W.heap.size, hkp.1, Box3.new W _ _ _, rfl⟩
    case body =>
      rintro l2 pre x a' W hl ⟨r, hr⟩ hI ⟨Bx, hBx, bX, rfl⟩ hlt
      have hcam : (cameL cs (pre ++ [x])).map trC = (cameL cs pre).map trC ++ [trC (cs.getD x.1 rc0)] := by
        unfold cameL
        rw [List.map_append, List.map_append]
        rfl
      have hlen : ((cameL cs pre).map trC).length ≤ 11 := by unfold cameL; rw [List.length_map, List.length_map]; omega
      obtain ⟨c, hcc⟩ : ∃ c, cs.getD x.1 rc0 = c := ⟨_, rfl⟩
      obtain ⟨xs, hxs⟩ : ∃ xs, (cameL cs pre).map trC = xs := ⟨_, rfl⟩
      rw [hcc] at bX hcam ⊢
      rw [hxs] at hcam hI hlen
      have EE := fun (V : World) => chipTurned_any c V
      obtain ⟨c', hc'⟩ : ∃ c', trC c = c' := ⟨_, rfl⟩
      rw [hc'] at hcam
      simp only [hc'] at EE
      obtain ⟨K, L, V⟩ := c
      obtain ⟨K', L', V'⟩ := c'
      simp only at EE bX ⊢
      have HSN := Lib.hid hcam
      obtain ⟨c1, c2, c3⟩ := bX.cells
      have hkp := hI.kp
      obtain ⟨Wb, v, hTd, hbx, hCB⟩ := hI
      have hWb : Wb.heap.size ≤ W.heap.size := hCB.since.size
      have hzb := hTd.size
      have hbW : W.heap[g]? = some (.cells #[v] 25 (0, 0)) := (hCB.since.block g (by omega)).trans hbx
      have hpc : W.cell? ⟨g, 0, none⟩ = some v := by simp [World.cell?, hbW]
      have hgW : g < W.heap.size := by omega
      have hg0 : g < W0.heap.size := by omega
      have hB0 : g + 1 < W0.heap.size := by omega
      have hbb := hbB
      have hB2 : g + 1 ≠ g := by omega
      have hb2 := hne1
      have HTD := Lib.hid hTd
      have HBX := Lib.hid hbx
      have HCB := Lib.hid hCB
      replace EE := Lib.hid EE
      clear hTd hbx hCB hbW hcam hc' hcc hxs bX hr hkp hP0
      gi_wp2
      refine wpIn_region_any hmix (wpAnyIn_of_wpAny ?hno (noDefer_of (by kernel_rfl)) _ _ _ _ ?_)
      case hno =>
        rintro ⟨a, w, h⟩
        exact h
      change wpAny _ _ _ _ _ _ _ (World.drew _)
      refine wpAny_ready (rs := [0, 1]) (by kernel_rfl) (by simp) (AllReady.cons rfl (fun K hK => ?p0) (AllReady.cons rfl (fun K hK => ?p1) AllReady.nil))
      case p0 =>
        go_simp
        refine hK _ _ ?_
        clear hK K
        refine wpAny_ready (rs := [1]) (by kernel_rfl) (by simp) (AllReady.cons rfl (fun K hK => ?_) AllReady.nil)
        go_simp
        refine hK _ _ ?_
        clear hK K
        refine wpAny_ready (rs := [2]) (by kernel_rfl) (by simp) (AllReady.cons rfl (fun K hK => ?_) AllReady.nil)
        go_simp
        go_at_call 74
        refine (EE.out _).mono ?_
        rintro e w4 ⟨rfl, hs4⟩
        go_wp2_with fail
        replace hs4 := since_of_drew hs4
        have hp1 := (hs4.cell (a := ⟨g, 0, none⟩) hgW).trans hpc
        have hp2 := fun ob => cell_alloc_l ob hp1
        have hz4 := hs4.size
        have HS4 := Lib.hid hs4
        have HBL := Lib.hid (HCB.out.later hs4)
        clear hs4
        refine wpAny_ready (rs := [3]) (by kernel_rfl) (by simp) (AllReady.cons rfl (fun K hK => ?_) AllReady.nil)
        go_simp
        refine hK _ _ ?_
        clear hK K
        refine wpAny_ready (rs := [4]) (by kernel_rfl) (by simp) (AllReady.cons rfl (fun K hK => ?_) AllReady.nil)
        rw [if_pos (by rfl)]
        refine wp_append_own _ (.tmp 17) (.tmp 20) 25 rfl Wb.heap.size 52 iC (.agg #[.string ⟨#[]⟩, .int .i64 0, .int .i64 0]) 3 32 Try.underlying25 HI.out.1 HI.out.2.1 HI.out.2.2.1 HI.out.2.2.2 rfl (by decide) _ _ _ rfl (HBL.out.own.alloc _) ⟨w4.heap.size, 0, none⟩ 1 1 (ch3 [⟨K', L', V'⟩]) rfl rfl (by have := news3 w4 ⟨K', L', V'⟩ 52; simpa using this) (ch3_one _) (by unfold maxLen; omega) (by omega) (by simp; omega) ?_
        intro v' w5 hown' hgrow _
        refine hK _ _ ?_
        clear hK K
        obtain ⟨⟨va, vcap, rfl⟩, ⟨hp3, hf3⟩, hfin⟩ := turn_end (c := ⟨K', L', V'⟩) HTD.out HBX.out HCB.out HS4.out rfl hg0 hB0 hbb hB2 hb2 hown' hgrow
        have HFIN := Lib.hid (hfin _ rfl)
        clear hfin hown' hgrow
        simp only [Act.put, List.setIfInBounds_toArray]
        refine wpAny_ready (rs := [5]) (by kernel_rfl) (by simp) (AllReady.cons rfl (fun K hK => ?_) AllReady.nil)
        go_simp
        refine hK _ _ ?_
        clear hK K
        refine wpAny_done (by kernel_rfl) ?_ _
        have hfin := HFIN.out
        rw [← HSN.out] at hfin
        exact hfin
      case p1 =>
        go_simp
        refine hK _ _ ?_
        clear hK K
        refine wpAny_ready (rs := [0, 2]) (by kernel_rfl) (by simp) (AllReady.cons rfl (fun K hK => ?p10) (AllReady.cons rfl (fun K hK => ?p12) AllReady.nil))
        case p10 =>
          go_simp
          refine hK _ _ ?_
          clear hK K
          refine wpAny_ready (rs := [2]) (by kernel_rfl) (by simp) (AllReady.cons rfl (fun K hK => ?_) AllReady.nil)
          go_simp
          go_at_call 74
          refine (EE.out _).mono ?_
          rintro e w4 ⟨rfl, hs4⟩
          go_wp2_with fail
          replace hs4 := since_of_drew hs4
          have hp1 := (hs4.cell (a := ⟨g, 0, none⟩) hgW).trans hpc
          have hp2 := fun ob => cell_alloc_l ob hp1
          have hz4 := hs4.size
          have HS4 := Lib.hid hs4
          have HBL := Lib.hid (HCB.out.later hs4)
          clear hs4
          refine wpAny_ready (rs := [3]) (by kernel_rfl) (by simp) (AllReady.cons rfl (fun K hK => ?_) AllReady.nil)
          go_simp
          refine hK _ _ ?_
          clear hK K
          refine wpAny_ready (rs := [4]) (by kernel_rfl) (by simp) (AllReady.cons rfl (fun K hK => ?_) AllReady.nil)
          rw [if_pos (by rfl)]
          refine wp_append_own _ (.tmp 17) (.tmp 20) 25 rfl Wb.heap.size 52 iC (.agg #[.string ⟨#[]⟩, .int .i64 0, .int .i64 0]) 3 32 Try.underlying25 HI.out.1 HI.out.2.1 HI.out.2.2.1 HI.out.2.2.2 rfl (by decide) _ _ _ rfl (HBL.out.own.alloc _) ⟨w4.heap.size, 0, none⟩ 1 1 (ch3 [⟨K', L', V'⟩]) rfl rfl (by have := news3 w4 ⟨K', L', V'⟩ 52; simpa using this) (ch3_one _) (by unfold maxLen; omega) (by omega) (by simp; omega) ?_
          intro v' w5 hown' hgrow _
          refine hK _ _ ?_
          clear hK K
          obtain ⟨⟨va, vcap, rfl⟩, ⟨hp3, hf3⟩, hfin⟩ := turn_end (c := ⟨K', L', V'⟩) HTD.out HBX.out HCB.out HS4.out rfl hg0 hB0 hbb hB2 hb2 hown' hgrow
          have HFIN := Lib.hid (hfin _ rfl)
          clear hfin hown' hgrow
          simp only [Act.put, List.setIfInBounds_toArray]
          refine wpAny_ready (rs := [5]) (by kernel_rfl) (by simp) (AllReady.cons rfl (fun K hK => ?_) AllReady.nil)
          go_simp
          refine hK _ _ ?_
          clear hK K
          refine wpAny_done (by kernel_rfl) ?_ _
          have hfin := HFIN.out
          rw [← HSN.out] at hfin
          exact hfin
        case p12 =>
          go_simp
          go_at_call 74
          refine (EE.out _).mono ?_
          rintro e w4 ⟨rfl, hs4⟩
          go_wp2_with fail
          replace hs4 := since_of_drew hs4
          have hp1 := (hs4.cell (a := ⟨g, 0, none⟩) hgW).trans hpc
          have hp2 := fun ob => cell_alloc_l ob hp1
          have hz4 := hs4.size
          have HS4 := Lib.hid hs4
          have HBL := Lib.hid (HCB.out.later hs4)
          clear hs4
          refine wpAny_ready (rs := [0, 3]) (by kernel_rfl) (by simp) (AllReady.cons rfl (fun K hK => ?p120) (AllReady.cons rfl (fun K hK => ?p123) AllReady.nil))
          case p120 =>
            go_simp
            refine hK _ _ ?_
            clear hK K
            refine wpAny_ready (rs := [3]) (by kernel_rfl) (by simp) (AllReady.cons rfl (fun K hK => ?_) AllReady.nil)
            go_simp
            refine hK _ _ ?_
            clear hK K
            refine wpAny_ready (rs := [4]) (by kernel_rfl) (by simp) (AllReady.cons rfl (fun K hK => ?_) AllReady.nil)
            rw [if_pos (by rfl)]
            refine wp_append_own _ (.tmp 17) (.tmp 20) 25 rfl Wb.heap.size 52 iC (.agg #[.string ⟨#[]⟩, .int .i64 0, .int .i64 0]) 3 32 Try.underlying25 HI.out.1 HI.out.2.1 HI.out.2.2.1 HI.out.2.2.2 rfl (by decide) _ _ _ rfl (HBL.out.own.alloc _) ⟨w4.heap.size, 0, none⟩ 1 1 (ch3 [⟨K', L', V'⟩]) rfl rfl (by have := news3 w4 ⟨K', L', V'⟩ 52; simpa using this) (ch3_one _) (by unfold maxLen; omega) (by omega) (by simp; omega) ?_
            intro v' w5 hown' hgrow _
            refine hK _ _ ?_
            clear hK K
            obtain ⟨⟨va, vcap, rfl⟩, ⟨hp3, hf3⟩, hfin⟩ := turn_end (c := ⟨K', L', V'⟩) HTD.out HBX.out HCB.out HS4.out rfl hg0 hB0 hbb hB2 hb2 hown' hgrow
            have HFIN := Lib.hid (hfin _ rfl)
            clear hfin hown' hgrow
            simp only [Act.put, List.setIfInBounds_toArray]
            refine wpAny_ready (rs := [5]) (by kernel_rfl) (by simp) (AllReady.cons rfl (fun K hK => ?_) AllReady.nil)
            go_simp
            refine hK _ _ ?_
            clear hK K
            refine wpAny_done (by kernel_rfl) ?_ _
            have hfin := HFIN.out
            rw [← HSN.out] at hfin
            exact hfin
          case p123 =>
            go_simp
            refine hK _ _ ?_
            clear hK K
            refine wpAny_ready (rs := [0]) (by kernel_rfl) (by simp) (AllReady.cons rfl (fun K hK => ?_) AllReady.nil)
            go_simp
            refine hK _ _ ?_
            clear hK K
            refine wpAny_ready (rs := [4]) (by kernel_rfl) (by simp) (AllReady.cons rfl (fun K hK => ?_) AllReady.nil)
            rw [if_pos (by rfl)]
            refine wp_append_own _ (.tmp 17) (.tmp 20) 25 rfl Wb.heap.size 52 iC (.agg #[.string ⟨#[]⟩, .int .i64 0, .int .i64 0]) 3 32 Try.underlying25 HI.out.1 HI.out.2.1 HI.out.2.2.1 HI.out.2.2.2 rfl (by decide) _ _ _ rfl (HBL.out.own.alloc _) ⟨w4.heap.size, 0, none⟩ 1 1 (ch3 [⟨K', L', V'⟩]) rfl rfl (by have := news3 w4 ⟨K', L', V'⟩ 52; simpa using this) (ch3_one _) (by unfold maxLen; omega) (by omega) (by simp; omega) ?_
            intro v' w5 hown' hgrow _
            refine hK _ _ ?_
            clear hK K
            obtain ⟨⟨va, vcap, rfl⟩, ⟨hp3, hf3⟩, hfin⟩ := turn_end (c := ⟨K', L', V'⟩) HTD.out HBX.out HCB.out HS4.out rfl hg0 hB0 hbb hB2 hb2 hown' hgrow
            have HFIN := Lib.hid (hfin _ rfl)
            clear hfin hown' hgrow
            simp only [Act.put, List.setIfInBounds_toArray]
            refine wpAny_ready (rs := [5]) (by kernel_rfl) (by simp) (AllReady.cons rfl (fun K hK => ?_) AllReady.nil)
            go_simp
            refine hK _ _ ?_
            clear hK K
            refine wpAny_done (by kernel_rfl) ?_ _
            have hfin := HFIN.out
            rw [← HSN.out] at hfin
            exact hfin
    case done =>
      rintro D ys W hD rfl hI hK
      rw [came_whole HN.out] at hI
      have hsn := hI.since hS0 hwg
      have hkp := hI.kp
      obtain ⟨Wb, v, hTd, hbx, hCB⟩ := hI
      have hzb := hTd.size
      have hWb : Wb.heap.size ≤ W.heap.size := hCB.since.size
      have hbW : W.heap[g]? = some (.cells #[v] 25 (0, 0)) := (hCB.since.block g (by omega)).trans hbx
      obtain ⟨va, vc, rfl, hO, _, _⟩ := hCB.ownC
      have hpc : W.cell? ⟨g, 0, none⟩ = some (.slice va (cs.reverse.map trC).length vc) := by simp [World.cell?, hbW]
      have hlN : (cs.reverse.map trC).length = N := by rw [List.length_map, List.length_reverse, HN.out]
      rw [hlN] at hpc
      have HCB := Lib.hid hCB
      have HSN := Lib.hid hsn
      clear hTd hbx hCB hbW hc hP0 hBc hO hsn
      gi_wp2
      refine ⟨by simp, .inl ⟨_, _, rfl, run_takeDeferred hK, ?_⟩⟩
      have hg := grownBy_putObj' W D (.deferred none)
      have hr : ∀ r, some D = some r → ∃ o : Obj, W.heap[r]? = some o ∧ o.isCells = false := fun r e => by cases e; exact ⟨_, hK, rfl⟩
      obtain ⟨va', vc', e, hO, _, _⟩ := (HCB.out.turn hg (fun r e => ⟨by cases e; omega, hr r e⟩)).ownC
      injection e with e1 e2 e3
      subst e1
      refine ⟨.tuple #[.slice va N vc, .bool true], ?_, va, vc, rfl, since_rowL HSN.out (Nat.le_refl _) hg (fun r e => by cases e; omega), hO.mono (by omega) (Nat.le_refl _)⟩
      simp [results, Try.f29, go_sem]
    case stop =>
      rintro D c pre W hD hpre hF hK
      exact hF.elim

end Go.Proofs.Ytdodchmelepkeaa
end

section
namespace Go.Proofs.Ytdodchmelepkeaa
open Go.RowKit Go.Deep

theorem turn_len (x : Int) (l : List RC) : (resC (netB x l) (turnC l)).length ≤ 1048576 := by
  cases hb : netB x l with
  | false => simp [resC]
  | true =>
    obtain ⟨m, rfl, ho⟩ := netB_ok hb
    have := ho.len
    unfold resC turnC
    rw [if_pos rfl, List.length_map, List.length_reverse]
    omega

theorem lawNetTurn (x : Int) (a : Option Addr) (cap n : Nat) (l : List RC) (w : World) (hn : l.length = n) (h63 : n ≤ 9223372036854775807) (hs : ShortL l) (hm : ChipsR w a l) :
    Calls Try.prog 7 #[.int .i64 x, .slice a n cap] w fun e w' => e = .returned (.bool true) ∧ w.Since w.heap.size w' :=
  lawNetTurn_aux x a cap n l (netB x l) (resC (netB x l) (turnC l)) w hn h63 hs hm (turn_len x l)
    (fun _ W b c _ _ _ hb => (specNetTurn_any b c n x l W hn h63 hb).mono fun _ _ ⟨a, c, h1, h2, h3, _⟩ => ⟨a, c, h1, h2, h3⟩) (fun _ W b c _ _ _ hb => implNetTurn_any b c n x l W hn h63 hb)

end Go.Proofs.Ytdodchmelepkeaa
end

section
namespace Go.Proofs.Ytdodchmelepkeaa
open Go.ChangeShapes Go.WideShapes Go.ChangeAt Go.RowKit Go.Deep

theorem below_since' {B : Nat} {w w' : World} (h : Below B w w') : w.Since B w' := ⟨h.os, h.tape, h.output, h.size, h.block⟩
theorem since_below' {B : Nat} {w w' : World} (h : w.Since B w') : Below B w w' := ⟨h.os, h.tape, h.output, h.size, h.block⟩

section
variable {H : Type} {enc : TypeId × Value → H} {P : Program}
theorem post_of_below {f : Func} {s : ChangeSpec} {apart fresh handsOn again : Bool} {W W' : World} {args : Array Value} {v : Value} {ds gs : List (DataW H)} {before pa pv : List MemPlace}
    (hW : DataW.Whole enc P f.params.toList s.vars apart W args.toList ds gs before)
    (hres : ∀ (b : Nat) (sp : Nat → Bool) (hd : Bool), DataW.TrodAll enc P W' b sp hd f.resultTypes.toList (v.resultList f.resultTypes.size) (s.fn H (ds ++ gs)).results [])
    (hargs : ∀ sp : Nat → Bool, (∀ p ∈ before, sp p.block = true) → DataW.TrodAll enc P W' 0 sp true f.params.toList args.toList (s.fn H (ds ++ gs)).args pa)
    (hvars : ∀ sp : Nat → Bool, (∀ p ∈ before, sp p.block = true) → DataW.TrodVars enc P W' sp s.vars (s.fn H (ds ++ gs)).vars pv)
    (hps : before = pa ++ pv) (hb : Below W.heap.size W W') (hag : again = false) :
    s.post enc P f apart fresh handsOn again W args v W' := by
  have hlt : ∀ p ∈ before, p.block < W.heap.size := fun p hp => hW.lt p hp
  have hold : ∀ p ∈ before, (fun b => decide (b < W.heap.size)) p.block = true := fun p hp => by simpa using hlt p hp
  refine ⟨ds, gs, before, [], pa, pv, hW, hres _ _ _, hargs _ hold, hvars _ hold, World.keptBut_mono (fun p hp => ⟨hp, ?_⟩) (hb.frame (· ∈ before)), fun h => ?_⟩
  · rw [hps, List.mem_append] at hp
    exact Or.inr hp
  · rw [hag] at h; cases h

theorem open_mat {W : World} {t e q : TypeId} {a : Option Addr} {n cap : Nat} {d : DataW H} {p : List MemPlace} (ht : P.underlying t = some (.slice e)) (he : P.underlying e = some (.slice q)) (hq : P.underlying q = some (.int .i64))
    (ce : P.cellsOf e = 1) (cq : P.cellsOf q = 1) (h : DataW.Trod enc P W 0 (fun _ => true) true t (.slice a n cap) d p) :
    ∃ l : List (List Int), l.length = n ∧ MatR W a l ∧ n ≤ 9223372036854775807 ∧ ∀ r, r < l.length → (l.getD r []).length ≤ 9223372036854775807 := by
  obtain ⟨fuel, hf⟩ := h
  rcases open_int_rows ht he hq ce cq hf with ⟨hcs, _⟩ | ⟨a', len', cap', A, L, C, Z, hcs, _, hl, hm, _, hrows⟩
  · simp [Value.cells] at hcs
    obtain ⟨rfl, rfl, rfl⟩ := hcs
    exact ⟨[], rfl, (fun h => by simp at h), by omega, fun r hr => by simp at hr⟩
  · simp [Value.cells] at hcs
    obtain ⟨rfl, rfl, rfl⟩ := hcs
    have hmx : maxLen = 9223372036854775807 := rfl
    have hlen : ∀ r, r < n → ((Z r).take (L r)).length = L r := fun r hr => by
      obtain ⟨_, h1, _, h2, _⟩ := hrows r (by omega)
      rw [List.length_take]; omega
    have hget : ∀ r, r < n → ((List.range n).map fun r => (Z r).take (L r)).getD r [] = (Z r).take (L r) := fun r hr => by simp [List.getD, hr]
    refine ⟨(List.range n).map fun r => (Z r).take (L r), by simp, fun h => ?_, by omega, fun r hr => ?_⟩
    · obtain ⟨b, o, spot⟩ := a'
      simp at h
      have hspot : spot = none := by simpa [Addr.add] using World.cell?_spot (hrows 0 (by omega)).1
      subst hspot
      refine ⟨b, o, A, C, rfl, fun r hr => ?_⟩
      simp at hr
      rw [hget r hr, hlen r hr]
      obtain ⟨g1, g2, g3, g4, g5, g6, g7⟩ := hrows r (by omega)
      refine ⟨by rw [← add_plain]; exact g1, fun h0 => ?_⟩
      rw [hlen r hr] at h0
      cases hA : A r with
      | none => have := g6 hA; omega
      | some a'' =>
        obtain ⟨_, hcell⟩ := g7 a'' hA
        obtain ⟨b', o', sp⟩ := a''
        have hs : sp = none := by simpa [Addr.add] using World.cell?_spot (hcell 0 (by omega))
        subst hs
        refine ⟨b', o', rfl, fun i hi => ?_⟩
        rw [hlen r hr] at hi
        rw [← add_plain, hcell i (by omega)]
        congr 2
        simp [List.getD, hi]
    · simp at hr
      rw [hget r hr, hlen r hr]
      obtain ⟨_, h1, h2, _⟩ := hrows r (by omega)
      omega
end

theorem Try.own : ownKnob Try.prog.godebug = none := by kernel_rfl
theorem Try.laidOut : laidOutB Try.prog = true := by kernel_rfl
theorem Try.cellsR : Try.prog.cellsOf 65 = 1 := by kernel_rfl
theorem Try.cellsI : Try.prog.cellsOf 3 = 1 := by kernel_rfl

end Go.Proofs.Ytdodchmelepkeaa
end

section
namespace Go.Proofs.Ytdodchmelepkeaa
open Go.ChangeShapes Go.WideShapes Go.ChangeAt Go.RowKit Go.Deep

theorem addr_add0 (a : Addr) : a.add 0 = a := by
  cases a
  unfold Addr.add
  split <;> simp_all
theorem take_one {l : List Value} {i : Nat} (h : i < l.length) : ∃ v, l[i]? = some v ∧ (l.drop i).take 1 = [v] :=
  ⟨l[i], List.getElem?_eq_getElem h, by rw [List.drop_eq_getElem_cons h]; rfl⟩

theorem open_chips {H : Type} {enc : TypeId × Value → H} {P : Program} {W : World} {t e : TypeId} {f0 f1 f2 : Field} {a : Option Addr} {n cap : Nat} {d : DataW H} {p : List MemPlace} (ht : P.underlying t = some (.slice e)) (he : P.underlying e = some (.struct #[f0, f1, f2])) (ce : P.cellsOf e = 3)
    (u0 : P.underlying f0.type = some .string) (u1 : P.underlying f1.type = some (.int .i64)) (u2 : P.underlying f2.type = some (.int .i64)) (k0 : P.cellsOf f0.type = 1) (k1 : P.cellsOf f1.type = 1) (k2 : P.cellsOf f2.type = 1) (o0 : f0.offset = 0) (o1 : f1.offset = 1) (o2 : f2.offset = 2)
    (h : DataW.Trod enc P W 0 (fun _ => true) true t (.slice a n cap) d p) : ∃ cs : List RC, cs.length = n ∧ ChipsR W a cs ∧ n ≤ 9223372036854775807 ∧ ShortL cs := by
  have hmx : maxLen = 9223372036854775807 := rfl
  obtain ⟨fuel, hf⟩ := h
  rcases open_slice ht hf with ⟨hcs, _⟩ | ⟨a', len, cap', m, q, D, Pl, hcs, _, hl, hm, hmm, _, hi⟩
  · simp [Value.cells] at hcs
    obtain ⟨rfl, rfl, rfl⟩ := hcs
    exact ⟨[], rfl, (fun h => by simp at h), by omega, fun i hi => by simp at hi⟩
  · simp [Value.cells] at hcs
    obtain ⟨rfl, rfl, rfl⟩ := hcs
    have hnm : n ≤ m := by rw [hmm]; simp; exact hl
    -- one chip
    have hone : ∀ i, i < n → ∃ c : RC, (W.cell? (a'.add (i * 3)) = some (.string c.k) ∧ W.cell? ((a'.add (i * 3)).add 1) = some (.int .i64 c.l) ∧ W.cell? ((a'.add (i * 3)).add 2) = some (.int .i64 c.w)) ∧ c.k.size ≤ 9223372036854775807 := fun i hin => by
      obtain ⟨cs', hc, htr⟩ := hi i (by omega)
      rw [ce] at hc
      obtain ⟨_, hlen, hat⟩ := World.cells?_some hc
      obtain ⟨xs, q', _, _, _, hxl, hg⟩ := DataW.trod_struct he htr
      have g : ∀ j, j < 3 → ∃ x, xs[j]? = some x := fun j hj => ⟨xs[j]'(by rw [hxl]; exact hj), List.getElem?_eq_getElem _⟩
      obtain ⟨x0, y0⟩ := g 0 (by omega)
      obtain ⟨x1, y1⟩ := g 1 (by omega)
      obtain ⟨x2, y2⟩ := g 2 (by omega)
      have h0 := hg 0 f0 rfl
      have h1 := hg 1 f1 rfl
      have h2 := hg 2 f2 rfl
      obtain ⟨v0, e0, t0⟩ := take_one (show 0 < cs'.length by omega)
      obtain ⟨v1, e1, t1⟩ := take_one (show 1 < cs'.length by omega)
      obtain ⟨v2, e2, t2⟩ := take_one (show 2 < cs'.length by omega)
      rw [o0, k0, t0, y0] at h0
      rw [o1, k1, t1, y1] at h1
      rw [o2, k2, t2, y2] at h2
      obtain ⟨s, r0, _, hs⟩ := DataW.trod_string u0 h0
      obtain ⟨L, r1, _, _⟩ := DataW.trod_int u1 h1
      obtain ⟨V, r2, _, _⟩ := DataW.trod_int u2 h2
      cases r0; cases r1; cases r2
      refine ⟨⟨s, L, V⟩, ⟨?_, ?_, ?_⟩, by show s.size ≤ _; rw [← hmx]; exact hs⟩
      · have := hat 0 (by omega)
        rw [e0] at this
        rwa [addr_add0] at this
      · rw [hat 1 (by omega), e1]
      · rw [hat 2 (by omega), e2]
    refine ⟨(List.range n).map fun i => if hi : i < n then Classical.choose (hone i hi) else rc0, by simp, fun h0 => ?_, by omega, fun i hi => ?_⟩
    · have h0' : 0 < n := by simpa using h0
      obtain ⟨b, o, spot⟩ := a'
      obtain ⟨c, ⟨g0, _⟩, _⟩ := hone 0 h0'
      have hspot : spot = none := by simpa [Addr.add] using World.cell?_spot g0
      subst hspot
      refine ⟨b, o, rfl, fun i hi => ?_⟩
      have hi' : i < n := by simpa using hi
      have hget : ((List.range n).map fun i => if hi : i < n then Classical.choose (hone i hi) else rc0).getD i rc0 = Classical.choose (hone i hi') := by simp [List.getD, hi']
      rw [hget]
      have := (Classical.choose_spec (hone i hi')).1
      simpa [addr_add, Nat.add_assoc] using this
    · have hi' : i < n := by simpa using hi
      have hget : ((List.range n).map fun i => if hi : i < n then Classical.choose (hone i hi) else rc0).getD i rc0 = Classical.choose (hone i hi') := by simp [List.getD, hi']
      rw [hget]
      exact (Classical.choose_spec (hone i hi')).2

end Go.Proofs.Ytdodchmelepkeaa
end

section
namespace Go.Proofs.Ytdodchmelepkeaa
open Go.ChangeShapes Go.WideShapes Go.ChangeAt Go.RowKit Go.Deep

set_option maxRecDepth 100000 in
theorem lifted_NetTurn (os : Os) (started : os.Started) (H : Type) (enc : TypeId × Value → H) :
    ReturnsInHanded {} Try.checked os 7 .any (Rows.fnExactNetTurnSpec.pre6 enc Try.prog Try.f7 Rows.fnExactNetTurnRow.domain false) (Rows.fnExactNetTurnSpec.post enc Try.prog Try.f7 false true false false) := by
  refine returnsInHanded_of_change (C := Try.checked) Try.own started (by kernel_rfl) Try.func7
    (ChangeSpec.witness6 (enc := enc) (C := Try.checked) false ⟨#[], #[.int .i64 0, .slice none 0 0], []⟩ 8 (by kernel_rfl) (by kernel_rfl) (by kernel_rfl) (by kernel_rfl)) ?_
  intro W base args ds gs before hval0 hW _ _
  have hval : ∀ (j : Nat) t v, Try.f7.params[j]? = some t → args[j]? = some v → Value.okWide Try.prog W .any base t v := hval0
  have hW' := hW
  obtain ⟨p, q, hA0, hV, rfl, hfz, hnd⟩ := hW
  have hA : DataW.TrodAll enc Try.prog W 0 (fun _ => true) true Try.f7.params.toList args.toList ds p := hA0
  rw [Try.params7] at hA hval
  obtain ⟨v0, v1, d0, d1, p0, p1, rfl, rfl, rfl, h0, h1⟩ := trodAll_two hA
  obtain ⟨rfl, rfl⟩ := trodVars_none hV
  obtain ⟨x0, rfl, rfl, rfl, wx0⟩ := open_int Try.underlying3 (hval 0 3 v0 rfl rfl) h0
  obtain ⟨a1, n1, cap1, rfl⟩ := okWide_slice Try.underlying22 (hval 1 22 v1 rfl rfl)
  obtain ⟨l1, hl1, hm1, h631, hs1⟩ := open_chips Try.underlying22 Try.underlying50 (by kernel_rfl) Try.underlying9 Try.underlying3 Try.underlying3 (by kernel_rfl) (by kernel_rfl) (by kernel_rfl) rfl rfl rfl h1
  clear hA0 hval0
  simp only [List.append_nil, List.nil_append] at hW'
  have hlt1 : ∀ x ∈ p1, x.block < W.heap.size := fun x hx => hW'.lt x (by simp [hx])
  refine (lawNetTurn x0 a1 cap1 n1 l1 W hl1 h631 hs1 hm1).mono fun e W' ⟨he, hs⟩ => ?_
  subst he
  have hb := since_below' hs
  have ht1 : ∀ sp : Nat → Bool, (∀ x ∈ p1, sp x.block = true) → DataW.Trod enc Try.prog W' 0 sp true 22 (.slice a1 n1 cap1) d1 p1 := fun sp hsp =>
    WideElems.Trod_stays Try.laidOut (by kernel_rfl) (of_decide_eq_true (by kernel_rfl)) h1 (fun x hx => hb.same (hlt1 x hx)) hsp
  have hargs : ∀ sp : Nat → Bool, (∀ x ∈ (p1), sp x.block = true) → DataW.TrodAll enc Try.prog W' 0 sp true [3, 22] [.int .i64 x0, .slice a1 n1 cap1] [.lit (.int .i64 x0), d1] (p1) := fun sp hsp => by
    have := trodAll_mk2 (enc := enc) (P := Try.prog) (w := W') (base := 0) (spare := sp) (held := true) (shut_int Try.underlying3 wx0) (ht1 sp (fun x hx => hsp x (by simp [hx])))
    simpa using this
  exact ⟨_, rfl, post_of_below (pa := p1) (pv := []) hW' (fun _ _ _ => trodAll_mk1 (shut_bool Try.underlying4 true)) (fun sp hsp => hargs sp (fun x hx => hsp x (by simpa using hx))) (fun _ _ => rfl) (by simp) hb rfl⟩

theorem FnExactNetTurn_holds : Rows.FnExactNetTurnSaid :=
  OpenClaim.holds_of_wide 7 Try.f7 rfl rfl rfl rfl rfl rfl rfl ⟨rfl, rfl, rfl, rfl, rfl⟩ rfl rfl rfl rfl rfl (by kernel_rfl) Try.func7 (by kernel_rfl)
    (of_decide_eq_true (by kernel_rfl)) (by unfold Func.isWrapper; first | (rw [if_pos (by decide +kernel)]; kernel_rfl) | (rw [if_neg (by decide +kernel)]; exact ⟨rfl, rfl⟩))
    (fun os started H enc _ => lifted_NetTurn os started H enc)

end Go.Proofs.Ytdodchmelepkeaa
end
