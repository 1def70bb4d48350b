/- The laws' harness for chips: sizes, copies, equality. -/
import Derived.Test.YtdodchmelepkeaaNetU
import Derived.Laws.MakeOwn
namespace Go.Proofs.Ytdodchmelepkeaa
open Go.RowKit Go.Deep

theorem lchip_box (w : World) (K : ByteArray) (L V : Int) :
    (w.alloc (.cells #[.string K, .int .i64 L, .int .i64 V] 50)).cell? ⟨w.heap.size, 0, none⟩ = some (.string K) ∧ (w.alloc (.cells #[.string K, .int .i64 L, .int .i64 V] 50)).cell? ⟨w.heap.size, 1, none⟩ = some (.int .i64 L) ∧ (w.alloc (.cells #[.string K, .int .i64 L, .int .i64 V] 50)).cell? ⟨w.heap.size, 2, none⟩ = some (.int .i64 V) := chip_box w K L V _

def SzCP (left : Int) (w : World) (e : Ending) (w' : World) : Prop := ∃ r : Int, (e = .returned (.int .i64 r) ∧ r ≤ left) ∧ w.Since w.heap.size w'

set_option maxHeartbeats 400000 in
theorem szChip_any (K : ByteArray) (L V left : Int) (w : World) (hl : 0 ≤ left ∧ left ≤ 1048576) (hK : K.size ≤ 9223372036854775807) :
    Calls Try.prog 43 #[.agg #[.string K, .int .i64 L, .int .i64 V], .int .i64 left] w (SzCP left w) := by
  obtain ⟨d1, d2, d3⟩ := lchip_box w K L V
  have HS := Lib.hid ((World.Since.refl w.heap.size w).alloc (Nat.le_refl _) (.cells #[.string K, .int .i64 L, .int .i64 V] 50))
  obtain ⟨s, hs⟩ : ∃ s, K.size = s := ⟨_, rfl⟩
  have hw : IntKind.i64.wrap (left - (s : Int)) = left - (s : Int) := IntWalk.i64_in _ ⟨by omega, by omega⟩
  rw [hs] at hK
  by_cases hn : left - (s : Int) < 0
  · have hb : decide (left - (s : Int) < 0) = true := by simpa using hn
    go_enter Try.func43, Try.ntmps43
    go_wp2
    go_ret
    exact ⟨-1, ⟨rfl, by omega⟩, HS.out⟩
  · have hb : decide (left - (s : Int) < 0) = false := by simpa using hn
    go_enter Try.func43, Try.ntmps43
    go_wp2
    go_ret
    exact ⟨left - (s : Int), ⟨rfl, by omega⟩, HS.out⟩

set_option maxHeartbeats 400000 in
theorem toChip_any (K : ByteArray) (L V : Int) (w : World) :
    Calls Try.prog 45 #[.agg #[.string K, .int .i64 L, .int .i64 V]] w fun e w' => e = .returned (.agg #[.string K, .int .i64 L, .int .i64 V]) ∧ w.Since w.heap.size w' := by
  obtain ⟨d1, d2, d3⟩ := lchip_box w K L V
  go_enter Try.func45, Try.ntmps45
  go_wp2
  exact bodyPost_ret (v := .agg #[.string K, .int .i64 L, .int .i64 V]) (by simp [results, Try.f45, go_sem]) rfl ⟨rfl, (((World.Since.refl w.heap.size w).alloc (Nat.le_refl _) _).alloc (by simp) _).alloc (by simp; omega) _⟩

set_option maxHeartbeats 400000 in
theorem eqChip_same (K : ByteArray) (L V : Int) (w : World) :
    Calls Try.prog 50 #[.agg #[.string K, .int .i64 L, .int .i64 V], .agg #[.string K, .int .i64 L, .int .i64 V]] w fun e w' => e = .returned (.bool true) ∧ w.Since w.heap.size w' := by
  obtain ⟨d1, d2, d3⟩ := chip_box w K L V 52
  obtain ⟨e1, e2, e3⟩ := chip_box (w.alloc (.cells #[.string K, .int .i64 L, .int .i64 V] 52)) K L V 52
  rw [World.size_alloc] at e1 e2 e3
  have f1 := cell_alloc_l (.cells #[.string K, .int .i64 L, .int .i64 V] 52) d1
  have f2 := cell_alloc_l (.cells #[.string K, .int .i64 L, .int .i64 V] 52) d2
  have f3 := cell_alloc_l (.cells #[.string K, .int .i64 L, .int .i64 V] 52) d3
  go_enter Try.func50, Try.ntmps50
  go_wp2
  go_ret
  exact ⟨rfl, ((World.Since.refl w.heap.size w).alloc (Nat.le_refl _) _).alloc (by simp) _⟩


/-- What a sizes' law tells: no more than was left, and if something is left there are no more chips than that. -/
def SzCsP (left : Int) (N : Nat) (w : World) (e : Ending) (w' : World) : Prop := ∃ r : Int, (e = .returned (.int .i64 r) ∧ r ≤ left ∧ (0 ≤ r → (N : Int) ≤ left)) ∧ w.Since w.heap.size w'
/-- Strings of which the sizes are numbers. -/
def ShortL (cs : List RC) : Prop := ∀ i, i < cs.length → (cs.getD i rc0).k.size ≤ 9223372036854775807

set_option maxRecDepth 100000 in
set_option maxHeartbeats 400000 in
theorem szChipS_any (a : Option Addr) (cap N : Nat) (left : Int) (cs : List RC) (w : World) (hN : cs.length = N) (h63 : N ≤ 9223372036854775807) (hl : 0 ≤ left ∧ left ≤ 1048576) (hsh : ShortL cs) (hm : ChipsR w a cs) :
    Calls Try.prog 13 #[.slice a N cap, .int .i64 left] w (SzCsP left N w) := by
  have hw : IntKind.i64.wrap (left - (N : Int)) = left - (N : Int) := IntWalk.i64_in _ ⟨by omega, by omega⟩
  have HN := Lib.hid hN
  have HM := Lib.hid hm
  have HSH := Lib.hid hsh
  clear hN hm hsh
  by_cases hn : left - (N : Int) < 0
  · have hb : decide (left - (N : Int) < 0) = true := by simpa using hn
    go_enter Try.func13, Try.ntmps13
    go_wp2
    go_ret
    exact ⟨-1, ⟨rfl, by omega, fun h => by omega⟩, World.Since.refl _ _⟩
  · have hb : decide (left - (N : Int) < 0) = false := by simpa using hn
    go_enter Try.func13, Try.ntmps13
    go_wp2
    clear hb
    go_loopg [1, 5] N (fun g l i wr => ∃ (r : Nat) (x : Int), r ≤ N ∧ g = N - r ∧ i = .int .i64 r ∧ l = .int .i64 x ∧ 0 ≤ x ∧ x ≤ left ∧ w.Since w.heap.size wr)
    case atStart => exact ⟨0, _, Nat.zero_le _, rfl, rfl, rfl, by omega, by omega, World.Since.refl _ _⟩
    case round =>
      obtain ⟨r, x, hr, rfl, rfl, rfl, hx0, hx1, hS⟩ := hrel
      by_cases hlt : r < N
      · obtain ⟨b, o, rfl, k1, k2, k3⟩ := HM.out.at (show r < cs.length by rw [HN.out]; exact hlt)
        have c1 := (hS.cell (World.block_lt_of_cell? _ _ k1)).trans k1
        have c2 := (hS.cell (World.block_lt_of_cell? _ _ k2)).trans k2
        have c3 := (hS.cell (World.block_lt_of_cell? _ _ k3)).trans k3
        have hsz := HSH.out r (by rw [HN.out]; exact hlt)
        obtain ⟨c, hc⟩ : ∃ c, cs.getD r rc0 = c := ⟨_, rfl⟩
        rw [hc] at c1 c2 c3 hsz
        obtain ⟨K, L, V⟩ := c
        simp only at c1 c2 c3 hsz
        have E := Lib.hid (szChip_any K L V x wr ⟨hx0, by omega⟩ hsz)
        have HS := Lib.hid hS
        clear k1 k2 k3 hc hsz hS
        go_wp2_with fail
        refine (E.out).mono ?_
        rintro e w1 ⟨y, ⟨rfl, hy⟩, hs1⟩
        have HS1 := Lib.hid (HS.out.trans (since_mono hs1 HS.out.size))
        clear hs1
        by_cases hy0 : y < 0
        · have hb : decide (y < 0) = true := by simpa using hy0
          go_wp2_with fail
          go_ret
          exact ⟨-1, ⟨rfl, by omega, fun h => by omega⟩, HS1.out⟩
        · have hb : decide (y < 0) = false := by simpa using hy0
          go_wp2_with fail
          go_roundg (N - (r + 1))
          case measure => omega
          case rel => exact ⟨r + 1, y, by omega, rfl, by go_num, rfl, by omega, by omega, HS1.out⟩
      · obtain rfl : r = N := by omega
        have HS := Lib.hid hS
        clear hS
        go_wp2_with fail
        go_ret
        exact ⟨x, ⟨rfl, hx1, fun _ => by omega⟩, HS.out⟩

set_option maxRecDepth 100000 in
set_option maxHeartbeats 1000000 in
theorem eqChipS_same (a a2 : Option Addr) (cap cap2 N : Nat) (cs : List RC) (w : World) (hN : cs.length = N) (h63 : N ≤ 9223372036854775807) (hm : ChipsR w a cs) (hm2 : ChipsR w a2 cs) :
    Calls Try.prog 17 #[.slice a N cap, .slice a2 N cap2] w fun e w' => e = .returned (.bool true) ∧ w.Since w.heap.size w' := by
  have HN := Lib.hid hN
  have HM := Lib.hid hm
  have HM2 := Lib.hid hm2
  clear hN hm hm2
  go_enter Try.func17, Try.ntmps17
  go_wp2
  go_loopg [5] N (fun g i wr => ∃ r : Nat, r ≤ N ∧ g = N - r ∧ i = .int .i64 r ∧ w.Since w.heap.size wr)
  case atStart => exact ⟨0, Nat.zero_le _, rfl, rfl, World.Since.refl _ _⟩
  case round =>
    obtain ⟨r, hr, rfl, rfl, hS⟩ := hrel
    by_cases hlt : r < N
    · obtain ⟨b, o, rfl, k1, k2, k3⟩ := HM.out.at (show r < cs.length by rw [HN.out]; exact hlt)
      obtain ⟨b2, o2, rfl, m1, m2, m3⟩ := HM2.out.at (show r < cs.length by rw [HN.out]; exact hlt)
      have c1 := (hS.cell (World.block_lt_of_cell? _ _ k1)).trans k1
      have c2 := (hS.cell (World.block_lt_of_cell? _ _ k2)).trans k2
      have c3 := (hS.cell (World.block_lt_of_cell? _ _ k3)).trans k3
      have e1 := (hS.cell (World.block_lt_of_cell? _ _ m1)).trans m1
      have e2 := (hS.cell (World.block_lt_of_cell? _ _ m2)).trans m2
      have e3 := (hS.cell (World.block_lt_of_cell? _ _ m3)).trans m3
      obtain ⟨c, hc⟩ : ∃ c, cs.getD r rc0 = c := ⟨_, rfl⟩
      rw [hc] at c1 c2 c3 e1 e2 e3
      obtain ⟨K, L, V⟩ := c
      simp only at c1 c2 c3 e1 e2 e3
      have E := Lib.hid (fun (W : World) => eqChip_same K L V W)
      have HS := Lib.hid hS
      clear k1 k2 k3 m1 m2 m3 hc hS
      go_wp2_with fail
      go_region_held3 (fun W' => (W'.cell? ⟨b, o + r * 3, none⟩ = some (.string K) ∧ W'.cell? ⟨b, o + r * 3 + 1, none⟩ = some (.int .i64 L) ∧ W'.cell? ⟨b, o + r * 3 + 2, none⟩ = some (.int .i64 V)) ∧ W'.cell? ⟨b2, o2 + r * 3, none⟩ = some (.string K) ∧ W'.cell? ⟨b2, o2 + r * 3 + 1, none⟩ = some (.int .i64 L) ∧ W'.cell? ⟨b2, o2 + r * 3 + 2, none⟩ = some (.int .i64 V))
        (first | exact ⟨⟨c1, c2, c3⟩, e1, e2, e3⟩ | exact g9)
        (first | (go_at_call 50; refine (E.out _).mono ?_; rintro e w1 ⟨rfl, hs1⟩; have g9 : (w1.cell? ⟨b, o + r * 3, none⟩ = some (.string K) ∧ w1.cell? ⟨b, o + r * 3 + 1, none⟩ = some (.int .i64 L) ∧ w1.cell? ⟨b, o + r * 3 + 2, none⟩ = some (.int .i64 V)) ∧ w1.cell? ⟨b2, o2 + r * 3, none⟩ = some (.string K) ∧ w1.cell? ⟨b2, o2 + r * 3 + 1, none⟩ = some (.int .i64 L) ∧ w1.cell? ⟨b2, o2 + r * 3 + 2, none⟩ = some (.int .i64 V) := ⟨⟨(hs1.cell (World.block_lt_of_cell? wr _ c1)).trans c1, (hs1.cell (World.block_lt_of_cell? wr _ c2)).trans c2, (hs1.cell (World.block_lt_of_cell? wr _ c3)).trans c3⟩, (hs1.cell (World.block_lt_of_cell? wr _ e1)).trans e1, (hs1.cell (World.block_lt_of_cell? wr _ e2)).trans e2, (hs1.cell (World.block_lt_of_cell? wr _ e3)).trans e3⟩; have HS1 := Lib.hid (HS.out.trans (since_mono (since_of_drew hs1) HS.out.size)); clear hs1))
      all_goals
        clear g9
        go_wp2_with fail
        go_roundg (N - (r + 1))
        case measure => omega
        case rel => exact ⟨r + 1, by omega, rfl, by go_num, HS1.out⟩
    · obtain rfl : r = N := by omega
      have HS := Lib.hid hS
      clear hS
      go_wp2_with fail
      go_ret
      exact ⟨rfl, HS.out⟩

/-- A copy of chips that is being written. -/
structure MC (w wr : World) (N : Nat) (cs : List RC) (r : Nat) : Prop where
  since : w.Since w.heap.size wr
  blk : ∃ cur, wr.heap[w.heap.size]? = some (.cells cur 52 (0, 0)) ∧ cur.size = N * 3 ∧ ∀ j, j < r → cur[j * 3]? = some (.string (cs.getD j rc0).k) ∧ cur[j * 3 + 1]? = some (.int .i64 (cs.getD j rc0).l) ∧ cur[j * 3 + 2]? = some (.int .i64 (cs.getD j rc0).w)
theorem mc_start (w : World) (N : Nat) (cs : List RC) (z : Array Value) : MC w (w.alloc (.cells (madeCells z (N * 3)) 52)) N cs 0 :=
  ⟨(World.Since.refl _ _).alloc (Nat.le_refl _) _, _, World.alloc_heap_new w _, by rw [size_madeCells], fun j hj => by omega⟩
theorem MC.later {w wr w1 : World} {N r : Nat} {cs : List RC} (h : MC w wr N cs r) (hs : wr.Since wr.heap.size w1) : MC w w1 N cs r := by
  obtain ⟨cur, h1, h2, h3⟩ := h.blk
  exact ⟨h.since.trans (since_mono hs h.since.size), cur, (hs.block _ (Array.getElem?_eq_some_iff.1 h1).1).trans h1, h2, h3⟩
theorem heap_set {W : World} {g j : Nat} {v : Value} {cur : Array Value} {T : TypeId} (h : W.heap[g]? = some (.cells cur T (0, 0))) : (W.setCell ⟨g, j, none⟩ v).heap[g]? = some (.cells (cur.setIfInBounds j v) T (0, 0)) := by
  obtain ⟨hlt, hk⟩ := Array.getElem?_eq_some_iff.1 h
  show (W.heap.modify g _)[g]? = _
  rw [Array.getElem?_eq_getElem (by rw [Array.size_modify]; exact hlt), Array.getElem_modify_self, hk]
  rfl
theorem MC.step {w wr : World} {N r : Nat} {cs : List RC} (h : MC w wr N cs r) (hr : r < N) : MC w (((wr.setCell ⟨w.heap.size, r * 3, none⟩ (.string (cs.getD r rc0).k)).setCell ⟨w.heap.size, r * 3 + 1, none⟩ (.int .i64 (cs.getD r rc0).l)).setCell ⟨w.heap.size, r * 3 + 2, none⟩ (.int .i64 (cs.getD r rc0).w)) N cs (r + 1) := by
  obtain ⟨cur, h1, h2, h3⟩ := h.blk
  refine ⟨((h.since.setCell (Nat.le_refl _) _).setCell (Nat.le_refl _) _).setCell (Nat.le_refl _) _, _, heap_set (heap_set (heap_set h1)), by simp [h2], fun j hj => ?_⟩
  have hz : r * 3 + 2 < cur.size := by omega
  by_cases e : j = r
  · subst e
    refine ⟨?_, ?_, ?_⟩ <;> simp [Array.getElem?_setIfInBounds, hz] <;> omega
  · obtain ⟨k1, k2, k3⟩ := h3 j (by omega)
    refine ⟨?_, ?_, ?_⟩
    · rw [Array.getElem?_setIfInBounds_ne (by omega), Array.getElem?_setIfInBounds_ne (by omega), Array.getElem?_setIfInBounds_ne (by omega)]; exact k1
    · rw [Array.getElem?_setIfInBounds_ne (by omega), Array.getElem?_setIfInBounds_ne (by omega), Array.getElem?_setIfInBounds_ne (by omega)]; exact k2
    · rw [Array.getElem?_setIfInBounds_ne (by omega), Array.getElem?_setIfInBounds_ne (by omega), Array.getElem?_setIfInBounds_ne (by omega)]; exact k3
theorem MC.cells {w wr : World} {N r : Nat} {cs : List RC} (h : MC w wr N cs r) {j : Nat} (hj : j < N * 3) : (∃ v, wr.cell? ⟨w.heap.size, j, none⟩ = some v) ∧ wr.frozen? ⟨w.heap.size, j, none⟩ = false := by
  obtain ⟨cur, h1, h2, h3⟩ := h.blk
  refine ⟨⟨cur[j]'(by omega), ?_⟩, by simp [World.frozen?, h1]⟩
  simp only [World.cell?, h1]
  exact Array.getElem?_eq_getElem (by omega)
theorem MC.ownC {w wr : World} {N : Nat} {cs : List RC} (h : MC w wr N cs N) (hN : cs.length = N) : OwnC w.heap.size wr.heap.size wr (some ⟨w.heap.size, 0, none⟩) cs := fun _ => by
  obtain ⟨cur, h1, h2, h3⟩ := h.blk
  refine ⟨w.heap.size, rfl, ⟨Nat.le_refl _, (Array.getElem?_eq_some_iff.1 h1).1⟩, fun i hi => ?_⟩
  obtain ⟨k1, k2, k3⟩ := h3 i (by omega)
  have hf : ∀ j, wr.frozen? ⟨w.heap.size, j, none⟩ = false := fun j => by simp [World.frozen?, h1]
  refine ⟨⟨?_, ?_, ?_⟩, hf _, hf _, hf _⟩ <;> (simp only [World.cell?, h1]; assumption)


set_option maxRecDepth 100000 in
set_option maxHeartbeats 400000 in
theorem toChipS_any (a : Option Addr) (cap N : Nat) (cs : List RC) (w : World) (hN : cs.length = N) (hn : N ≤ 1048576) (hm : ChipsR w a cs) :
    Calls Try.prog 15 #[.slice a N cap] w fun e w' => e = .returned (.slice (some ⟨w.heap.size, 0, none⟩) N N) ∧ w.Since w.heap.size w' ∧ OwnC w.heap.size w'.heap.size w' (some ⟨w.heap.size, 0, none⟩) cs := by
  obtain ⟨iC, hiC⟩ := infoChip_parts
  have hmk := run_makeSlice (P := Try.prog) w 25 52 iC (.agg #[.string ⟨#[]⟩, .int .i64 0, .int .i64 0]) Try.underlying25 hiC.1 hiC.2.1 .i64 .i64 (N : Int) (N : Int) (by omega) (by omega) (by rw [hiC.2.2.1]; omega) (by rw [hiC.2.2.2]; omega) (by omega)
  rw [Int.toNat_natCast, hiC.2.2.1] at hmk
  have hst := mc_start w N cs (Value.agg #[.string ⟨#[]⟩, .int .i64 0, .int .i64 0]).cells
  have HST := Lib.hid hst
  have HN := Lib.hid hN
  have HM := Lib.hid hm
  clear hN hm hiC hst
  go_enter Try.func15, Try.ntmps15
  go_wp2
  clear hmk
  go_loopg [4] N (fun g i wr => ∃ r : Nat, r ≤ N ∧ g = N - r ∧ i = .int .i64 r ∧ MC w wr N cs r)
  case atStart => exact ⟨0, Nat.zero_le _, rfl, rfl, HST.out⟩
  case round =>
    obtain ⟨r, hr, rfl, rfl, hC⟩ := hrel
    clear HST
    by_cases hlt : r < N
    · obtain ⟨b, o, rfl, k1, k2, k3⟩ := HM.out.at (show r < cs.length by rw [HN.out]; exact hlt)
      have hS := hC.since
      have c1 := (hS.cell (World.block_lt_of_cell? _ _ k1)).trans k1
      have c2 := (hS.cell (World.block_lt_of_cell? _ _ k2)).trans k2
      have c3 := (hS.cell (World.block_lt_of_cell? _ _ k3)).trans k3
      have hstep := fun (W : World) (h : MC w W N cs r) => h.step hlt
      obtain ⟨c, hc⟩ : ∃ c, cs.getD r rc0 = c := ⟨_, rfl⟩
      rw [hc] at c1 c2 c3
      simp only [hc] at hstep
      obtain ⟨K, L, V⟩ := c
      simp only at c1 c2 c3 hstep
      have E := Lib.hid (toChip_any K L V wr)
      have HC := Lib.hid hC
      have HSTEP := Lib.hid hstep
      clear k1 k2 k3 hc hS hC hstep
      go_wp2_with (go_at_call 45; refine (E.out).mono ?_; rintro e w1 ⟨rfl, hs1⟩; have HC1 := Lib.hid (HC.out.later hs1); obtain ⟨⟨v1, m1⟩, f1⟩ := HC1.out.cells (show r * 3 < N * 3 by omega); obtain ⟨⟨v2, m2⟩, f2⟩ := HC1.out.cells (show r * 3 + 1 < N * 3 by omega); obtain ⟨⟨v3, m3⟩, f3⟩ := HC1.out.cells (show r * 3 + 2 < N * 3 by omega); clear hs1)
      go_roundg (N - (r + 1))
      case measure => omega
      case rel => exact ⟨r + 1, by omega, rfl, by go_num, HSTEP.out _ HC1.out⟩
    · obtain rfl : r = N := by omega
      have HO := Lib.hid (And.intro hC.since (hC.ownC HN.out))
      clear hC
      go_wp2_with fail
      go_ret
      exact ⟨rfl, HO.out.1, HO.out.2⟩

end Go.Proofs.Ytdodchmelepkeaa
