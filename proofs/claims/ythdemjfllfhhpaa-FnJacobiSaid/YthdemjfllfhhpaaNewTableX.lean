/- The contract of impl.newTable for a function value that turns a block of its own, such as a map. -/
import Derived.Maps.AppendAt
import Derived.Test.YthdemjfllfhhpaaNewTable
namespace Go.Proofs.Ythdemjfllfhhpaa
open Go.RowKit Go.Deep

theorem grown_allocX {w wr : World} {row : Option Nat} (h : w.grownBy wr row) (o : Obj) : w.grownBy (wr.alloc o) row := h.trans (World.grownBy_alloc _ _ _)
theorem grown_setCell {w wr : World} {row : Option Nat} (h : w.grownBy wr row) {a : Addr} (ha : w.heap.size ≤ a.block) (v : Value) : w.grownBy (wr.setCell a v) row :=
  ⟨h.os, h.tape, h.output, by have := h.size; simpa using this, fun k hk hne => (Below.heap_setCell _ _ _ _ (by omega : k ≠ a.block)).trans (h.block k hk hne)⟩
theorem grownBy_setCell (w : World) (a : Addr) (v : Value) : w.grownBy (w.setCell a v) (some a.block) :=
  ⟨rfl, rfl, rfl, by simp, fun k _ hne => Below.heap_setCell _ _ _ _ (fun e => hne (by rw [e]))⟩
theorem grown_drew {w wr : World} {row : Option Nat} (h : w.grownBy wr row) : w.grownBy wr.drew row := ⟨h.os, h.tape, h.output, h.size, h.block⟩
theorem grown_ofdrew {w wr : World} {row : Option Nat} (h : w.drew.grownBy wr row) : w.grownBy wr row := ⟨h.os, h.tape, h.output, h.size, h.block⟩
theorem grown_mono {w W w' : World} {row : Option Nat} (h : w.grownBy W row) (h2 : W.grownBy w' row) : w.grownBy w' row := h.trans h2

/-- Rows made so far. -/
structure NTX (row : Option Nat) (I : World → Prop) (w wr : World) (ht wd i : Nat) (G : Nat → Nat) (f : Nat → Nat → Int) : Prop where
  since : w.grownBy wr row
  inv : I wr
  top : wr.rowIs w.heap.size 37 ht (fun j => if j < i then .slice (some ⟨G j, 0, none⟩) wd wd else .slice none 0 0)
  rows : ∀ j, j < i → wr.rowIs (G j) 3 wd (fun k => .int .i64 (f j k))
  gt : ∀ j, j < i → w.heap.size < G j
  inj : ∀ j j', j < i → j' < i → G j = G j' → j = j'

/-- .. and one more being filled. -/
structure NTIX (row : Option Nat) (I : World → Prop) (w wr : World) (ht wd i : Nat) (G : Nat → Nat) (f : Nat → Nat → Int) (c : Nat) : Prop where
  since : w.grownBy wr row
  inv : I wr
  top : wr.rowIs w.heap.size 37 ht (fun j => if j < i + 1 then .slice (some ⟨G j, 0, none⟩) wd wd else .slice none 0 0)
  rows : ∀ j, j < i → wr.rowIs (G j) 3 wd (fun k => .int .i64 (f j k))
  cur : wr.rowIs (G i) 3 wd (fun k => if k < c then .int .i64 (f i k) else .int .i64 0)
  gt : ∀ j, j < i + 1 → w.heap.size < G j
  inj : ∀ j j', j < i + 1 → j' < i + 1 → G j = G j' → j = j'

theorem ntx_start (row : Option Nat) (I : World → Prop) (w : World) (ht wd : Nat) (G : Nat → Nat) (f : Nat → Nat → Int) (h0 : I (w.alloc (.cells (madeCells #[.slice none 0 0] ht) 37))) : NTX row I w (w.alloc (.cells (madeCells #[.slice none 0 0] ht) 37)) ht wd 0 G f :=
  ⟨World.grownBy_alloc _ _ _, h0, (World.rowIs_made w _ ht 37).congr (fun j _ => by simp), fun j hj => absurd hj (Nat.not_lt_zero _), fun j hj => absurd hj (Nat.not_lt_zero _), fun j _ hj => absurd hj (Nat.not_lt_zero _)⟩

theorem ntix_start {row : Option Nat} {I : World → Prop} {w wr : World} {ht wd i : Nat} {G : Nat → Nat} {f : Nat → Nat → Int} (hI : ∀ W W' g, I W → w.heap.size ≤ g → W.grownBy W' (some g) → I W') (h : NTX row I w wr ht wd i G f) :
    NTIX row I w ((wr.alloc (.cells (madeCells #[.int .i64 0] wd) 3)).setCell ⟨w.heap.size, i, none⟩ (.slice (some ⟨wr.heap.size, 0, none⟩) wd wd)) ht wd i (fun j => if j = i then wr.heap.size else G j) f 0 := by
  have hlt := h.top.lt
  have hG : ∀ j, j < i → G j < wr.heap.size := fun j hj => (h.rows j hj).lt
  refine ⟨grown_setCell (grown_allocX h.since _) (Nat.le_refl _) _, hI _ _ w.heap.size h.inv (Nat.le_refl _) ((World.grownBy_alloc _ _ _).trans (grownBy_setCell _ ⟨w.heap.size, i, none⟩ _)), ((h.top.alloc _).set i _).congr (fun j _ => ?_), fun j hj => ?_, ?_, fun j hj => ?_, fun j j' h1 h2 e => ?_⟩
  · by_cases e : j = i
    · subst e; simp
    · rw [if_neg e]
      by_cases hlt : j < i
      · rw [if_pos hlt, if_pos (by omega), if_neg e]
      · rw [if_neg hlt, if_neg (by omega)]
  · rw [if_neg (show j ≠ i by omega)]
    exact ((h.rows j hj).alloc _).setOther (by have := h.gt j hj; show G j ≠ w.heap.size; omega) _
  · rw [if_pos rfl]
    exact ((World.rowIs_made wr (.int .i64 0) wd 3).setOther (by show wr.heap.size ≠ w.heap.size; omega) _).congr (fun k _ => by simp)
  · by_cases e : j = i
    · rw [if_pos e]; exact hlt
    · rw [if_neg e]; exact h.gt j (by omega)
  · by_cases e1 : j = i <;> by_cases e2 : j' = i
    · omega
    · rw [if_pos e1, if_neg e2] at e; have := hG j' (by omega); omega
    · rw [if_neg e1, if_pos e2] at e; have := hG j (by omega); omega
    · rw [if_neg e1, if_neg e2] at e; exact h.inj j j' (by omega) (by omega) e

theorem NTIX.later {row : Option Nat} {I : World → Prop} {w wr w1 : World} {ht wd i : Nat} {G : Nat → Nat} {f : Nat → Nat → Int} {c : Nat} (hrow : ∀ r, row = some r → r < w.heap.size) (h : NTIX row I w wr ht wd i G f c) (hs : wr.grownBy w1 row) (hi1 : I w1) : NTIX row I w w1 ht wd i G f c :=
  have hne : ∀ x, w.heap.size ≤ x → some x ≠ row := fun x hx e => by have := hrow x e.symm; omega
  ⟨h.since.trans hs, hi1, h.top.of_block (hs.block _ h.top.lt (hne _ (Nat.le_refl _))), fun j hj => (h.rows j hj).of_block (hs.block _ (h.rows j hj).lt (hne _ (by have := h.gt j (by omega); omega))), h.cur.of_block (hs.block _ h.cur.lt (hne _ (by have := h.gt i (by omega); omega))), h.gt, h.inj⟩

theorem NTIX.step {row : Option Nat} {I : World → Prop} {w wr : World} {ht wd i : Nat} {G : Nat → Nat} {f : Nat → Nat → Int} {c : Nat} (hI : ∀ W W' g, I W → w.heap.size ≤ g → W.grownBy W' (some g) → I W') (h : NTIX row I w wr ht wd i G f c) :
    NTIX row I w (wr.setCell ⟨G i, c, none⟩ (.int .i64 (f i c))) ht wd i G f (c + 1) := by
  have hgi := h.gt i (by omega)
  refine ⟨grown_setCell h.since (by show w.heap.size ≤ G i; omega) _, hI _ _ (G i) h.inv (by omega) (grownBy_setCell _ ⟨G i, c, none⟩ _), h.top.setOther (by show w.heap.size ≠ G i; omega) _, fun j hj => (h.rows j hj).setOther (fun e => by have := h.inj j i (by omega) (by omega) e; omega) _, (h.cur.set c _).congr (fun k _ => ?_), h.gt, h.inj⟩
  by_cases e : k = c
  · subst e; simp
  · rw [if_neg e]
    by_cases hlt : k < c
    · rw [if_pos hlt, if_pos (by omega)]
    · rw [if_neg hlt, if_neg (by omega)]

theorem NTIX.full {row : Option Nat} {I : World → Prop} {w wr : World} {ht wd i : Nat} {G : Nat → Nat} {f : Nat → Nat → Int} (h : NTIX row I w wr ht wd i G f wd) : NTX row I w wr ht wd (i + 1) G f :=
  ⟨h.since, h.inv, h.top, fun j hj => by
    by_cases e : j = i
    · subst e; exact h.cur.congr (fun k hk => by rw [if_pos hk])
    · exact h.rows j (by omega), h.gt, h.inj⟩

theorem NTIX.facts {row : Option Nat} {I : World → Prop} {w wr : World} {ht wd i g : Nat} {G : Nat → Nat} {f : Nat → Nat → Int} {c : Nat} (h : NTIX row I w wr ht wd i G f c) (hi : i < ht) (hc : c < wd) (hg : G i = g) :
    wr.cell? ⟨w.heap.size, i, none⟩ = some (.slice (some ⟨g, 0, none⟩) wd wd) ∧ wr.cell? ⟨g, c, none⟩ = some (.int .i64 0) ∧ wr.frozen? ⟨g, c, none⟩ = false := by
  subst hg
  refine ⟨?_, ?_, h.cur.frozen c⟩
  · have := h.top.cell (i := i) hi
    rw [if_pos (by omega)] at this; exact this
  · have := h.cur.cell (i := c) hc
    rw [if_neg (by omega)] at this; exact this

theorem NTIX.keeps {row : Option Nat} {I : World → Prop} {w wr : World} {ht wd i g : Nat} {G : Nat → Nat} {f : Nat → Nat → Int} {c : Nat} (h : NTIX row I w wr ht wd i G f c) (hi : i < ht) (hc : c < wd) (hg : G i = g) (v : Value) :
    (wr.setCell ⟨g, c, none⟩ v).cell? ⟨w.heap.size, i, none⟩ = some (.slice (some ⟨g, 0, none⟩) wd wd) := by
  have h1 := h.gt i (by omega)
  rw [World.cell?_setCell_other _ _ _ _ (fun e => by injection e with e1; omega)]
  exact (h.facts hi hc hg).1

theorem NTX.ownT {row : Option Nat} {I : World → Prop} {w wr : World} {ht wd : Nat} {G : Nat → Nat} {f : Nat → Nat → Int} (h : NTX row I w wr ht wd ht G f) : OwnT w.heap.size wr.heap.size wr (some ⟨w.heap.size, 0, none⟩) (tabF ht wd f) := by
  intro _
  rw [tabF_length]
  refine ⟨w.heap.size, fun r => some ⟨G r, 0, none⟩, G, fun _ => wd, rfl, ⟨Nat.le_refl _, h.top.lt⟩, fun r hr => ?_, fun r r' h1 h2 _ _ e => h.inj r r' h1 h2 e⟩
  rw [tabF_len _ _ _ _ hr]
  refine ⟨?_, fun _ => ⟨rfl, ?_, fun i hi => ⟨?_, (h.rows r hr).frozen i⟩⟩⟩
  · have := h.top.cell (i := r) hr
    rw [if_pos hr] at this; exact this
  · have h1 := h.gt r hr
    have h2 := (h.rows r hr).lt
    omega
  · rw [tabF_at _ _ _ _ _ hr hi]; exact (h.rows r hr).cell hi

set_option maxRecDepth 100000 in
set_option maxHeartbeats 4000000 in
theorem newTableX_any (row : Option Nat) (I : World → Prop) (K : Nat) (caps : Array Value) (ht wd : Nat) (f : Nat → Nat → Int) (w : World) (hh : ht ≤ 1000) (hw : wd ≤ 1000) (eg : ∀ args w, (callFunc K args).run Try.prog w = .ok (.enter K args) w)
    (hrow : ∀ r, row = some r → r < w.heap.size) (hI : ∀ W W' g, I W → w.heap.size ≤ g → W.grownBy W' (some g) → I W') (hI0 : I w)
    (hent : ∀ (W : World) (i k : Nat), w.grownBy W row → I W → i < ht → k < wd → Calls Try.prog K (#[.int .i64 i, .int .i64 k] ++ caps) W fun e w' => e = .returned (.int .i64 (f i k)) ∧ W.grownBy w' row ∧ I w') :
    Calls Try.prog 79 #[.int .i64 ht, .int .i64 wd, .func (.func K) #[] caps] w fun e w' => e = .returned (.slice (some ⟨w.heap.size, 0, none⟩) ht ht) ∧ (w.grownBy w' row ∧ I w') ∧ OwnT w.heap.size w'.heap.size w' (some ⟨w.heap.size, 0, none⟩) (tabF ht wd f) := by
  have hst := fun G => ntx_start row I w ht wd G f (hI _ _ w.heap.size hI0 (Nat.le_refl _) (World.grownBy_alloc _ _ _))
  have HII0 := Lib.hid hI
  have HROW := Lib.hid hrow
  have hmk := run_make_row' (P := Try.prog) 48 37 (.slice none 0 0) 24 Try.underlying48 Try.info37 rfl .i64 .i64 ht (by omega) (by omega)
  have HST := Lib.hid hst
  have HE := Lib.hid hent
  clear hst hent hI hrow hI0
  go_enter Try.func79, Try.ntmps79
  go_wp2
  go_loopg [8, 9, 14] ht (fun g _ _ i wr => ∃ r : Nat, ∃ G, r ≤ ht ∧ g = ht - r ∧ i = .int .i64 r ∧ NTX row I w wr ht wd r G f)
  case atStart => exact ⟨0, fun _ => 0, Nat.zero_le _, rfl, rfl, HST.out _⟩
  case round =>
    obtain ⟨r, G, hr, rfl, rfl, hR⟩ := hrel
    clear hmk
    by_cases hlt : r < ht
    · have hmk := run_make_row' (P := Try.prog) 37 3 (.int .i64 0) 8 Try.underlying37 Try.info3 rfl .i64 .i64 wd (by omega) (by omega)
      have hc1 := fun o => (hR.top.alloc o).cell (i := r) hlt
      simp only [Nat.lt_irrefl, if_false] at hc1
      have hf1 := fun o => (hR.top.alloc o).frozen r
      have hI0 := ntix_start HII0.out hR
      have HI0 := Lib.hid hI0
      clear hI0
      go_wp2
      clear hc1 hf1 hmk
      obtain ⟨g, hg⟩ : ∃ g, g = wr.heap.size := ⟨_, rfl⟩
      obtain ⟨G', hG'⟩ : ∃ G', G' = (fun j => if j = r then wr.heap.size else G j) := ⟨_, rfl⟩
      have hgr : G' r = g := by rw [hG', hg]; simp
      have HI := HI0.out
      rw [← hG', ← hg] at HI
      rw [← hg]
      have HI' := Lib.hid HI
      have HGR := Lib.hid hgr
      clear HI HI0 hg hG' hgr hR
      go_loopg [9, 27] wd (fun q _ i wi => ∃ c : Nat, c ≤ wd ∧ q = wd - c ∧ i = .int .i64 c ∧ NTIX row I w wi ht wd r G' f c)
      case atStart => exact ⟨0, Nat.zero_le _, rfl, rfl, HI'.out⟩
      case round =>
        obtain ⟨c, hc, rfl, rfl, hI⟩ := hrel
        clear HI'
        by_cases hcw : c < wd
        · have hld := (hI.facts hlt hcw HGR.out).1
          obtain ⟨y, hy⟩ : ∃ y, y = f r c := ⟨_, rfl⟩
          have HY := Lib.hid hy
          have hE := fun (W : World) (hs : w.grownBy W row) (hi : I W) => HE.out W r c hs hi hlt hcw
          rw [← hy] at hE
          have HEE := Lib.hid hE
          have HII := Lib.hid hI
          clear hE hy hI
          go_wp2
          go_region_held3 (fun w' => w'.cell? ⟨w.heap.size, r, none⟩ = some (.slice (some ⟨g, 0, none⟩) wd wd)) (go_keep)
            (first | (refine (HEE.out _ ?_ ?_).mono ?_; (exact grown_drew HII.out.since); (exact HII0.out _ _ w.heap.size HII.out.inv (Nat.le_refl _) (grown_drew (World.grownBy.refl _ _))); rintro e w1 ⟨rfl, hs1, hi1⟩; obtain ⟨k1, k2, k3⟩ := (HII.out.later HROW.out (grown_ofdrew hs1) hi1).facts hlt hcw HGR.out; have hN1 := Lib.hid (HII.out.later HROW.out (grown_ofdrew hs1) hi1); have k4 := hN1.out.keeps hlt hcw HGR.out (.int .i64 y); clear hs1))
          have hS := hN1.out.step HII0.out
          rw [HGR.out, ← HY.out] at hS
          clear k1 k2 k3 k4
          go_wp2
          go_roundg (wd - (c + 1))
          case measure => omega
          case rel => exact ⟨c + 1, by omega, rfl, by go_num, hS⟩
        · have hcc : c = wd := by omega
          subst hcc
          have hF := hI.full
          clear hI
          go_wp2
          go_roundg (ht - (r + 1))
          case measure => omega
          case rel => exact ⟨r + 1, G', by omega, rfl, by go_num, hF⟩
    · have hrr : r = ht := by omega
      subst hrr
      go_wp2
      go_ret
      exact ⟨rfl, ⟨hR.since, hR.inv⟩, hR.ownT⟩

end Go.Proofs.Ythdemjfllfhhpaa
