/- The contract of impl.newTable, for every function value that tells the entries. -/
import Derived.Deep.RegionHeld3
import Derived.Deep.DeepFit
import Derived.Test.YtdbomnhlgaohaaaMark
namespace Go.Proofs.Ytdbomnhlgaohaaa
open Go.RowKit Go.Deep

/-- Rows made so far. -/
structure NT (w wr : World) (ht wd i : Nat) (G : Nat → Nat) (f : Nat → Nat → Int) : Prop where
  since : w.Since w.heap.size wr
  top : wr.rowIs w.heap.size 23 ht (fun j => if j < i then .slice (some ⟨G j, 0, none⟩) wd wd else .slice none 0 0)
  rows : ∀ j, j < i → wr.rowIs (G j) 3 wd (fun k => .int .i64 (f j k))
  gt : ∀ j, j < i → w.heap.size < G j
  inj : ∀ j j', j < i → j' < i → G j = G j' → j = j'

/-- .. and one more being filled. -/
structure NTI (w wr : World) (ht wd i : Nat) (G : Nat → Nat) (f : Nat → Nat → Int) (c : Nat) : Prop where
  since : w.Since w.heap.size wr
  top : wr.rowIs w.heap.size 23 ht (fun j => if j < i + 1 then .slice (some ⟨G j, 0, none⟩) wd wd else .slice none 0 0)
  rows : ∀ j, j < i → wr.rowIs (G j) 3 wd (fun k => .int .i64 (f j k))
  cur : wr.rowIs (G i) 3 wd (fun k => if k < c then .int .i64 (f i k) else .int .i64 0)
  gt : ∀ j, j < i + 1 → w.heap.size < G j
  inj : ∀ j j', j < i + 1 → j' < i + 1 → G j = G j' → j = j'

theorem nt_start (w : World) (ht wd : Nat) (G : Nat → Nat) (f : Nat → Nat → Int) : NT w (w.alloc (.cells (madeCells #[.slice none 0 0] ht) 23)) ht wd 0 G f :=
  ⟨(World.Since.refl _ _).alloc (Nat.le_refl _) _, (World.rowIs_made w _ ht 23).congr (fun j _ => by simp), fun j hj => absurd hj (Nat.not_lt_zero _), fun j hj => absurd hj (Nat.not_lt_zero _), fun j _ hj => absurd hj (Nat.not_lt_zero _)⟩

theorem nti_start {w wr : World} {ht wd i : Nat} {G : Nat → Nat} {f : Nat → Nat → Int} (h : NT w wr ht wd i G f) :
    NTI w ((wr.alloc (.cells (madeCells #[.int .i64 0] wd) 3)).setCell ⟨w.heap.size, i, none⟩ (.slice (some ⟨wr.heap.size, 0, none⟩) wd wd)) ht wd i (fun j => if j = i then wr.heap.size else G j) f 0 := by
  have hlt := h.top.lt
  have hG : ∀ j, j < i → G j < wr.heap.size := fun j hj => (h.rows j hj).lt
  refine ⟨(h.since.alloc (by omega) _).setCell (Nat.le_refl _) _, ((h.top.alloc _).set i _).congr (fun j _ => ?_), fun j hj => ?_, ?_, fun j hj => ?_, fun j j' h1 h2 e => ?_⟩
  · by_cases e : j = i
    · subst e; simp
    · rw [if_neg e]
      by_cases hlt : j < i
      · rw [if_pos hlt, if_pos (by omega), if_neg e]
      · rw [if_neg hlt, if_neg (by omega)]
  · rw [if_neg (show j ≠ i by omega)]
    exact ((h.rows j hj).alloc _).setOther (by have := h.gt j hj; show G j ≠ w.heap.size; omega) _
  · rw [if_pos rfl]
    exact ((World.rowIs_made wr (.int .i64 0) wd 3).setOther (by show wr.heap.size ≠ w.heap.size; omega) _).congr (fun k _ => by simp)
  · by_cases e : j = i
    · rw [if_pos e]; exact hlt
    · rw [if_neg e]; exact h.gt j (by omega)
  · by_cases e1 : j = i <;> by_cases e2 : j' = i
    · omega
    · rw [if_pos e1, if_neg e2] at e; have := hG j' (by omega); omega
    · rw [if_neg e1, if_pos e2] at e; have := hG j (by omega); omega
    · rw [if_neg e1, if_neg e2] at e; exact h.inj j j' (by omega) (by omega) e

theorem NTI.later {w wr w1 : World} {ht wd i : Nat} {G : Nat → Nat} {f : Nat → Nat → Int} {c : Nat} (h : NTI w wr ht wd i G f c) (hs : wr.Since wr.heap.size w1) : NTI w w1 ht wd i G f c :=
  ⟨h.since.trans (since_mono hs h.since.size), h.top.of_block (hs.block _ h.top.lt), fun j hj => (h.rows j hj).of_block (hs.block _ (h.rows j hj).lt), h.cur.of_block (hs.block _ h.cur.lt), h.gt, h.inj⟩

theorem NTI.step {w wr : World} {ht wd i : Nat} {G : Nat → Nat} {f : Nat → Nat → Int} {c : Nat} (h : NTI w wr ht wd i G f c) :
    NTI w (wr.setCell ⟨G i, c, none⟩ (.int .i64 (f i c))) ht wd i G f (c + 1) := by
  have hgi := h.gt i (by omega)
  refine ⟨h.since.setCell (by show w.heap.size ≤ G i; omega) _, h.top.setOther (by show w.heap.size ≠ G i; omega) _, fun j hj => (h.rows j hj).setOther (fun e => by have := h.inj j i (by omega) (by omega) e; omega) _, (h.cur.set c _).congr (fun k _ => ?_), h.gt, h.inj⟩
  by_cases e : k = c
  · subst e; simp
  · rw [if_neg e]
    by_cases hlt : k < c
    · rw [if_pos hlt, if_pos (by omega)]
    · rw [if_neg hlt, if_neg (by omega)]

theorem NTI.full {w wr : World} {ht wd i : Nat} {G : Nat → Nat} {f : Nat → Nat → Int} (h : NTI w wr ht wd i G f wd) : NT w wr ht wd (i + 1) G f :=
  ⟨h.since, h.top, fun j hj => by
    by_cases e : j = i
    · subst e; exact h.cur.congr (fun k hk => by rw [if_pos hk])
    · exact h.rows j (by omega), h.gt, h.inj⟩

theorem since_of_drew {w w1 : World} {B : Nat} (h : w.drew.Since B w1) : w.Since B w1 := ⟨h.os, h.tape, h.output, h.size, h.block⟩
theorem NTI.facts {w wr : World} {ht wd i g : Nat} {G : Nat → Nat} {f : Nat → Nat → Int} {c : Nat} (h : NTI w wr ht wd i G f c) (hi : i < ht) (hc : c < wd) (hg : G i = g) :
    wr.cell? ⟨w.heap.size, i, none⟩ = some (.slice (some ⟨g, 0, none⟩) wd wd) ∧ wr.cell? ⟨g, c, none⟩ = some (.int .i64 0) ∧ wr.frozen? ⟨g, c, none⟩ = false := by
  subst hg
  refine ⟨?_, ?_, h.cur.frozen c⟩
  · have := h.top.cell (i := i) hi
    rw [if_pos (by omega)] at this; exact this
  · have := h.cur.cell (i := c) hc
    rw [if_neg (by omega)] at this; exact this

theorem NTI.keeps {w wr : World} {ht wd i g : Nat} {G : Nat → Nat} {f : Nat → Nat → Int} {c : Nat} (h : NTI w wr ht wd i G f c) (hi : i < ht) (hc : c < wd) (hg : G i = g) (v : Value) :
    (wr.setCell ⟨g, c, none⟩ v).cell? ⟨w.heap.size, i, none⟩ = some (.slice (some ⟨g, 0, none⟩) wd wd) := by
  have h1 := h.gt i (by omega)
  rw [World.cell?_setCell_other _ _ _ _ (fun e => by injection e with e1; omega)]
  exact (h.facts hi hc hg).1

/-- The table of a function of rows and columns. -/
def tabF (ht wd : Nat) (f : Nat → Nat → Int) : List (List Int) := (List.range ht).map fun i => (List.range wd).map fun k => f i k
theorem tabF_length (ht wd : Nat) (f : Nat → Nat → Int) : (tabF ht wd f).length = ht := by simp [tabF]
theorem tabF_get (ht wd : Nat) (f : Nat → Nat → Int) (i : Nat) (h : i < ht) : (tabF ht wd f).getD i [] = (List.range wd).map fun k => f i k := by simp [tabF, List.getD, h]
theorem tabF_len (ht wd : Nat) (f : Nat → Nat → Int) (i : Nat) (h : i < ht) : ((tabF ht wd f).getD i []).length = wd := by rw [tabF_get _ _ _ _ h]; simp
theorem tabF_at (ht wd : Nat) (f : Nat → Nat → Int) (i k : Nat) (h : i < ht) (hk : k < wd) : ((tabF ht wd f).getD i []).getD k 0 = f i k := by rw [tabF_get _ _ _ _ h]; simp [List.getD, hk]

theorem NT.ownT {w wr : World} {ht wd : Nat} {G : Nat → Nat} {f : Nat → Nat → Int} (h : NT w wr ht wd ht G f) : OwnT w.heap.size wr.heap.size wr (some ⟨w.heap.size, 0, none⟩) (tabF ht wd f) := by
  intro _
  rw [tabF_length]
  refine ⟨w.heap.size, fun r => some ⟨G r, 0, none⟩, G, fun _ => wd, rfl, ⟨Nat.le_refl _, h.top.lt⟩, fun r hr => ?_, fun r r' h1 h2 _ _ e => h.inj r r' h1 h2 e⟩
  rw [tabF_len _ _ _ _ hr]
  refine ⟨?_, fun _ => ⟨rfl, ?_, fun i hi => ⟨?_, (h.rows r hr).frozen i⟩⟩⟩
  · have := h.top.cell (i := r) hr
    rw [if_pos hr] at this; exact this
  · have h1 := h.gt r hr
    have h2 := (h.rows r hr).lt
    omega
  · rw [tabF_at _ _ _ _ _ hr hi]; exact (h.rows r hr).cell hi

set_option maxRecDepth 100000 in
set_option maxHeartbeats 4000000 in
theorem newTable_any (K : Nat) (caps : Array Value) (ht wd : Nat) (f : Nat → Nat → Int) (w : World) (hh : ht ≤ 1000) (hw : wd ≤ 1000) (eg : ∀ args w, (callFunc K args).run Try.prog w = .ok (.enter K args) w)
    (hent : ∀ (W : World) (i k : Nat), w.Since w.heap.size W → i < ht → k < wd → Calls Try.prog K (#[.int .i64 i, .int .i64 k] ++ caps) W fun e w' => e = .returned (.int .i64 (f i k)) ∧ W.Since W.heap.size w') :
    Calls Try.prog 74 #[.int .i64 ht, .int .i64 wd, .func (.func K) #[] caps] w fun e w' => e = .returned (.slice (some ⟨w.heap.size, 0, none⟩) ht ht) ∧ w.Since w.heap.size w' ∧ OwnT w.heap.size w'.heap.size w' (some ⟨w.heap.size, 0, none⟩) (tabF ht wd f) := by
  have hst := fun G => nt_start w ht wd G f
  have hmk := run_make_row' (P := Try.prog) 50 23 (.slice none 0 0) 24 Try.underlying50 Try.info23 rfl .i64 .i64 ht (by omega) (by omega)
  have HST := Lib.hid hst
  have HE := Lib.hid hent
  clear hst hent
  go_enter Try.func74, Try.ntmps74
  go_wp2
  go_loopg [8, 9, 14] ht (fun g _ _ i wr => ∃ r : Nat, ∃ G, r ≤ ht ∧ g = ht - r ∧ i = .int .i64 r ∧ NT w wr ht wd r G f)
  case atStart => exact ⟨0, fun _ => 0, Nat.zero_le _, rfl, rfl, HST.out _⟩
  case round =>
    obtain ⟨r, G, hr, rfl, rfl, hR⟩ := hrel
    clear hmk
    by_cases hlt : r < ht
    · have hmk := run_make_row' (P := Try.prog) 23 3 (.int .i64 0) 8 Try.underlying23 Try.info3 rfl .i64 .i64 wd (by omega) (by omega)
      have hc1 := fun o => (hR.top.alloc o).cell (i := r) hlt
      simp only [Nat.lt_irrefl, if_false] at hc1
      have hf1 := fun o => (hR.top.alloc o).frozen r
      have hI0 := nti_start hR
      have HI0 := Lib.hid hI0
      clear hI0
      go_wp2
      clear hc1 hf1 hmk
      obtain ⟨g, hg⟩ : ∃ g, g = wr.heap.size := ⟨_, rfl⟩
      obtain ⟨G', hG'⟩ : ∃ G', G' = (fun j => if j = r then wr.heap.size else G j) := ⟨_, rfl⟩
      have hgr : G' r = g := by rw [hG', hg]; simp
      have HI := HI0.out
      rw [← hG', ← hg] at HI
      rw [← hg]
      have HI' := Lib.hid HI
      have HGR := Lib.hid hgr
      clear HI HI0 hg hG' hgr hR
      go_loopg [9, 27] wd (fun q _ i wi => ∃ c : Nat, c ≤ wd ∧ q = wd - c ∧ i = .int .i64 c ∧ NTI w wi ht wd r G' f c)
      case atStart => exact ⟨0, Nat.zero_le _, rfl, rfl, HI'.out⟩
      case round =>
        obtain ⟨c, hc, rfl, rfl, hI⟩ := hrel
        clear HI'
        by_cases hcw : c < wd
        · have hld := (hI.facts hlt hcw HGR.out).1
          obtain ⟨y, hy⟩ : ∃ y, y = f r c := ⟨_, rfl⟩
          have HY := Lib.hid hy
          have hE := fun (W : World) (hs : w.Since w.heap.size W) => HE.out W r c hs hlt hcw
          rw [← hy] at hE
          have HEE := Lib.hid hE
          have HII := Lib.hid hI
          clear hE hy hI
          go_wp2
          go_region_held3 (fun w' => w'.cell? ⟨w.heap.size, r, none⟩ = some (.slice (some ⟨g, 0, none⟩) wd wd)) (go_keep)
            (first | (refine (HEE.out _ ?_).mono ?_; (exact World.Since.drew HII.out.since); rintro e w1 ⟨rfl, hs1⟩; obtain ⟨k1, k2, k3⟩ := (HII.out.later (since_of_drew hs1)).facts hlt hcw HGR.out; have hN1 := Lib.hid (HII.out.later (since_of_drew hs1)); have k4 := hN1.out.keeps hlt hcw HGR.out (.int .i64 y); clear hs1))
          have hS := hN1.out.step
          rw [HGR.out, ← HY.out] at hS
          clear k1 k2 k3 k4
          go_wp2
          go_roundg (wd - (c + 1))
          case measure => omega
          case rel => exact ⟨c + 1, by omega, rfl, by go_num, hS⟩
        · have hcc : c = wd := by omega
          subst hcc
          have hF := hI.full
          clear hI
          go_wp2
          go_roundg (ht - (r + 1))
          case measure => omega
          case rel => exact ⟨r + 1, G', by omega, rfl, by go_num, hF⟩
    · have hrr : r = ht := by omega
      subst hrr
      go_wp2
      go_ret
      exact ⟨rfl, hR.since, hR.ownT⟩

end Go.Proofs.Ytdbomnhlgaohaaa
