import Derived.Test.YtbedkjpbdkgjpaaMark
import Derived.Test.YtbedkjpbdkgjpaaPlaceR
import Derived.Maps.AppendAt
import Derived.Test.YtbedkjpbdkgjpaaL3Table
import Derived.Test.YtbedkjpbdkgjpaaTurnSpec
import Derived.Deep.QuietTactic
import Derived.Deep.AppendLies
import Derived.Deep.RegionHeld3
import Derived.Test.YtbedkjpbdkgjpaaHarn2
import Derived.OwnWalk
import Derived.Test.YtbedkjpbdkgjpaaArr
import Derived.Laws.StructEq
import Derived.Test.YtbedkjpbdkgjpaaTold
import Derived.Test.YtbedkjpbdkgjpaaRelI
import Derived.Test.YtbedkjpbdkgjpaaRows
import Derived.Test.YtbedkjpbdkgjpaaData
import Derived.ProofKit
import Derived.Deep.Matrix

section
/- Rows that a call has made in a block of its own: what is said of them, how they stay, and what marking them does. -/
namespace Go.Proofs.Ytbedkjpbdkgjpaa
open Go.RowKit Go.Deep

/-- A row that reads as x, in the blocks from lo to hi. -/
def InR (lo hi : Nat) (w : World) (a : Option Addr) (x : List Int) : Prop :=
  0 < x.length → ∃ g o : Nat, a = some ⟨g, o, none⟩ ∧ (lo ≤ g ∧ g < hi) ∧ ∀ i, i < x.length → w.cell? ⟨g, o + i, none⟩ = some (.int .i64 (x.getD i 0))
/-- .. in a block of its own that may be written. -/
def OwnR (lo hi : Nat) (w : World) (a : Option Addr) (x : List Int) : Prop :=
  0 < x.length → ∃ g : Nat, a = some ⟨g, 0, none⟩ ∧ (lo ≤ g ∧ g < hi) ∧ ∀ i, i < x.length → w.cell? ⟨g, i, none⟩ = some (.int .i64 (x.getD i 0)) ∧ w.frozen? ⟨g, i, none⟩ = false
theorem OwnR.inR {lo hi : Nat} {w : World} {a : Option Addr} {x : List Int} (h : OwnR lo hi w a x) : InR lo hi w a x := fun h0 => by
  obtain ⟨g, e, hg, hc⟩ := h h0
  exact ⟨g, 0, e, hg, fun i hi => by rw [Nat.zero_add]; exact (hc i hi).1⟩
theorem InR.rowR {lo hi : Nat} {w : World} {a : Option Addr} {x : List Int} (h : InR lo hi w a x) : RowR w a x := fun h0 => by
  obtain ⟨g, o, e, _, hc⟩ := h h0
  exact ⟨g, o, e, hc⟩
theorem OwnR.rowR {lo hi : Nat} {w : World} {a : Option Addr} {x : List Int} (h : OwnR lo hi w a x) : RowR w a x := h.inR.rowR
theorem InR.nil (lo hi : Nat) (w : World) (a : Option Addr) : InR lo hi w a [] := fun h => by simp at h
theorem OwnR.nil (lo hi : Nat) (w : World) (a : Option Addr) : OwnR lo hi w a [] := fun h => by simp at h
theorem InR.mono {lo hi lo' hi' : Nat} {w : World} {a : Option Addr} {x : List Int} (h : InR lo hi w a x) (h1 : lo' ≤ lo) (h2 : hi ≤ hi') : InR lo' hi' w a x := fun h0 => by
  obtain ⟨g, o, e, hg, hc⟩ := h h0
  exact ⟨g, o, e, by omega, hc⟩
theorem OwnR.mono {lo hi lo' hi' : Nat} {w : World} {a : Option Addr} {x : List Int} (h : OwnR lo hi w a x) (h1 : lo' ≤ lo) (h2 : hi ≤ hi') : OwnR lo' hi' w a x := fun h0 => by
  obtain ⟨g, e, hg, hc⟩ := h h0
  exact ⟨g, e, by omega, hc⟩
theorem InR.frame {lo hi lo' hi' : Nat} {w w' : World} {a : Option Addr} {x : List Int} (h : InR lo hi w a x) (hf : Frame lo' hi' w w') (hd : hi ≤ lo' ∨ hi' ≤ lo) : InR lo hi w' a x := fun h0 => by
  obtain ⟨g, o, e, hg, hc⟩ := h h0
  exact ⟨g, o, e, hg, fun i hi1 => hf.cell (hc i hi1) (by show g < lo' ∨ hi' ≤ g; omega)⟩
theorem OwnR.frame {lo hi lo' hi' : Nat} {w w' : World} {a : Option Addr} {x : List Int} (h : OwnR lo hi w a x) (hf : Frame lo' hi' w w') (hd : hi ≤ lo' ∨ hi' ≤ lo) : OwnR lo hi w' a x := fun h0 => by
  obtain ⟨g, e, hg, hc⟩ := h h0
  exact ⟨g, e, hg, fun i hi1 => ⟨hf.cell (hc i hi1).1 (by show g < lo' ∨ hi' ≤ g; omega), (hf.frozen (hc i hi1).1 (by show g < lo' ∨ hi' ≤ g; omega)).trans (hc i hi1).2⟩⟩
theorem InR.since {lo hi : Nat} {w w' : World} {a : Option Addr} {x : List Int} (h : InR lo hi w a x) (hs : w.Since w.heap.size w') : InR lo hi w' a x := h.frame (frame_since hs hi hi) (.inl (Nat.le_refl _))
theorem OwnR.since {lo hi : Nat} {w w' : World} {a : Option Addr} {x : List Int} (h : OwnR lo hi w a x) (hs : w.Since w.heap.size w') : OwnR lo hi w' a x := h.frame (frame_since hs hi hi) (.inl (Nat.le_refl _))
theorem RowMade.ownR {w wr : World} {l : List Int} (h : RowMade w wr l l.length) : OwnR w.heap.size wr.heap.size wr (some ⟨w.heap.size, 0, none⟩) l := fun _ => by
  have hs := h.size
  refine ⟨w.heap.size, rfl, by omega, fun i hi => ⟨?_, h.row.frozen i⟩⟩
  have := h.row.cell (i := i) hi
  rw [if_pos hi] at this
  exact this

/-- A copy of a row. -/
theorem toIntR_any (a : Option Addr) (cap n : Nat) (l : List Int) (w : World) (hn : l.length = n) (hn1 : n ≤ 1048576) (hm : RowR w a l) :
    Calls Try.prog 16 #[.slice a n cap] w fun e w' => e = .returned (.slice (some ⟨w.heap.size, 0, none⟩) n n) ∧ w.Since w.heap.size w' ∧ OwnR w.heap.size w'.heap.size w' (some ⟨w.heap.size, 0, none⟩) l := by
  subst hn
  exact (toIntS_any a cap l w hn1 hm).mono fun _ _ h => ⟨h.1, h.2.since, h.2.ownR⟩

/-- A row of one's own is marked. -/
theorem markR_any (a : Option Addr) (lo hi cap m : Nat) (k : Int) (x : List Int) (w : World) (hx : x.length = m) (h0 : 0 ≤ k) (hk : k + m ≤ 4000000) (h : OwnR lo hi w a x) :
    Calls Try.prog 23 #[.slice a m cap, .int .i64 k] w fun e w' => e = .returned (.int .i64 (k + m)) ∧ OwnR lo hi w' a (markRow k m) ∧ Frame lo hi w w' ∧ w'.heap.size = w.heap.size := by
  by_cases h1 : 0 < m
  · obtain ⟨g, e, hg, hc⟩ := h (by omega)
    refine (markIntS_any a g cap m k x w hx h0 hk (fun _ => e) (fun i hi => (hc i (by omega)).1) (fun i hi => (hc i (by omega)).2)).mono ?_
    rintro r w' ⟨rfl, hM⟩
    refine ⟨rfl, fun _ => ⟨g, e, hg, fun i hi => ?_⟩, hM.frame (.inl hg), hM.size⟩
    rw [markRow_length] at hi
    refine ⟨?_, hM.frozen i hi⟩
    rw [hM.cell i hi, if_pos hi, markRow_get _ _ _ hi]
  · have hm : m = 0 := by omega
    subst hm
    have hxe : x = [] := List.length_eq_zero_iff.1 hx
    clear h
    go_enter Try.func23, Try.ntmps23
    go_wp2
    go_loopg [1, 5] 0 (fun g q i wr => q = .int .i64 k ∧ i = .int .i64 0 ∧ wr = w)
    case atStart => exact ⟨rfl, rfl, rfl⟩
    case round =>
      obtain ⟨rfl, rfl, rfl⟩ := hrel
      go_wp2
      go_ret
      exact ⟨ret_int (by simp), OwnR.nil _ _ _ _, Frame.refl _ _ _, rfl⟩

end Go.Proofs.Ytbedkjpbdkgjpaa
end

section
/- The contract of spec.PlaceBases. -/
namespace Go.Proofs.Ytbedkjpbdkgjpaa
open Go.RowKit Go.Deep

/-- A row and whether there is one. -/
def PRes (w : World) (ok : Bool) (x : List Int) (e : Ending) (w' : World) : Prop :=
  ∃ a c, e = .returned (.tuple #[.slice a (if ok = true then x.length else 0) c, .bool ok]) ∧ w.Since w.heap.size w' ∧ InR w.heap.size w'.heap.size w' a (if ok = true then x else [])
theorem pres_no {w w' : World} {x : List Int} {a : Option Addr} {c : Nat} {e : Ending} (he : e = .returned (.tuple #[.slice a 0 c, .bool false])) (hs : w.Since w.heap.size w') : PRes w false x e w' :=
  ⟨a, c, he, hs, fun h => absurd h (by simp)⟩
theorem pres_yes {w wr w' : World} {x : List Int} {v : Value} {e : Ending} (h : RB wr w' v x) (hs : w.Since w.heap.size wr) (he : e = .returned (.tuple #[v, .bool true])) : PRes w true x e w' := by
  obtain ⟨a, cp, rfl, hr⟩ := h.slice
  refine ⟨a, cp, he, hs.trans (since_mono h.since hs.size), fun h0 => ?_⟩
  obtain ⟨G, e2, hG, h3⟩ := hr h0
  exact ⟨G, 0, e2, ⟨Nat.le_trans hs.size hG, h3.lt⟩, fun i hi => by rw [Nat.zero_add]; exact h3.cell hi⟩
/-- .. in the form that the laws' walks take. -/
theorem PRes.out {w w' : World} {ok : Bool} {x : List Int} {e : Ending} (h : PRes w ok x e w') :
    ∃ a cap, e = .returned (.tuple #[.slice a (if ok = true then x else []).length cap, .bool ok]) ∧ w.Since w.heap.size w' ∧ InR w.heap.size w'.heap.size w' a (if ok = true then x else []) := by
  obtain ⟨a, c, he, hs, hr⟩ := h
  cases ok
  · exact ⟨a, c, he, hs, hr⟩
  · exact ⟨a, c, he, hs, hr⟩

theorem apart_push {wr w1 : World} {v v' : Value} {c : Obj} {G : Nat} {x : List Int} (h : v.ownBlock ≠ some G) (hr : RowB wr G x) (hg : (wr.alloc c).grownBy w1 v.ownBlock) (hat : v'.ownBlock = v.ownBlock ∨ v'.ownBlock = some (wr.alloc c).heap.size) :
    v'.ownBlock ≠ some G ∧ RowB w1 G x := by
  have hlt := hr.lt
  have e1 : (wr.alloc c).heap[G]? = wr.heap[G]? := Below.heap_alloc wr _ G hlt
  refine ⟨fun e => ?_, hr.of_block ((hg.block G (by simp; omega) (fun e => h e.symm)).trans e1)⟩
  rcases hat with q | q
  · exact h (q.symm.trans e)
  · rw [e] at q
    have : G = (wr.alloc c).heap.size := by injection q
    simp at this
    omega

/-- The bases among the first i sets. -/
def basesTo (k M : Nat) (p : List Int) (i : Nat) : List Int := List.map (fun s : Nat => (s : Int)) (((setsTo k M).take i).filter fun s => decide (atP p s ≠ 0))
theorem basesTo_yes {k M i s : Nat} {p : List Int} (h : (setsTo k M)[i]? = some s) (hy : atP p s ≠ 0) : basesTo k M p (i + 1) = basesTo k M p i ++ [(s : Int)] := by
  unfold basesTo
  rw [List.take_add_one, h, List.filter_append, List.map_append]
  simp [hy]
theorem basesTo_no {k M i s : Nat} {p : List Int} (h : (setsTo k M)[i]? = some s) (hy : atP p s = 0) : basesTo k M p (i + 1) = basesTo k M p i := by
  unfold basesTo
  rw [List.take_add_one, h, List.filter_append, List.map_append]
  simp [hy]
theorem basesTo_le (k M : Nat) (p : List Int) (i : Nat) : (basesTo k M p i).length ≤ i := by
  unfold basesTo
  rw [List.length_map]
  exact Nat.le_trans (List.length_filter_le _ _) (by rw [List.length_take]; omega)
/-- All bases. -/
def basesP (k n : Nat) (p : List Int) : List Int := basesTo k (2 ^ n) p (setsTo k (2 ^ n)).length
theorem basesP_eq (k n : Nat) (p : List Int) : basesP k n p = List.map (fun s : Nat => (s : Int)) ((setsTo k (2 ^ n)).filter fun s => decide (atP p s ≠ 0)) := by
  unfold basesP basesTo; rw [List.take_length]
theorem placeBases_short (k n : Int) (p : List Int) : (if placeB k n p = true then basesP k.toNat n.toNat p else []).length ≤ 1000 := by
  split
  · rename_i h
    obtain ⟨k, n, rfl, rfl, _, _, h5, _, _⟩ := placeB_of h
    have := basesTo_le k (2 ^ n) p (setsTo k (2 ^ n)).length
    have h2 := setsTo_len k (2 ^ n)
    have := pow_le5 h5
    show (basesTo k (2 ^ n) p (setsTo k (2 ^ n)).length).length ≤ 1000
    omega
  · simp
theorem atP_at {k M i s : Nat} {p : List Int} (h : (setsTo k M)[i]? = some s) : p.getD i 0 = atP p s := by
  obtain ⟨h1, h2, _⟩ := setsTo_idx k M h
  unfold atP
  rw [h2, h1]

set_option maxRecDepth 100000 in
set_option maxHeartbeats 2000000 in
theorem specPlaceBases_any (k n : Int) (a : Option Addr) (cap m : Nat) (p : List Int) (w : World) (hm : p.length = m) (hmx : m ≤ 1048576) (hr : RowR w a p) :
    Calls Try.prog 27 #[.int .i64 k, .int .i64 n, .slice a m cap] w (PRes w (placeB k n p) (basesP k.toNat n.toNat p)) := by
  obtain ⟨i3, hi3⟩ := info3_parts
  have HJ := Lib.hid hi3
  have HRB := Lib.hid (rb_start w #[] rfl)
  have HS1 := Lib.hid ((World.Since.refl w.heap.size w).alloc (Nat.le_refl _) (.cells #[] 3))
  have E1 := fun (W : World) (hd : w.Since w.heap.size W) => specPlaceIn_any k n a cap m p W hm hmx (hr.since hd)
  clear hi3
  cases h1 : placeB k n p with
  | false =>
    rw [h1] at E1
    replace E1 := Lib.hid E1
    clear hr h1 hm
    go_enter Try.func27, Try.ntmps27
    go_wp2_with fail
    refine (E1.out _ HS1.out).mono ?_
    rintro e w2 ⟨rfl, hs⟩
    have hs2 := Lib.hid (HS1.out.trans (since_mono hs HS1.out.size))
    clear hs
    go_wp2
    go_ret2
    exact pres_no rfl hs2.out
  | true =>
  rw [h1] at E1
  obtain ⟨k, n, rfl, rfl, hk1, hkn, h5, hl, hp⟩ := placeB_of h1
  simp only [Int.toNat_natCast]
  have hpw := pow_le5 h5
  have ES := Lib.hid (fun (W : World) => l3Sets_any n k (by omega) W)
  have HG := Lib.hid (fun (i : Nat) => @setsI_get k (2 ^ n) i)
  have HAT := Lib.hid (fun (i s : Nat) => @atP_at k (2 ^ n) i s p)
  have HY := Lib.hid (fun (i s : Nat) => @basesTo_yes k (2 ^ n) i s p)
  have HN := Lib.hid (fun (i s : Nat) => @basesTo_no k (2 ^ n) i s p)
  have hle := basesTo_le k (2 ^ n) p
  have hlen := setsI_length k (2 ^ n)
  have hle2 := setsTo_len k (2 ^ n)
  have hR := fun (W : World) (hd : w.Since w.heap.size W) => hr.since hd
  have hst : basesTo k (2 ^ n) p 0 = [] := rfl
  unfold basesP
  obtain ⟨M, hM⟩ : ∃ x, 2 ^ n = x := ⟨_, rfl⟩
  simp only [hM] at ES HG HAT HY HN hle hlen hle2 hpw hl hst ⊢
  rw [hm] at hl
  rw [← hl] at hlen hle2 ⊢
  simp only [← hl] at HG
  have HM := Lib.hid hm
  have HL := Lib.hid hlen
  have HST := Lib.hid hst
  have HR := Lib.hid hR
  have HLE := Lib.hid hle
  replace E1 := Lib.hid E1
  clear hr h1 hm hl hp hM hlen hle hR hst
  go_enter Try.func27, Try.ntmps27
  go_wp2_with fail
  refine (E1.out _ HS1.out).mono ?_
  rintro e w2 ⟨rfl, hs⟩
  have HS2 := Lib.hid (HS1.out.trans (since_mono hs HS1.out.size))
  have HRB2 := Lib.hid (HRB.out.later hs)
  have hs0 := hs.size
  clear hs HRB
  go_wp2_with fail
  refine (ES.out w2).mono ?_
  rintro e w3 ⟨vs, rfl, hRS⟩
  obtain ⟨a3, c3, rfl, hsl⟩ := hRS.slice
  rw [HL.out] at hsl ⊢
  have HS3 := Lib.hid (HS2.out.trans (since_mono hRS.since HS2.out.size))
  have HRB3 := Lib.hid (HRB2.out.later hRS.since)
  have HRS := Lib.hid hsl
  have HZ := Lib.hid (show w.heap.size < w2.heap.size from Nat.lt_of_lt_of_le (by simp) hs0)
  clear hRS hsl HRB2
  have hrb0 : RB w w3 (.slice (some ⟨w.heap.size, 0, none⟩) 0 0) (basesTo k M p 0) := by rw [HST.out]; exact HRB3.out
  have hap0 : 0 < m → ∃ G, a3 = some ⟨G, 0, none⟩ ∧ (Value.slice (some ⟨w.heap.size, 0, none⟩) 0 0).ownBlock ≠ some G ∧ RowB w3 G (setsI k M) := fun h => by
    obtain ⟨G, e, h2, h3⟩ := HRS.out h
    refine ⟨G, e, fun q => ?_, h3⟩
    have : w.heap.size = G := by simpa [Value.ownBlock] using q
    have := HZ.out
    omega
  have HRB4 := Lib.hid (And.intro hrb0 hap0)
  clear hrb0 hap0 HRB3 HRS
  go_wp2
  go_loopg [8, 10] m (fun g v i wr => ∃ i0 : Nat, i0 ≤ m ∧ g = m - i0 ∧ i = .int .i64 i0 ∧ RB w wr v (basesTo k M p i0) ∧ (0 < m → ∃ G, a3 = some ⟨G, 0, none⟩ ∧ v.ownBlock ≠ some G ∧ RowB wr G (setsI k M)))
  case atStart => exact ⟨0, Nat.zero_le _, rfl, rfl, HRB4.out.1, HRB4.out.2⟩
  case round =>
    obtain ⟨i0, hi0, rfl, rfl, hI, hA⟩ := hrel
    clear HRB4
    have hzi := hI.since.size
    have hle := HLE.out i0
    by_cases hlt : i0 < m
    · obtain ⟨G, rfl, hv, hrow⟩ := hA (by omega)
      obtain ⟨s, es, is, hsM, _⟩ := HG.out i0 hlt
      have cs0 := hrow.cell (i := i0) (by rw [HL.out]; exact hlt)
      rw [es] at cs0
      obtain ⟨b, o, rfl, hc⟩ := HR.out _ hI.since (by rw [HM.out]; omega)
      have cp0 := hc i0 (by rw [HM.out]; exact hlt)
      have hat := HAT.out i0 s is
      have HII := Lib.hid hI
      have HAP := Lib.hid (And.intro hv hrow)
      obtain ⟨y, hy⟩ : ∃ y, p.getD i0 0 = y := ⟨_, rfl⟩
      rw [hy] at cp0 hat
      clear hI hA hv hrow es hc hy
      by_cases h0 : y = 0
      · have HN2 := Lib.hid (HN.out i0 s is (by rw [← hat]; exact h0))
        have hz : (y != 0) = false := by simp [h0]
        clear h0 hat is
        go_wp2
        go_roundg (m - (i0 + 1))
        case measure => omega
        case rel => exact ⟨i0 + 1, by omega, rfl, by go_num, by rw [HN2.out]; exact HII.out, fun _ => ⟨G, rfl, HAP.out.1, HAP.out.2⟩⟩
      · have HY2 := Lib.hid (HY.out i0 s is (by rw [← hat]; exact h0))
        have hz : (y != 0) = true := by simp [h0]
        clear h0 hat is
        go_wp2_with (at_builtin; (refine wpList_append_own_at _ rfl _ _ 22 rfl w.heap.size 3 i3 (.int .i64 0) 1 8 Try.underlying22 HJ.out.1 HJ.out.2.1 HJ.out.2.2.1 HJ.out.2.2.2 rfl (by decide) _ _ _ rfl (HII.out.own.alloc _) ⟨wr.heap.size, 0, none⟩ 1 1 [.int .i64 (s : Nat)] rfl rfl (cell_one_at _ _ _ rfl) (fun x hx => by simp at hx; subst hx; rfl) (by unfold maxLen; omega) (by omega) (by simp; omega) ?_); intro v' w5 hown' hgrow _ hat')
        have hP := HII.out.push hown' hgrow
        have hQ := apart_push HAP.out.1 HAP.out.2 hgrow hat'
        rw [← HY2.out] at hP
        have HP := Lib.hid (And.intro hP hQ)
        clear hP hQ hown' hgrow hat'
        go_roundg (m - (i0 + 1))
        case measure => omega
        case rel => exact ⟨i0 + 1, by omega, rfl, by go_num, HP.out.1, fun _ => ⟨G, rfl, HP.out.2.1, HP.out.2.2⟩⟩
    · have him : i0 = m := by omega
      subst him
      have HII := Lib.hid hI
      clear hI hA
      go_wp2
      go_ret2
      exact pres_yes HII.out (World.Since.refl _ _) rfl

end Go.Proofs.Ytbedkjpbdkgjpaa
end

section
/- The contract of spec.PlaceOf. -/
namespace Go.Proofs.Ytbedkjpbdkgjpaa
open Go.RowKit Go.Deep

/-- The coordinates of a table. -/
def plP (l : List (List Int)) : List Int := (setsTo l.length (2 ^ (l.getD 0 []).length)).map (mnv l l.length (2 ^ l.length - 1))
/-- Has it some? -/
noncomputable def plOk (l : List (List Int)) : Bool := tabIn l && (decide (l.length < (l.getD 0 []).length) && placeB l.length (l.getD 0 []).length (plP l))
theorem setsTo_full : ∀ n : Fin 7, setsTo n.val (2 ^ n.val) = [2 ^ n.val - 1] := by decide +kernel
theorem mnA_full {l : List (List Int)} {n m : Nat} (h : n ≤ 6) : mnA l n n m = [(setsTo n (2 ^ m)).map (mnv l n (2 ^ n - 1))] := by
  unfold mnA
  rw [setsTo_full ⟨n, by omega⟩]
  rfl
/-- The first row of a table of one's own. -/
theorem OwnT.first {lo hi : Nat} {w : World} {a : Option Addr} {x : List Int} (h : OwnT lo hi w a [x]) :
    ∃ (b : Nat) (A : Option Addr) (C : Nat), a = some ⟨b, 0, none⟩ ∧ w.cell? ⟨b, 0, none⟩ = some (.slice A x.length C) ∧ OwnR lo hi w A x := by
  obtain ⟨b, A, G, C, e, hb, hr, _⟩ := h (by simp)
  obtain ⟨h1, h2⟩ := hr 0 (by simp)
  refine ⟨b, A 0, C 0, e, h1, fun h0 => ?_⟩
  obtain ⟨e2, h3, h4⟩ := h2 (by simpa using h0)
  exact ⟨G 0, e2, ⟨h3.1, h3.2.1⟩, fun i hi => h4 i (by simpa using hi)⟩

/-- A row of one's own and whether there is one. -/
def SOwn (w : World) (ok : Bool) (x : List Int) (e : Ending) (w' : World) : Prop :=
  ∃ a cap, e = .returned (.tuple #[.slice a (if ok = true then x else []).length cap, .bool ok]) ∧ w.Since w.heap.size w' ∧ OwnR w.heap.size w'.heap.size w' a (if ok = true then x else [])
theorem sown_no {w w' : World} {x : List Int} {a : Option Addr} {c : Nat} {e : Ending} (he : e = .returned (.tuple #[.slice a 0 c, .bool false])) (hs : w.Since w.heap.size w') : SOwn w false x e w' :=
  ⟨a, c, he, hs, OwnR.nil _ _ _ _⟩

set_option maxRecDepth 100000 in
set_option maxHeartbeats 2000000 in
theorem specPlaceOf_any (a : Option Addr) (cap n : Nat) (l : List (List Int)) (w : World) (hn : l.length = n) (hsz : szL l ≤ 1048576) (hm : MatR w a l) :
    Calls Try.prog 79 #[.slice a n cap] w (SOwn w (plOk l) (plP l)) := by
  have E := Lib.hid (specTableIn_any a cap n l w hn hsz hm)
  cases hT : tabIn l with
  | false =>
    have hok : plOk l = false := by unfold plOk; rw [hT]; rfl
    rw [hT] at E
    rw [hok]
    clear hT hsz hm hn hok
    go_enter Try.func79, Try.ntmps79
    go_wp2_with fail
    refine (E.out).mono ?_
    rintro e w1 ⟨rfl, hd⟩
    have HS := Lib.hid ((hd.since w.heap.size).alloc (hd.since w.heap.size).size (.cells #[] 3))
    clear hd
    go_wp2
    go_ret2
    exact sown_no rfl HS.out
  | true =>
  have hTT := tabIn_of hT
  have h6 := hTT.2.1
  have h1 := hTT.1
  have hw := hTT.width
  rw [hT] at E
  obtain ⟨m, hmm⟩ : ∃ m, (l.getD 0 []).length = m := ⟨_, rfl⟩
  have hpl : plP l = (setsTo n (2 ^ m)).map (mnv l n (2 ^ n - 1)) := by unfold plP; rw [hn, hmm]
  have hok0 : plOk l = (decide (n < m) && placeB n m (plP l)) := by unfold plOk; rw [hT, hn, hmm]; rfl
  rw [hn] at h1 h6
  rw [hmm] at hw
  have EL := fun (W : World) (hs : w.Since w.heap.size W) => l3Table_any a cap n m n l W hn hmm hTT h6 (hm.since hs)
  simp only [mnA_full h6, ← hpl] at EL
  have hlen : (plP l).length ≤ 64 := by
    rw [hpl, List.length_map]
    have := setsTo_len n (2 ^ m)
    have := Nat.pow_le_pow_right (n := 2) (by omega) hw.2
    omega
  obtain ⟨b1, o1, A1, C1, rfl, hc1⟩ := id hm (by omega)
  have c1 := (hc1 0 (by omega)).1
  rw [Nat.add_zero, hmm] at c1
  have hlt1 := World.block_lt_of_cell? _ _ c1
  obtain ⟨p, hp⟩ : ∃ p, plP l = p := ⟨_, rfl⟩
  rw [hp] at hok0 hlen ⊢
  simp only [hp] at EL
  replace EL := Lib.hid EL
  have HSP := Lib.hid (fun (a3 : Option Addr) (c3 : Nat) (W : World) (hr : RowR W a3 p) => specPlaceIn_any n m a3 c3 p.length p W rfl (by omega) hr)
  rw [hok0]
  clear hT hsz hm hn hmm hpl hok0 hTT hp hc1
  by_cases hnm : n < m
  · have hge : decide (m ≤ n) = false := by simp; omega
    have p0 : 0 < n := by omega
    rw [decide_eq_true hnm, Bool.true_and]
    obtain ⟨pk, hpb⟩ : ∃ pk, placeB n m p = pk := ⟨_, rfl⟩
    simp only [hpb] at HSP ⊢
    replace HSP := Lib.hid HSP.out
    clear hpb
    cases pk
    all_goals
      go_enter Try.func79, Try.ntmps79
      go_wp2_with fail
      refine (E.out).mono ?_
      rintro e w1 ⟨rfl, hd⟩
      have HS := Lib.hid (hd.since w.heap.size)
      have c11 := (HS.out.cell (a := ⟨b1, o1, none⟩) hlt1).trans c1
      clear hd
      go_wp2_with fail
      refine (EL.out _ HS.out).mono ?_
      rintro e w2 ⟨a2, q2, rfl, hs2, hown⟩
      obtain ⟨b, A, C, rfl, c2, hR⟩ := hown.first
      have HS2 := Lib.hid (HS.out.trans (since_mono hs2 HS.out.size))
      have c12 := (HS2.out.cell (a := ⟨b1, o1, none⟩) hlt1).trans c1
      have HR := Lib.hid (hR.mono HS.out.size (Nat.le_refl _))
      clear hown hs2 hR
      go_wp2_with fail
      refine (HSP.out A C w2 HR.out.rowR).mono ?_
      rintro e w3 ⟨rfl, hs3⟩
      have HS3 := Lib.hid (HS2.out.trans (since_mono hs3 HS2.out.size))
      have HR3 := Lib.hid ((HR.out.since hs3).mono (Nat.le_refl _) hs3.size)
      clear hs3
      go_wp2
    · have HS4 := Lib.hid (HS3.out.alloc HS3.out.size (.cells #[] 3))
      go_ret2
      exact sown_no rfl HS4.out
    · go_ret2
      exact ⟨_, _, rfl, HS3.out, HR3.out⟩
  · have hge : decide (m ≤ n) = true := by simp; omega
    rw [decide_eq_false hnm, Bool.false_and]
    have p0 : 0 < n := by omega
    go_enter Try.func79, Try.ntmps79
    go_wp2_with fail
    refine (E.out).mono ?_
    rintro e w1 ⟨rfl, hd⟩
    have HS := Lib.hid (hd.since w.heap.size)
    have HS4 := Lib.hid (HS.out.alloc HS.out.size (.cells #[] 3))
    have c11 := (HS.out.cell (a := ⟨b1, o1, none⟩) hlt1).trans c1
    clear hd
    go_wp2
    go_ret2
    exact sown_no rfl HS4.out

end Go.Proofs.Ytbedkjpbdkgjpaa
end

section
/- Words for drawing: the reader's block, bytes, tables that grow while the reader's block turns. -/
namespace Go.Proofs.Ytbedkjpbdkgjpaa
open Go.RowKit Go.Deep

theorem World.grownBy_refl (w : World) (row : Option Nat) : w.grownBy w row := ⟨rfl, rfl, rfl, Nat.le_refl _, fun _ _ _ => rfl⟩
theorem grown_trans {a b c : World} {row : Option Nat} (h : a.grownBy b row) (k : b.grownBy c row) : a.grownBy c row :=
  ⟨k.os.trans h.os, k.tape.trans h.tape, k.output.trans h.output, Nat.le_trans h.size k.size, fun i hi hn => (k.block i (Nat.lt_of_lt_of_le hi h.size) hn).trans (h.block i hi hn)⟩
theorem grown_since {a b : World} (row : Option Nat) (h : a.Since a.heap.size b) : a.grownBy b row := ⟨h.os, h.tape, h.output, h.size, fun i hi _ => h.block i hi⟩
/-- What is done to blocks from B on. -/
theorem grown_of {a b : World} {row row' : Option Nat} (h : a.grownBy b row) (hr : ∀ k, row = some k → a.heap.size ≤ k ∨ some k = row') : a.grownBy b row' :=
  ⟨h.os, h.tape, h.output, h.size, fun i hi hn => h.block i hi (fun e => by
    rcases hr i e.symm with h1 | h1
    · omega
    · exact hn h1)⟩
theorem since_grown {a b : World} {G B : Nat} (h : a.grownBy b (some G)) (hG : B ≤ G) (hB : B ≤ a.heap.size) : a.Since B b :=
  ⟨h.os, h.tape, h.output, h.size, fun i hi => h.block i (by omega) (fun e => by injection e with e; omega)⟩

/-- A slice of bytes. -/
def BytR (w : World) (a : Option Addr) (n : Nat) : Prop :=
  0 < n → ∃ b o, a = some ⟨b, o, none⟩ ∧ ∀ i, i < n → ∃ z : Nat, z ≤ 255 ∧ w.cell? ⟨b, o + i, none⟩ = some (.int .u8 z)
theorem BytR.since {w w' : World} {a : Option Addr} {n : Nat} (h : BytR w a n) (hs : w.Since w.heap.size w') : BytR w' a n := by
  intro h0
  obtain ⟨b, o, e, hc⟩ := h h0
  refine ⟨b, o, e, fun i hi => ?_⟩
  obtain ⟨z, h1, h2⟩ := hc i hi
  exact ⟨z, h1, (hs.cell (a := ⟨b, o + i, none⟩) (World.block_lt_of_cell? _ _ h2)).trans h2⟩

/-- The reader at G: its bytes and its place. -/
structure RD (w0 w : World) (G : Nat) (a : Option Addr) (n c : Nat) (tr : TypeId) (p : Nat) : Prop where
  blk : w.heap[G]? = some (.cells #[.slice a n c, .int .i64 p] tr (0, 0))
  base : w0.heap.size ≤ G
  since : w0.Since w0.heap.size w
  bytes : BytR w0 a n
  small : n ≤ 2000
theorem RD.lt {w0 w : World} {G : Nat} {a : Option Addr} {n c : Nat} {tr : TypeId} {p : Nat} (h : RD w0 w G a n c tr p) : G < w.heap.size := (Array.getElem?_eq_some_iff.1 h.blk).1
theorem RD.cell0 {w0 w : World} {G : Nat} {a : Option Addr} {n c : Nat} {tr : TypeId} {p : Nat} (h : RD w0 w G a n c tr p) : w.cell? ⟨G, 0, none⟩ = some (.slice a n c) := by simp [World.cell?, h.blk]
theorem RD.cell1 {w0 w : World} {G : Nat} {a : Option Addr} {n c : Nat} {tr : TypeId} {p : Nat} (h : RD w0 w G a n c tr p) : w.cell? ⟨G, 1, none⟩ = some (.int .i64 p) := by simp [World.cell?, h.blk]
theorem RD.free1 {w0 w : World} {G : Nat} {a : Option Addr} {n c : Nat} {tr : TypeId} {p : Nat} (h : RD w0 w G a n c tr p) : w.frozen? ⟨G, 1, none⟩ = false := by simp [World.frozen?, h.blk]
/-- The place goes on. -/
theorem RD.set {w0 w : World} {G : Nat} {a : Option Addr} {n c : Nat} {tr : TypeId} {p : Nat} (h : RD w0 w G a n c tr p) (q : Nat) : RD w0 (w.setCell ⟨G, 1, none⟩ (.int .i64 q)) G a n c tr q :=
  ⟨by simp [World.setCell, Array.getElem?_modify, h.blk], h.base, h.since.setCell h.base _, h.bytes, h.small⟩
theorem RD.later {w0 w w' : World} {G : Nat} {a : Option Addr} {n c : Nat} {tr : TypeId} {p : Nat} (h : RD w0 w G a n c tr p) (hs : w.Since w.heap.size w') : RD w0 w' G a n c tr p :=
  ⟨(hs.block G h.lt).trans h.blk, h.base, h.since.trans (since_mono hs h.since.size), h.bytes, h.small⟩
theorem RD.grown {w0 w w' : World} {G : Nat} {a : Option Addr} {n c : Nat} {tr : TypeId} {p : Nat} {row : Option Nat} (h : RD w0 w G a n c tr p) (hg : w.grownBy w' row) (hr : ∀ k, row = some k → G < k) : RD w0 w' G a n c tr p :=
  ⟨(hg.block G h.lt (fun e => by have := hr G e.symm; omega)).trans h.blk, h.base, h.since.grown hg h.since.size (fun k e => by have := hr k e; have := h.base; omega), h.bytes, h.small⟩

/-- A row of one's own, in a block from B on. -/
def RW (B : Nat) (w : World) (v : Value) (x : List Int) : Prop := w.ownsRow B 3 1 v x.length (x.map (Value.int .i64))
theorem RW.kept {B : Nat} {w w' : World} {v : Value} {x : List Int} {G : Nat} (h : RW B w v x) (hg : w.grownBy w' (some G)) (hG : G < B) : RW B w' v x :=
  World.ownsRow.kept h hg (by
    cases hv : v.ownBlock with
    | none => exact .inl rfl
    | some k => exact .inr (fun e => by injection e with e; have := (World.ownsRow.lt h k hv).1; omega))
theorem RW.base {B B' : Nat} {w : World} {v : Value} {x : List Int} (h : RW B w v x) (hB : B' ≤ B) : RW B' w v x := by
  refine ⟨h.1, ?_⟩
  rcases h.2 with h1 | ⟨g, cap, cur, e, hb, hr⟩
  · exact .inl h1
  · exact .inr ⟨g, cap, cur, e, by omega, hr⟩
theorem RW.form {B : Nat} {w : World} {v : Value} {x : List Int} (h : RW B w v x) (h0 : 0 < x.length) : ∃ g cap, v = .slice (some ⟨g, 0, none⟩) x.length cap ∧ B ≤ g ∧ RowB w g x := RowB.of_owns h h0
/-- A number of the row is written. -/
theorem RW.set {B : Nat} {w : World} {g cap k : Nat} {x : List Int} (h : RW B w (.slice (some ⟨g, 0, none⟩) x.length cap) x) (_hk : k < x.length) (y : Int) : RW B (w.setCell ⟨g, k, none⟩ (.int .i64 y)) (.slice (some ⟨g, 0, none⟩) x.length cap) (x.set k y) := by
  rcases h.2 with ⟨e, _⟩ | ⟨g', cap', cur, e, hb, hg, hn, hm, hs, ht⟩
  · cases e
  · injection e with e1 e2 e3
    injection e1 with e1
    injection e1 with e1
    subst e1; subst e3
    refine ⟨by simp, .inr ⟨g, cap, cur.setIfInBounds k (.int .i64 y), by rw [List.length_set], hb, ?_, by rw [List.length_set]; exact hn, hm, by simpa using hs, ?_⟩⟩
    · simp [World.setCell, Array.getElem?_modify, hg]
    · rw [List.length_set, Nat.mul_one]
      rw [Nat.mul_one] at ht
      rw [List.map_set, ← ht]
      simp [List.take_set]

/-- A table that is being built of rows of one's own, all in blocks from B on. -/
structure BD (B : Nat) (w : World) (v : Value) (l : List (List Int)) (A : Nat → Option Addr) (C : Nat → Nat) : Prop where
  own : w.ownsRow B 22 1 v l.length ((List.range l.length).map fun r => .slice (A r) (l.getD r []).length (C r))
  rows : ∀ r, r < l.length → 0 < (l.getD r []).length ∧ RW B w (.slice (A r) (l.getD r []).length (C r)) (l.getD r [])
  apart : ∀ r r', r < l.length → r' < l.length → A r = A r' → r = r'
theorem BD.start (w : World) (A : Nat → Option Addr) (C : Nat → Nat) {B : Nat} (hB : B ≤ w.heap.size) : BD B (w.alloc (.cells #[] 22)) (.slice (some ⟨w.heap.size, 0, none⟩) 0 0) [] A C :=
  ⟨World.ownsRow_made w #[] 0 hB (Nat.zero_le _) rfl, fun r hr => by simp at hr, fun r _ hr => by simp at hr⟩
theorem BD.kept {B : Nat} {w w' : World} {v : Value} {l : List (List Int)} {A : Nat → Option Addr} {C : Nat → Nat} {G : Nat} (h : BD B w v l A C) (hg : w.grownBy w' (some G)) (hG : G < B) : BD B w' v l A C :=
  ⟨World.ownsRow.kept h.own hg (by
      cases hv : v.ownBlock with
      | none => exact .inl rfl
      | some k => exact .inr (fun e => by injection e with e; have := (h.own.lt k hv).1; omega)),
    fun r hr => ⟨(h.rows r hr).1, (h.rows r hr).2.kept hg hG⟩, h.apart⟩
theorem BD.later {B : Nat} {w w' : World} {v : Value} {l : List (List Int)} {A : Nat → Option Addr} {C : Nat → Nat} (h : BD B w v l A C) (hs : w.Since w.heap.size w') : BD B w' v l A C := by
  have hg : w.grownBy w' none := grown_since none hs
  refine ⟨World.ownsRow.kept h.own hg ?_, fun r hr => ⟨(h.rows r hr).1, World.ownsRow.kept (h.rows r hr).2 hg ?_⟩, h.apart⟩
  · cases hv : v.ownBlock <;> simp
  · cases hv : (Value.slice (A r) (l.getD r []).length (C r)).ownBlock <;> simp
theorem BD.row {B : Nat} {w : World} {v : Value} {l : List (List Int)} {A : Nat → Option Addr} {C : Nat → Nat} (h : BD B w v l A C) {r : Nat} (hr : r < l.length) : ∃ g, A r = some ⟨g, 0, none⟩ ∧ B ≤ g ∧ RowB w g (l.getD r []) := by
  obtain ⟨g, cap, e, hb, hw⟩ := (h.rows r hr).2.form (h.rows r hr).1
  injection e with e _ _
  exact ⟨g, e, hb, hw⟩
theorem BD.top {B : Nat} {w : World} {v : Value} {l : List (List Int)} {A : Nat → Option Addr} {C : Nat → Nat} (h : BD B w v l A C) (h0 : 0 < l.length) : ∃ b cap cur, v = .slice (some ⟨b, 0, none⟩) l.length cap ∧ B ≤ b ∧ w.heap[b]? = some (.cells cur 22 (0, 0)) ∧ ∀ r, r < l.length → cur[r]? = some (.slice (A r) (l.getD r []).length (C r)) := by
  rcases h.own.2 with ⟨_, hn⟩ | ⟨g, cap, cur, e, hb, hg, hn, _, hs, ht⟩
  · omega
  · refine ⟨g, cap, cur, e, hb, hg, fun r hr => ?_⟩
    have h1 : (cur.toList.take (l.length * 1))[r]? = some (.slice (A r) (l.getD r []).length (C r)) := by rw [ht]; simp [hr]
    rw [List.getElem?_take] at h1
    have h2 : r < l.length ∧ cur[r]? = some (.slice (A r) (l.getD r []).length (C r)) := by simpa using h1
    exact h2.2
/-- One row more. -/
theorem BD.push {B : Nat} {w w1 : World} {v v' : Value} {l : List (List Int)} {A : Nat → Option Addr} {C : Nat → Nat} {x : List Int} {a : Option Addr} {cp : Nat} (h : BD B w v l A C) (h0 : 0 < x.length) (hx : RW B w (.slice a x.length cp) x)
    (hfresh : ∀ r, r < l.length → A r ≠ a)
    (hown : w1.ownsRow B 22 1 v' (l.length + 1) (((List.range l.length).map fun r => .slice (A r) (l.getD r []).length (C r)) ++ [.slice a x.length cp])) (hg : (w.alloc (.cells #[.slice a x.length cp] 22)).grownBy w1 v.ownBlock) :
    BD B w1 v' (l ++ [x]) (fun r => if r = l.length then a else A r) (fun r => if r = l.length then cp else C r) := by
  have hkeep : ∀ (u : Value) (y : List Int), 0 < y.length → RW B w u y → RW B w1 u y := by
    intro u y hy hu
    refine World.ownsRow.kept (World.ownsRow.alloc hu _) hg ?_
    obtain ⟨g, cap, e, _, cs, hc, _⟩ := hu.form hy
    subst e
    refine .inr fun e => ?_
    rcases h.own.2 with ⟨rfl, _⟩ | ⟨g', cap', cur, rfl, _, hgg, _⟩
    · cases e
    · injection e with e
      have e : g = g' := e
      rw [← e, hc] at hgg
      injection hgg with hgg
      injection hgg with _ e2 _
      exact absurd e2 (by decide)
  have e4 : ∀ q, q < l.length → (l ++ [x]).getD q [] = l.getD q [] := fun q hq => by simp [List.getD, List.getElem?_append_left hq]
  have e5 : (l ++ [x]).getD l.length [] = x := by simp [List.getD]
  have e6 : (l ++ [x]).length = l.length + 1 := by simp
  refine ⟨?_, fun r hr => ?_, fun r r' hr hr' e => ?_⟩
  · rw [e6, List.range_succ, List.map_append]
    have e2 : (List.range l.length).map (fun r => Value.slice (if r = l.length then a else A r) ((l ++ [x]).getD r []).length (if r = l.length then cp else C r)) = (List.range l.length).map fun r => .slice (A r) (l.getD r []).length (C r) := by
      refine List.map_congr_left fun r hr => ?_
      have hr' := List.mem_range.1 hr
      rw [if_neg (by omega), if_neg (by omega), e4 r hr']
    rw [e2]
    simpa [e5] using hown
  · by_cases e : r = l.length
    · subst e
      rw [e5, if_pos rfl, if_pos rfl]
      exact ⟨h0, hkeep _ _ h0 hx⟩
    · rw [e6] at hr
      rw [e4 r (by omega), if_neg e, if_neg e]
      exact ⟨(h.rows r (by omega)).1, hkeep _ _ (h.rows r (by omega)).1 (h.rows r (by omega)).2⟩
  · rw [e6] at hr hr'
    by_cases e1 : r = l.length <;> by_cases e2 : r' = l.length
    · omega
    · rw [if_pos e1, if_neg e2] at e
      exact absurd e.symm (hfresh r' (by omega))
    · rw [if_neg e1, if_pos e2] at e
      exact absurd e (hfresh r (by omega))
    · rw [if_neg e1, if_neg e2] at e
      exact h.apart r r' (by omega) (by omega) e
theorem BD.fresh {B : Nat} {w : World} {v : Value} {l : List (List Int)} {A : Nat → Option Addr} {C : Nat → Nat} (h : BD B w v l A C) {a : Option Addr} {g : Nat} (ha : a = some ⟨g, 0, none⟩) (hg : w.heap.size ≤ g) : ∀ r, r < l.length → A r ≠ a := by
  intro r hr e
  obtain ⟨g', e', _, hw⟩ := h.row hr
  have := hw.lt
  rw [e', ha] at e
  injection e with e; injection e with e
  omega
/-- A table that reads as a list of lists. -/
theorem BD.matR {B : Nat} {w : World} {v : Value} {l : List (List Int)} {A : Nat → Option Addr} {C : Nat → Nat} (h : BD B w v l A C) : ∃ a cap, v = .slice a l.length cap ∧ MatR w a l := by
  by_cases h0 : 0 < l.length
  · obtain ⟨b, cap, cur, e, _, hg, hc⟩ := h.top h0
    refine ⟨_, cap, e, fun _ => ⟨b, 0, A, C, rfl, fun r hr => ⟨?_, fun h1 => ?_⟩⟩⟩
    · rw [Nat.zero_add]; simp [World.cell?, hg, hc r hr]
    · obtain ⟨g, e, _, hw⟩ := h.row hr
      exact ⟨g, 0, e, fun i hi => by rw [Nat.zero_add]; exact hw.cell hi⟩
  · rcases h.own.2 with ⟨hv, hn⟩ | ⟨g, cap, cur, e, _⟩
    · exact ⟨none, 0, by rw [hv, hn], fun h => absurd h h0⟩
    · exact ⟨_, cap, e, fun h => absurd h h0⟩

end Go.Proofs.Ytbedkjpbdkgjpaa
end

section
/- The contract of the reader's pick. -/
namespace Go.Proofs.Ytbedkjpbdkgjpaa
open Go.RowKit Go.Deep

theorem grown_drewN {a b : World} {row : Option Nat} (h : a.grownBy b row) (q : Nat) : a.grownBy (b.drewN q) row := ⟨h.os, h.tape, h.output, h.size, h.block⟩
theorem xor_i64_nat (a b : Nat) (ha : a < 2 ^ 62) (hb : b < 2 ^ 62) : bits .xor .i64 (a : Int) (b : Int) = ((a ^^^ b : Nat) : Int) := by
  have hx : a ^^^ b < 2 ^ 62 := Nat.xor_lt_two_pow ha hb
  have h1 : (BitVec.ofInt 64 (a : Int)).toNat = a := by
    rw [BitVec.ofInt_natCast, BitVec.toNat_ofNat]; exact Nat.mod_eq_of_lt (by omega)
  have h2 : (BitVec.ofInt 64 (b : Int)).toNat = b := by
    rw [BitVec.ofInt_natCast, BitVec.toNat_ofNat]; exact Nat.mod_eq_of_lt (by omega)
  show IntKind.i64.wrap ((BitVec.ofInt 64 (a : Int) ^^^ BitVec.ofInt 64 (b : Int)).toNat : Int) = _
  rw [BitVec.toNat_xor, h1, h2]
  exact IntWalk.i64_in _ ⟨by omega, by omega⟩

set_option maxRecDepth 100000 in
set_option maxHeartbeats 2000000 in
theorem pick_any (w0 w : World) (G n c p : Nat) (a : Option Addr) (m : Int) (h : RD w0 w G a n c 62 p) (hp : p ≤ 100000) :
    Calls Try.prog 57 #[.pointer (some ⟨G, 0, none⟩), .int .i64 m] w fun e w' => ∃ x : Nat, e = .returned (.int .i64 x) ∧ ((x : Int) < m ∨ x = 0) ∧ w.grownBy w' (some G) ∧ RD w0 w' G a n c 62 (p + 1) := by
  have e0 := h.cell0
  have e1 := h.cell1
  have e2 := h.free1
  have hs := h.set (p + 1)
  have hwp : IntKind.i64.wrap ((p : Int) + 1) = (p : Int) + 1 := IntWalk.i64_in _ ⟨by omega, by omega⟩
  have hc : ((p + 1 : Nat) : Int) = (p : Int) + 1 := by omega
  have hgr : w.grownBy (w.setCell ⟨G, 1, none⟩ (.int .i64 (p + 1 : Nat))) (some G) := ⟨rfl, rfl, rfl, by simp, fun k _ hk => Below.heap_setCell _ _ _ _ (fun e => hk (by rw [e]))⟩
  rw [hc] at hs hgr
  have s0 := hs.cell0
  have s1 := hs.cell1
  rw [hc] at s1
  have hsm := hs.small
  have hbb := hs.bytes.since hs.since
  have HS := Lib.hid hs
  have HG := Lib.hid hgr
  have HB := Lib.hid hbb
  clear hs hgr h hbb hc
  by_cases hm : m < 1
  · go_enter Try.func57, Try.ntmps57
    go_wp2
    go_wp2
    go_ret
    exact ⟨0, rfl, .inr rfl, HG.out, HS.out⟩
  · obtain ⟨M, rfl⟩ := Int.eq_ofNat_of_zero_le (show 0 ≤ m by omega)
    have hM1 : 1 ≤ M := by omega
    have hd : decide ((M : Int) < 1) = false := by simp; omega
    by_cases hn : n = 0
    · subst hn
      go_enter Try.func57, Try.ntmps57
      go_wp2
      go_wp2
      go_ret
      exact ⟨0, rfl, .inr rfl, HG.out, HS.out⟩
    · have hn1 : 1 ≤ n := by omega
      have hnb : ((n : Int) == 0) = false := by simp; omega
      obtain ⟨b, o, rfl, hb⟩ := HB.out (by omega)
      have hwm : IntKind.i64.wrap ((p : Int) + 1 - 1) = (p : Int) := by rw [show (p : Int) + 1 - 1 = p by omega]; exact IntWalk.i64_in _ ⟨by omega, by omega⟩
      by_cases hlt : p < n
      · obtain ⟨z, hz, hzc⟩ := hb p hlt
        have hl : decide ((p : Int) < n) = true := by simp; omega
        clear hb
        go_enter Try.func57, Try.ntmps57
        go_wp2
        go_ret
        exact ⟨z % M, rfl, .inl (by have := Nat.mod_lt z hM1; omega), HG.out, HS.out⟩
      · have hl : decide ((p : Int) < n) = false := by simp; omega
        obtain ⟨q1, hq1, hql1⟩ : ∃ q : Nat, (p : Int) % (n : Int) = q ∧ q < n := ⟨p % n, (Int.natCast_emod p n).symm, Nat.mod_lt _ (by omega)⟩
        obtain ⟨q2, hq2, hql2⟩ : ∃ q : Nat, ((p : Int) * 7 + 3) % (n : Int) = q ∧ q < n := ⟨(p * 7 + 3) % n, by rw [Int.natCast_emod]; simp, Nat.mod_lt _ (by omega)⟩
        obtain ⟨dd, hdd, hdl⟩ : ∃ q : Nat, (p : Int) / (n : Int) = q ∧ q ≤ p := ⟨p / n, (Int.natCast_ediv p n).symm, Nat.div_le_self _ _⟩
        obtain ⟨z1, hz1, hzc1⟩ := hb q1 hql1
        obtain ⟨z2, hz2, hzc2⟩ := hb q2 hql2
        clear hb
        have w1 : IntKind.i64.wrap ((p : Int) * 7) = (p : Int) * 7 := IntWalk.i64_in _ ⟨by omega, by omega⟩
        have w2 : IntKind.i64.wrap ((p : Int) * 7 + 3) = (p : Int) * 7 + 3 := IntWalk.i64_in _ ⟨by omega, by omega⟩
        have w3 : IntKind.i64.wrap ((z1 : Int) * 131) = (z1 : Int) * 131 := IntWalk.i64_in _ ⟨by omega, by omega⟩
        have w4 : IntKind.i64.wrap ((z2 : Int) * 1117) = (z2 : Int) * 1117 := IntWalk.i64_in _ ⟨by omega, by omega⟩
        have w5 : IntKind.i64.wrap ((z1 : Int) * 131 + (z2 : Int) * 1117) = (z1 : Int) * 131 + (z2 : Int) * 1117 := IntWalk.i64_in _ ⟨by omega, by omega⟩
        have w6 : IntKind.i64.wrap ((p : Int) * 29) = (p : Int) * 29 := IntWalk.i64_in _ ⟨by omega, by omega⟩
        have w7 : IntKind.i64.wrap ((z1 : Int) * 131 + (z2 : Int) * 1117 + (p : Int) * 29) = (z1 : Int) * 131 + (z2 : Int) * 1117 + (p : Int) * 29 := IntWalk.i64_in _ ⟨by omega, by omega⟩
        have w8 : IntKind.i64.wrap ((dd : Int) * 53) = (dd : Int) * 53 := IntWalk.i64_in _ ⟨by omega, by omega⟩
        have w9 : IntKind.i64.wrap ((z1 : Int) * 131 + (z2 : Int) * 1117 + (p : Int) * 29 + (dd : Int) * 53) = (z1 : Int) * 131 + (z2 : Int) * 1117 + (p : Int) * 29 + (dd : Int) * 53 := IntWalk.i64_in _ ⟨by omega, by omega⟩
        go_enter Try.func57, Try.ntmps57
        go_wp2
        go_quiet (fail)
        obtain ⟨X, hX⟩ : ∃ X : Nat, (z1 : Int) * 131 + (z2 : Int) * 1117 + (p : Int) * 29 + (dd : Int) * 53 = X := ⟨z1 * 131 + z2 * 1117 + p * 29 + dd * 53, by omega⟩
        have hx : bits .xor .i64 (X : Int) ((X : Int) / 64) = ((X ^^^ X / 64 : Nat) : Int) := by
          rw [show ((X : Int) / 64) = ((X / 64 : Nat) : Int) by omega]
          exact xor_i64_nat _ _ (by omega) (by omega)
        obtain ⟨y, hy⟩ : ∃ y : Nat, bits .xor .i64 (X : Int) ((X : Int) / 64) = y := ⟨_, hx⟩
        clear hx
        go_wp2
        go_ret
        exact ⟨y % M, rfl, .inl (by have := Nat.mod_lt y hM1; omega), grown_drewN HG.out nq, HS.out.later (since_drewN (World.Since.refl _ _) nq)⟩

end Go.Proofs.Ytbedkjpbdkgjpaa
end

section
/- Steps of the walks through the drawing functions. -/
namespace Go.Proofs.Ytbedkjpbdkgjpaa
open Go.RowKit Go.Deep

theorem grown_new {a b c : World} {G : Nat} {row : Option Nat} (h : a.grownBy b (some G)) (k : b.grownBy c row) (hr : ∀ i, row = some i → a.heap.size ≤ i) : a.grownBy c (some G) :=
  ⟨k.os.trans h.os, k.tape.trans h.tape, k.output.trans h.output, Nat.le_trans h.size k.size, fun i hi hn => (k.block i (Nat.lt_of_lt_of_le hi h.size) (fun e => by have := hr i e.symm; omega)).trans (h.block i hi hn)⟩
theorem grown_alloc {a b : World} {G : Nat} (h : a.grownBy b (some G)) (o : Obj) : a.grownBy (b.alloc o) (some G) := grown_new h (World.grownBy_alloc b o none) (fun i e => by cases e)
theorem grown_set {a b : World} {G : Nat} (h : a.grownBy b (some G)) {g k : Nat} (hg : a.heap.size ≤ g) (v : Value) : a.grownBy (b.setCell ⟨g, k, none⟩ v) (some G) :=
  grown_new h (row := some g) ⟨rfl, rfl, rfl, by simp, fun i _ hi => Below.heap_setCell _ _ _ _ (fun e => hi (by rw [e]))⟩ (fun i e => by cases e; exact hg)
theorem cell_grown {a b : World} {G : Nat} {p : Addr} {v : Value} (h : a.cell? p = some v) (hg : a.grownBy b (some G)) (hp : p.block ≠ G) : b.cell? p = some v := hg.cell h (fun e => hp (by injection e))
theorem cell_set_far {w : World} {g j : Nat} {v : Value} {p : Addr} {u : Value} (h : w.cell? p = some u) (hne : p.block ≠ g) : (w.setCell ⟨g, j, none⟩ v).cell? p = some u := by
  rw [World.cell?_setCell_other _ _ _ _ (fun e => hne (by rw [← e]))]; exact h

/-- append(row, y). -/
theorem wpList_append_int {P : Program} (w : World) {ops : Array Oper} {rest : List Oper} {o : Oper} {a : Act} {Q : Exit → Act → World → Prop} (hgd : o.guard = none) (s x : Operand) (t : TypeId)
    (ho : o.op = .call { callee := .builtin .append, args := #[s, x], argTypes := #[t, t] }) (B : Nat) (i : TypeInfo) (ht : P.underlying t = some (.slice 3)) (hi : P.info? 3 = some i) (hz : i.zero = some (.int .i64 0)) (hsz : i.size = 1) (hby : i.bytes = 8)
    (v : Value) (xs : List Int) (hs : a.eval s = v) (h : RW B w v xs) (y : Int) (hx : a.eval x = .slice (some ⟨w.heap.size, 0, none⟩) 1 1) (hlen : xs.length ≤ 1000) (hB : B ≤ w.heap.size)
    (hK : ∀ v' w', RW B w' v' (xs ++ [y]) → w.grownBy w' v.ownBlock → wpList P ops Q rest (a.put o.dst v') w') : wpList P ops Q (o :: rest) a (w.alloc (.cells #[.int .i64 y] 3)) := by
  refine wpList_append_own _ hgd s x t ho B 3 i (.int .i64 0) 1 8 ht hi hz hsz hby rfl (by decide) v xs.length (xs.map (Value.int .i64)) hs (World.ownsRow.alloc h _) ⟨w.heap.size, 0, none⟩ 1 1 [.int .i64 y] hx rfl (cell_one_at _ _ _ rfl) (fun u hu => by simp at hu; subst hu; rfl) (by unfold maxLen; omega) (by omega) (by simp; omega) ?_
  intro v' w' hown hg _
  refine hK v' w' ?_ ⟨hg.os, hg.tape, hg.output, by have := hg.size; simp at this; omega, fun j hj hn => (hg.block j (by simp; omega) hn).trans (Below.heap_alloc _ _ _ hj)⟩
  unfold RW
  rw [List.length_append, List.map_append]
  exact hown

/-- append(out, row). -/
theorem wpList_append_row {P : Program} (w : World) {ops : Array Oper} {rest : List Oper} {o : Oper} {a : Act} {Q : Exit → Act → World → Prop} (hgd : o.guard = none) (s x : Operand) (t : TypeId)
    (ho : o.op = .call { callee := .builtin .append, args := #[s, x], argTypes := #[t, t] }) (B B' : Nat) (i : TypeInfo) (ht : P.underlying t = some (.slice 22)) (hi : P.info? 22 = some i) (hz : i.zero = some (.slice none 0 0)) (hsz : i.size = 1) (hby : i.bytes = 24)
    (v : Value) (l : List (List Int)) (A : Nat → Option Addr) (C : Nat → Nat) (hs : a.eval s = v) (h : BD B w v l A C) (g cp m : Nat) (y : List Int) (hy : y.length = m) (h0 : 0 < m) (hr : RW B' w (.slice (some ⟨g, 0, none⟩) m cp) y) (hfresh : ∀ r, r < l.length → A r ≠ some ⟨g, 0, none⟩)
    (hBB : B ≤ B') (hx : a.eval x = .slice (some ⟨w.heap.size, 0, none⟩) 1 1) (hlen : l.length ≤ 1000) (hB : B ≤ w.heap.size)
    (hK : ∀ v' w' A' C', BD B w' v' (l ++ [y]) A' C' → w.grownBy w' v.ownBlock → wpList P ops Q rest (a.put o.dst v') w') : wpList P ops Q (o :: rest) a (w.alloc (.cells #[.slice (some ⟨g, 0, none⟩) m cp] 22)) := by
  subst hy
  refine wpList_append_own _ hgd s x t ho B 22 i (.slice none 0 0) 1 24 ht hi hz hsz hby rfl (by decide) v l.length _ hs (h.own.alloc _) ⟨w.heap.size, 0, none⟩ 1 1 [.slice (some ⟨g, 0, none⟩) y.length cp] hx rfl (cell_one_at _ _ _ rfl) (fun u hu => by simp at hu; subst hu; rfl) (by unfold maxLen; omega) (by omega) (by simp; omega) ?_
  intro v' w' hown hg _
  refine hK v' w' _ _ (h.push h0 (hr.base hBB) hfresh hown hg) ⟨hg.os, hg.tape, hg.output, by have := hg.size; simp at this; omega, fun j hj hn => (hg.block j (by simp; omega) hn).trans (Below.heap_alloc _ _ _ hj)⟩

end Go.Proofs.Ytbedkjpbdkgjpaa
end

section
/- The contract of spec.l91Table. -/
namespace Go.Proofs.Ytbedkjpbdkgjpaa
open Go.RowKit Go.Deep

theorem RW.set' {B : Nat} {w : World} {g cap k m : Nat} {x : List Int} (hm : x.length = m) (h : RW B w (.slice (some ⟨g, 0, none⟩) m cap) x) (hk : k < m) (y : Int) : RW B (w.setCell ⟨g, k, none⟩ (.int .i64 y)) (.slice (some ⟨g, 0, none⟩) m cap) (x.set k y) := by
  subst hm; exact h.set hk y
theorem RW.rowB {B : Nat} {w : World} {g k cap : Nat} {x : List Int} (h : RW B w (.slice (some ⟨g, 0, none⟩) k cap) x) (h0 : 0 < x.length) : B ≤ g ∧ RowB w g x := by
  obtain ⟨g', cap', e, h1, h2⟩ := h.form h0
  injection e with e
  injection e with e
  injection e with e
  subst e
  exact ⟨h1, h2⟩
theorem grown_set_any (w : World) (g k : Nat) (v : Value) : w.grownBy (w.setCell ⟨g, k, none⟩ v) (some g) := ⟨rfl, rfl, rfl, by simp, fun i _ hi => Below.heap_setCell _ _ _ _ (fun e => hi (by rw [e]))⟩
theorem grown_undrew' {W w' : World} {row : Option Nat} (h : W.drew.grownBy w' row) : W.grownBy w' row := ⟨h.os, h.tape, h.output, h.size, h.block⟩
theorem lens_snoc {l : List (List Int)} {x : List Int} {r m : Nat} (hl : l.length = r) (h : ∀ j, j < r → (l.getD j []).length = m) (hx : x.length = m) : ∀ j, j < r + 1 → ((l ++ [x]).getD j []).length = m := by
  intro j hj
  by_cases e : j = r
  · subst e; subst hl; simpa [List.getD] using hx
  · rw [show (l ++ [x]).getD j [] = l.getD j [] by simp [List.getD, List.getElem?_append_left (show j < l.length by omega)]]
    exact h j (by omega)

set_option maxRecDepth 100000 in
set_option maxHeartbeats 8000000 in
theorem l91Table_any (w0 w : World) (G nb c p n m : Nat) (a : Option Addr) (h : RD w0 w G a nb c 62 p) (hn : n ≤ 10) (hm1 : 1 ≤ m) (hm : m ≤ 10) (hp : p ≤ 50000) :
    Calls Try.prog 80 #[.pointer (some ⟨G, 0, none⟩), .int .i64 n, .int .i64 m] w fun e w' => ∃ v l A C p', e = .returned v ∧ l.length = n ∧ (∀ j, j < n → (l.getD j []).length = m) ∧ w.grownBy w' (some G) ∧ RD w0 w' G a nb c 62 p' ∧ p' ≤ p + 500 ∧ BD w.heap.size w' v l A C := by
  obtain ⟨i42, hi42⟩ := info42_parts
  obtain ⟨i3, hi3⟩ := info3_parts
  have HI := Lib.hid hi42
  have HJ := Lib.hid hi3
  have hG := h.lt
  have HRD := Lib.hid h
  clear h hi42 hi3
  go_enter Try.func80, Try.ntmps80
  go_wp2_with fail
  refine (pick_any w0 _ G nb c _ a _ (HRD.out.grown (World.grownBy_alloc w _ none) (fun k e => by cases e)) (by omega)).mono ?_
  rintro e w1 ⟨κ, rfl, hκ, hg, hd⟩
  have hk : κ = 0 ∨ κ = 1 ∨ κ = 2 ∨ κ = 3 := by omega
  have HST := Lib.hid ((BD.start w (fun _ => none) (fun _ => 0) (Nat.le_refl _)).kept hg hG)
  have HG1 := Lib.hid (grown_trans (World.grownBy_alloc w _ _) hg)
  have HD1 := Lib.hid hd
  clear hg hd hκ HRD
  go_wp2
  go_loopg [7, 9, 10, 11, 12, 13] n (fun g v i _ _ _ _ wr => ∃ r A C p' l, r ≤ n ∧ g = n - r ∧ i = .int .i64 (r : Nat) ∧ List.length l = r ∧ (∀ j, j < r → (List.getD l j []).length = m) ∧ w.grownBy wr (some G) ∧ RD w0 wr G a nb c 62 p' ∧ p' ≤ p + 1 + 40 * r ∧ BD w.heap.size wr v l A C)
  case atStart => exact ⟨0, _, _, _, [], Nat.zero_le _, rfl, rfl, rfl, fun j hj => by omega, HG1.out, HD1.out, by omega, HST.out⟩
  case round =>
    obtain ⟨r, A, C, p', l, hr, rfl, rfl, hl, hlm, hgw, hd, hp', hB⟩ := hrel
    clear HST HG1 HD1
    by_cases hlt : r < n
    · have HB := Lib.hid hB
      have HGW := Lib.hid hgw
      have HD := Lib.hid hd
      have hzw := hgw.size
      obtain ⟨wo, hwo⟩ : ∃ wo : World, wo = wr := ⟨_, rfl⟩
      clear hB hgw hd
      go_wp2
      subst hwo
      go_loopg [10, 11, 12] m (fun g v k _ wi => ∃ q x p'', q ≤ m ∧ g = m - q ∧ k = .int .i64 (q : Nat) ∧ List.length x = q ∧ wo.grownBy wi (some G) ∧ RD w0 wi G a nb c 62 p'' ∧ p'' ≤ p' + 2 * q ∧ RW wo.heap.size wi v x)
      case atStart => exact ⟨0, [], p', Nat.zero_le _, rfl, rfl, rfl, World.grownBy_alloc _ _ _, HD.out.grown (World.grownBy_alloc _ _ none) (fun k e => by cases e), by omega, World.ownsRow_made wo #[] 0 (Nat.le_refl _) (Nat.zero_le _) rfl⟩
      case round =>
        obtain ⟨q, x, p'', hq, rfl, rfl, hxl, hgi, hdi, hp'', hW⟩ := hrel
        clear HD
        have HD := Lib.hid hdi
        have HG := Lib.hid hgi
        have HW := Lib.hid hW
        have hz1 := hgi.size
        clear hdi hgi hW
        by_cases hlq : q < m
        · rcases hk with rfl | rfl | rfl | rfl
          all_goals
            go_wp2_with (first
              | (go_at_call 57; refine (pick_any w0 _ G nb c _ a _ HD.out (by omega)).mono ?_; rintro e w2 ⟨y, rfl, _, hg, hd⟩; have HW := Lib.hid (HW.out.kept hg (by omega)); have HG := Lib.hid (grown_trans HG.out hg); have HD := Lib.hid hd; have hz2 := HG.out.size; clear hd hg)
              | (at_builtin; (refine wpList_append_int _ rfl (.tmp 42) (.tmp 44) 22 rfl wo.heap.size i3 Try.underlying22 HJ.out.1 HJ.out.2.1 HJ.out.2.2.1 HJ.out.2.2.2 _ x rfl HW.out _ rfl (by omega) (by omega) ?_); intro v' w3 hrw hgr; have hge := fun i e => (World.ownsRow.lt HW.out i e).1; have HD := Lib.hid (HD.out.grown hgr (fun i e => by have := hge i e; omega)); have HG := Lib.hid (grown_new HG.out hgr hge); have HW := Lib.hid hrw; clear hgr hrw hge))
            go_roundg (m - (q + 1))
            case measure => omega
            case rel => exact ⟨q + 1, x ++ [_], _, by omega, rfl, by go_num, by rw [List.length_append, hxl]; rfl, HG.out, HD.out, by omega, HW.out⟩
        · have hqm : m = q := by omega
          subst hqm
          obtain ⟨g1, cp1, hv, hge, hrb⟩ := HW.out.form (by omega)
          rw [hxl] at hv
          subst hv
          clear hrb
          rcases hk with rfl | rfl | rfl | rfl
          · go_wp2_with (first
              | (at_builtin; (refine wpList_append_row _ rfl (.tmp 77) (.tmp 79) 36 rfl w.heap.size wo.heap.size i42 Try.underlying36 HI.out.1 HI.out.2.1 HI.out.2.2.1 HI.out.2.2.2 _ l A C rfl (HB.out.kept HG.out hG) g1 cp1 m x hxl (by omega) HW.out (HB.out.fresh rfl hge) hzw rfl (by omega) (by omega) ?_); intro v' w3 A' C' hbd hgr; have hbge := fun i e => (World.ownsRow.lt (HB.out.kept HG.out hG).own i e).1; have HD := Lib.hid (HD.out.grown hgr (fun i e => by have := hbge i e; omega)); have HGG := Lib.hid (grown_new (grown_trans HGW.out HG.out) hgr hbge); have HBD := Lib.hid hbd; clear hgr hbd hbge))
            go_roundg (n - (r + 1))
            case measure => omega
            case rel => exact ⟨r + 1, A', C', _, l ++ [x], by omega, rfl, by go_num, by rw [List.length_append, hl]; rfl, lens_snoc hl hlm hxl, HGG.out, HD.out, by omega, HBD.out⟩
          · go_wp2_with (first
              | (at_builtin; (refine wpList_append_row _ rfl (.tmp 77) (.tmp 79) 36 rfl w.heap.size wo.heap.size i42 Try.underlying36 HI.out.1 HI.out.2.1 HI.out.2.2.1 HI.out.2.2.2 _ l A C rfl (HB.out.kept HG.out hG) g1 cp1 m x hxl (by omega) HW.out (HB.out.fresh rfl hge) hzw rfl (by omega) (by omega) ?_); intro v' w3 A' C' hbd hgr; have hbge := fun i e => (World.ownsRow.lt (HB.out.kept HG.out hG).own i e).1; have HD := Lib.hid (HD.out.grown hgr (fun i e => by have := hbge i e; omega)); have HGG := Lib.hid (grown_new (grown_trans HGW.out HG.out) hgr hbge); have HBD := Lib.hid hbd; clear hgr hbd hbge))
            go_roundg (n - (r + 1))
            case measure => omega
            case rel => exact ⟨r + 1, A', C', _, l ++ [x], by omega, rfl, by go_num, by rw [List.length_append, hl]; rfl, lens_snoc hl hlm hxl, HGG.out, HD.out, by omega, HBD.out⟩
          · go_wp2_with (first
              | (at_builtin; (refine wpList_append_row _ rfl (.tmp 77) (.tmp 79) 36 rfl w.heap.size wo.heap.size i42 Try.underlying36 HI.out.1 HI.out.2.1 HI.out.2.2.1 HI.out.2.2.2 _ l A C rfl (HB.out.kept HG.out hG) g1 cp1 m x hxl (by omega) HW.out (HB.out.fresh rfl hge) hzw rfl (by omega) (by omega) ?_); intro v' w3 A' C' hbd hgr; have hbge := fun i e => (World.ownsRow.lt (HB.out.kept HG.out hG).own i e).1; have HD := Lib.hid (HD.out.grown hgr (fun i e => by have := hbge i e; omega)); have HGG := Lib.hid (grown_new (grown_trans HGW.out HG.out) hgr hbge); have HBD := Lib.hid hbd; clear hgr hbd hbge))
            go_roundg (n - (r + 1))
            case measure => omega
            case rel => exact ⟨r + 1, A', C', _, l ++ [x], by omega, rfl, by go_num, by rw [List.length_append, hl]; rfl, lens_snoc hl hlm hxl, HGG.out, HD.out, by omega, HBD.out⟩
          · by_cases hr0 : r = 0
            · have hr0' : decide ((0 : Int) < (r : Int)) = false := by simp; omega
              go_wp2_with (first
                | (at_builtin; (refine wpList_append_row _ rfl (.tmp 77) (.tmp 79) 36 rfl w.heap.size wo.heap.size i42 Try.underlying36 HI.out.1 HI.out.2.1 HI.out.2.2.1 HI.out.2.2.2 _ l A C rfl (HB.out.kept HG.out hG) g1 cp1 m x hxl (by omega) HW.out (HB.out.fresh rfl hge) hzw rfl (by omega) (by omega) ?_); intro v' w3 A' C' hbd hgr; have hbge := fun i e => (World.ownsRow.lt (HB.out.kept HG.out hG).own i e).1; have HD := Lib.hid (HD.out.grown hgr (fun i e => by have := hbge i e; omega)); have HGG := Lib.hid (grown_new (grown_trans HGW.out HG.out) hgr hbge); have HBD := Lib.hid hbd; clear hgr hbd hbge))
              go_roundg (n - (r + 1))
              case measure => omega
              case rel => exact ⟨r + 1, A', C', _, l ++ [x], by omega, rfl, by go_num, by rw [List.length_append, hl]; rfl, lens_snoc hl hlm hxl, HGG.out, HD.out, by omega, HBD.out⟩
            · have hr0' : decide ((0 : Int) < (r : Int)) = true := by simp; omega
              go_wp2_with fail
              refine (pick_any w0 _ G nb c _ a _ HD.out (by omega)).mono ?_
              rintro e w2 ⟨y, rfl, hy3, hg, hd⟩
              have HW := Lib.hid (HW.out.kept hg (by omega))
              have HG := Lib.hid (grown_trans HG.out hg)
              have HD := Lib.hid hd
              have hz2 := HG.out.size
              clear hd hg
              by_cases hy0 : y = 0
              · subst hy0
                obtain ⟨s, hs⟩ : ∃ s, r = s + 1 := ⟨r - 1, by omega⟩
                have hr1 : IntKind.i64.wrap ((r : Int) - 1) = (s : Int) := by rw [show (r : Int) - 1 = s by omega]; exact IntWalk.i64_in _ ⟨by omega, by omega⟩
                have hsr : s < r := by omega
                have HSS := Lib.hid hs
                clear hs
                obtain ⟨bb, cpp, cur, hv, hbb, hcur, hc⟩ := HB.out.top (by omega)
                rw [hl] at hv
                subst hv
                have ct := hc s (by omega)
                obtain ⟨g2, hA, hg2, hrb⟩ := HB.out.row (r := s) (by omega)
                rw [hlm s hsr, hA] at ct
                have t1 : wo.cell? ⟨bb, s, none⟩ = some (.slice (some ⟨g2, 0, none⟩) m (C s)) := by simp [World.cell?, hcur, ct]
                have lb : bb < wo.heap.size := (Array.getElem?_eq_some_iff.1 hcur).1
                have lg : g2 < wo.heap.size := hrb.lt
                have HT1 := Lib.hid t1
                have HRB := Lib.hid hrb
                have HA := Lib.hid hA
                have hls := hlm s hsr
                clear t1 hcur hc ct hrb hA
                go_wp2
                go_loopg [13] m (fun g k wi => ∃ q x p'', q ≤ m ∧ g = m - q ∧ k = .int .i64 (q : Nat) ∧ List.length x = m ∧ wo.grownBy wi (some G) ∧ RD w0 wi G a nb c 62 p'' ∧ p'' ≤ p' + 2 * m + 1 + q ∧ RW wo.heap.size wi (.slice (some ⟨g1, 0, none⟩) m cp1) x)
                case atStart => exact ⟨0, x, _, Nat.zero_le _, rfl, rfl, hxl, HG.out, HD.out, by omega, HW.out⟩
                case round =>
                  obtain ⟨q, x, p'', hq, rfl, rfl, hxl, hgi, hdi, hp'', hW⟩ := hrel
                  clear HD HG HW
                  have HD := Lib.hid hdi
                  have HG := Lib.hid hgi
                  have HW := Lib.hid hW
                  have hz1 := hgi.size
                  clear hdi hgi hW
                  by_cases hlq : q < m
                  · obtain ⟨z, hz⟩ : ∃ z, z = (l.getD s []).getD q 0 := ⟨_, rfl⟩
                    have q2 := HRB.out.cell (i := q) (by rw [hls]; exact hlq)
                    rw [← hz] at q2
                    have d1 := cell_grown HT1.out HG.out (show bb ≠ G by omega)
                    have d0 := cell_grown q2 HG.out (show g2 ≠ G by omega)
                    obtain ⟨hge2, hrw⟩ := HW.out.rowB (by omega)
                    have s1 := hrw.cell (i := q) (by omega)
                    have s2 := hrw.frozen q
                    clear q2 hz hrw
                    go_wp2
                    go_region_held3 (fun w' => w'.cell? ⟨bb, s, none⟩ = some (.slice (some ⟨g2, 0, none⟩) m (C s)) ∧ w'.cell? ⟨g2, q, none⟩ = some (.int .i64 z))
                      (first | exact ⟨d1, d0⟩ | exact ⟨q1, q0⟩ | exact ⟨cell_set_far q1 (by show bb ≠ g1; omega), cell_set_far q0 (by show g2 ≠ g1; omega)⟩)
                      (first
                        | (go_at_call 57; refine (pick_any w0 _ G nb c _ a _ (HD.out.later (World.Since.refl _ _).drew) (by omega)).mono ?_; rintro e w3 ⟨y3, rfl, _, hg, hd⟩; have hg := grown_undrew' hg; have HW := Lib.hid (HW.out.kept hg (by omega)); have HG := Lib.hid (grown_trans HG.out hg); have HD := Lib.hid hd; have q1 := cell_grown d1 hg (show bb ≠ G by omega); have q0 := cell_grown d0 hg (show g2 ≠ G by omega); have k1 := cell_grown s1 hg (show g1 ≠ G by omega); have k2 : w3.frozen? ⟨g1, q, none⟩ = false := (World.frozen?_of_block (hg.block g1 (World.block_lt_of_cell? _ _ s1) (fun e => by injection e with e; omega))).trans s2; clear hg hd))
                    clear d1 d0 q1 q0 k1 k2 s1 s2
                    go_wp2
                    go_roundg (m - (q + 1))
                    case measure => omega
                    case rel => exact ⟨q + 1, x.set q _, _, by omega, rfl, by go_num, by rw [List.length_set]; exact hxl, grown_set HG.out hge2 _, HD.out.grown (row := some g1) (grown_set_any _ _ _ _) (fun i e => by cases e; omega), by omega, RW.set' hxl HW.out hlq _⟩
                  · have hqm : m = q := by omega
                    subst hqm
                    go_wp2_with (first
                      | (at_builtin; (refine wpList_append_row _ rfl (.tmp 77) (.tmp 79) 36 rfl w.heap.size wo.heap.size i42 Try.underlying36 HI.out.1 HI.out.2.1 HI.out.2.2.1 HI.out.2.2.2 _ l A C rfl (HB.out.kept HG.out hG) g1 cp1 m x hxl (by omega) HW.out (HB.out.fresh rfl hge) hzw rfl (by omega) (by omega) ?_); intro v' w3 A' C' hbd hgr; have hbge := fun i e => (World.ownsRow.lt (HB.out.kept HG.out hG).own i e).1; have HD := Lib.hid (HD.out.grown hgr (fun i e => by have := hbge i e; omega)); have HGG := Lib.hid (grown_new (grown_trans HGW.out HG.out) hgr hbge); have HBD := Lib.hid hbd; clear hgr hbd hbge))
                    go_roundg (n - (r + 1))
                    case measure => omega
                    case rel => exact ⟨r + 1, A', C', _, l ++ [x], by omega, rfl, by go_num, by rw [List.length_append, hl]; rfl, lens_snoc hl hlm hxl, HGG.out, HD.out, by omega, HBD.out⟩
              · have hy0' : ((y : Int) == 0) = false := by simp; omega
                go_wp2_with (first
                  | (at_builtin; (refine wpList_append_row _ rfl (.tmp 77) (.tmp 79) 36 rfl w.heap.size wo.heap.size i42 Try.underlying36 HI.out.1 HI.out.2.1 HI.out.2.2.1 HI.out.2.2.2 _ l A C rfl (HB.out.kept HG.out hG) g1 cp1 m x hxl (by omega) HW.out (HB.out.fresh rfl hge) hzw rfl (by omega) (by omega) ?_); intro v' w3 A' C' hbd hgr; have hbge := fun i e => (World.ownsRow.lt (HB.out.kept HG.out hG).own i e).1; have HD := Lib.hid (HD.out.grown hgr (fun i e => by have := hbge i e; omega)); have HGG := Lib.hid (grown_new (grown_trans HGW.out HG.out) hgr hbge); have HBD := Lib.hid hbd; clear hgr hbd hbge))
                go_roundg (n - (r + 1))
                case measure => omega
                case rel => exact ⟨r + 1, A', C', _, l ++ [x], by omega, rfl, by go_num, by rw [List.length_append, hl]; rfl, lens_snoc hl hlm hxl, HGG.out, HD.out, by omega, HBD.out⟩
    · have : r = n := by omega
      subst this
      go_wp2
      go_ret
      exact ⟨_, l, A, C, p', rfl, hl, hlm, hgw, hd, by omega, hB⟩

end Go.Proofs.Ytbedkjpbdkgjpaa
end

section
/- A drawn table: how it is read, and how one of its cells or rows is replaced. -/
namespace Go.Proofs.Ytbedkjpbdkgjpaa
open Go.RowKit Go.Deep

theorem BD.inT {B : Nat} {w : World} {v : Value} {l : List (List Int)} {A : Nat → Option Addr} {C : Nat → Nat} (h : BD B w v l A C) : ∃ a cap, v = .slice a l.length cap ∧ InT B w.heap.size w a l := by
  by_cases h0 : 0 < l.length
  · obtain ⟨b, cap, cur, e, hb, hg, hc⟩ := h.top h0
    refine ⟨_, cap, e, fun _ => ⟨b, 0, A, fun r => ((A r).getD default).block, fun _ => 0, C, rfl, ⟨hb, (Array.getElem?_eq_some_iff.1 hg).1⟩, fun r hr => ⟨?_, fun h1 => ?_⟩⟩⟩
    · rw [Nat.zero_add]; simp [World.cell?, hg, hc r hr]
    · obtain ⟨g, e, hB, hw⟩ := h.row hr
      have e' : ((A r).getD default).block = g := by rw [e]; rfl
      dsimp only
      rw [e']
      exact ⟨e, ⟨hB, hw.lt⟩, fun i hi => by rw [Nat.zero_add]; exact hw.cell hi⟩
  · rcases h.own.2 with ⟨hv, hn⟩ | ⟨g, cap, cur, e, _⟩
    · exact ⟨none, 0, by rw [hv, hn], fun h => absurd h h0⟩
    · exact ⟨_, cap, e, fun h => absurd h h0⟩

theorem BD.row_ne {B : Nat} {w : World} {l : List (List Int)} {A : Nat → Option Addr} {C : Nat → Nat} {b cap n : Nat} (h : BD B w (.slice (some ⟨b, 0, none⟩) n cap) l A C) {g : Nat} {x : List Int} (hw : RowB w g x) : g ≠ b := by
  rintro rfl
  obtain ⟨cs, hc, _⟩ := hw
  rcases h.own.2 with ⟨e, _⟩ | ⟨g', cap', cur, e, _, hgg, _⟩
  · cases e
  · injection e with e
    injection e with e
    injection e with e
    rw [← e, hc] at hgg
    injection hgg with hgg
    injection hgg with _ e2 _
    exact absurd e2 (by decide)

theorem BD.addr_ne {B : Nat} {w : World} {v : Value} {l : List (List Int)} {A : Nat → Option Addr} {C : Nat → Nat} (h : BD B w v l A C) {r j g g' : Nat} (hr : r < l.length) (hj : j < l.length) (hA : A r = some ⟨g, 0, none⟩) (hA' : A j = some ⟨g', 0, none⟩) (hne : j ≠ r) : g' ≠ g := by
  rintro rfl
  exact hne (h.apart j r hj hr (by rw [hA, hA']))

theorem BD.cellTop {B : Nat} {w : World} {l : List (List Int)} {A : Nat → Option Addr} {C : Nat → Nat} {b cap n : Nat} (h : BD B w (.slice (some ⟨b, 0, none⟩) n cap) l A C) {r : Nat} (hr : r < l.length) :
    w.cell? ⟨b, r, none⟩ = some (.slice (A r) (l.getD r []).length (C r)) ∧ w.frozen? ⟨b, r, none⟩ = false ∧ b < w.heap.size := by
  obtain ⟨b', cp', cur, hv, _, hcur, hc⟩ := h.top (by omega)
  injection hv with hv _ _
  injection hv with hv
  injection hv with hv
  subst hv
  exact ⟨by simp [World.cell?, hcur, hc r hr], by simp [World.frozen?, hcur], (Array.getElem?_eq_some_iff.1 hcur).1⟩

/-- A row is replaced. -/
theorem BD.setRow {B : Nat} {w w5 : World} {l : List (List Int)} {A : Nat → Option Addr} {C : Nat → Nat} {b cap n : Nat} (h : BD B w (.slice (some ⟨b, 0, none⟩) n cap) l A C) {r g : Nat} (hr : r < l.length) (hA : A r = some ⟨g, 0, none⟩) (hg : w.grownBy w5 (some g)) {g2 cp k : Nat} {y : List Int}
    (hy : RW B w5 (.slice (some ⟨g2, 0, none⟩) k cp) y) (hk : y.length = k) (h0 : 0 < k) : InT B w5.heap.size (w5.setCell ⟨b, r, none⟩ (.slice (some ⟨g2, 0, none⟩) k cp)) (some ⟨b, 0, none⟩) (l.set r y) := by
  subst hk
  obtain ⟨b', cap', cur, e, hb, hcur, hc⟩ := h.top (by omega)
  injection e with e en _
  injection e with e
  injection e with e
  subst e
  obtain ⟨g', hA', hBg, hrb⟩ := h.row hr
  rw [hA] at hA'
  injection hA' with hA'
  injection hA' with hA'
  subst hA'
  have hgb := h.row_ne hrb
  have hbl : b < w.heap.size := (Array.getElem?_eq_some_iff.1 hcur).1
  have hcur5 : w5.heap[b]? = some (.cells cur 22 (0, 0)) := (hg.block b hbl (fun e => by injection e with e; omega)).trans hcur
  obtain ⟨hB2, hrb2⟩ := hy.rowB h0
  have hg2b : g2 ≠ b := by
    rintro rfl
    obtain ⟨cs, h1, _⟩ := hrb2
    rw [h1] at hcur5
    injection hcur5 with h2
    injection h2 with _ h2 _
    exact absurd h2 (by decide)
  have hbl5 : b < w5.heap.size := (Array.getElem?_eq_some_iff.1 hcur5).1
  intro _
  refine ⟨b, 0, fun j => if j = r then some ⟨g2, 0, none⟩ else A j, fun j => if j = r then g2 else ((A j).getD default).block, fun _ => 0, fun j => if j = r then cp else C j, rfl, ⟨hb, hbl5⟩, fun j hj => ?_⟩
  rw [List.length_set] at hj
  show (w5.setCell ⟨b, r, none⟩ _).cell? ⟨b, 0 + j, none⟩ = _ ∧ _
  rw [Nat.zero_add]
  by_cases ej : j = r
  · subst ej
    have e1 : (l.set j y).getD j [] = y := by simp [List.getD, hj]
    rw [e1]
    simp only [↓reduceIte]
    refine ⟨World.cell?_setCell_same' _ _ _ (by simp [World.cell?, hcur5, hc j hj]), fun _ => ⟨trivial, ⟨hB2, hrb2.lt⟩, fun i hi => ?_⟩⟩
    rw [Nat.zero_add]
    exact cell_set_far (hrb2.cell hi) hg2b
  · have e1 : (l.set r y).getD j [] = l.getD j [] := by simp [List.getD, List.getElem?_set_ne (Ne.symm ej)]
    rw [e1]
    simp only [if_neg ej]
    obtain ⟨gj, hAj, hBj, hrbj⟩ := h.row hj
    have hgj := h.addr_ne hr hj hA hAj ej
    have hrb5 : RowB w5 gj (l.getD j []) := hrbj.of_block (hg.block gj hrbj.lt (fun e => by injection e with e; omega))
    have hgjb := h.row_ne hrbj
    refine ⟨?_, fun _ => ?_⟩
    · rw [World.cell?_setCell_other _ _ _ _ (fun e => ej (by injection e with _ e; exact e.symm))]
      simp [World.cell?, hcur5, hc j hj]
    · have e' : ((A j).getD default).block = gj := by rw [hAj]; rfl
      rw [e']
      exact ⟨hAj, ⟨hBj, hrb5.lt⟩, fun i hi => by rw [Nat.zero_add]; exact cell_set_far (hrb5.cell hi) hgjb⟩

/-- A number is replaced. -/
theorem BD.setNum {B : Nat} {w : World} {l : List (List Int)} {A : Nat → Option Addr} {C : Nat → Nat} {b cap n : Nat} (h : BD B w (.slice (some ⟨b, 0, none⟩) n cap) l A C) {r g k : Nat} (hr : r < l.length) (hA : A r = some ⟨g, 0, none⟩) (hk : k < (l.getD r []).length) (z : Int) :
    InT B w.heap.size (w.setCell ⟨g, k, none⟩ (.int .i64 z)) (some ⟨b, 0, none⟩) (l.set r ((l.getD r []).set k z)) := by
  obtain ⟨b', cap', cur, e, hb, hcur, hc⟩ := h.top (by omega)
  injection e with e en _
  injection e with e
  injection e with e
  subst e
  obtain ⟨g', hA', hBg, hrb⟩ := h.row hr
  rw [hA] at hA'
  injection hA' with hA'
  injection hA' with hA'
  subst hA'
  have hgb := h.row_ne hrb
  intro _
  refine ⟨b, 0, A, fun j => ((A j).getD default).block, fun _ => 0, C, rfl, ⟨hb, (Array.getElem?_eq_some_iff.1 hcur).1⟩, fun j hj => ?_⟩
  rw [List.length_set] at hj
  show (w.setCell ⟨g, k, none⟩ _).cell? ⟨b, 0 + j, none⟩ = _ ∧ _
  rw [Nat.zero_add]
  have hlen : ((l.set r ((l.getD r []).set k z)).getD j []).length = (l.getD j []).length := by
    by_cases ej : j = r
    · subst ej; simp [List.getD, hj]
    · simp [List.getD, List.getElem?_set_ne (Ne.symm ej)]
  rw [hlen]
  refine ⟨cell_set_far (by simp [World.cell?, hcur, hc j hj]) (Ne.symm hgb), fun _ => ?_⟩
  obtain ⟨gj, hAj, hBj, hrbj⟩ := h.row hj
  have e' : ((A j).getD default).block = gj := by rw [hAj]; rfl
  dsimp only
  rw [e']
  refine ⟨hAj, ⟨hBj, hrbj.lt⟩, fun i hi => ?_⟩
  rw [Nat.zero_add]
  by_cases ej : j = r
  · subst ej
    rw [hA] at hAj
    injection hAj with hAj
    injection hAj with hAj
    subst hAj
    have e1 : (l.set j ((l.getD j []).set k z)).getD j [] = (l.getD j []).set k z := by simp [List.getD, hj]
    rw [e1]
    by_cases ei : i = k
    · subst ei
      rw [World.cell?_setCell_same' _ _ _ (by rw [hrbj.cell hi]; rfl)]
      simp [List.getD] at hi ⊢
      simp [hi]
    · rw [World.cell?_setCell_other _ _ _ _ (fun e => ei (by injection e with _ e; exact e.symm)), hrbj.cell hi]
      simp [List.getD, List.getElem?_set_ne (Ne.symm ei)]
  · have hgj := h.addr_ne hr hj hA hAj ej
    have e1 : (l.set r ((l.getD r []).set k z)).getD j [] = l.getD j [] := by simp [List.getD, List.getElem?_set_ne (Ne.symm ej)]
    rw [e1]
    exact cell_set_far (hrbj.cell hi) hgj

/-- What the reader does leaves a drawn table. -/
theorem InT.kept {lo hi : Nat} {w w' : World} {a : Option Addr} {l : List (List Int)} {G : Nat} (h : InT lo hi w a l) (hg : w.grownBy w' (some G)) (hG : G < lo) : InT lo hi w' a l :=
  h.frame (lo' := G) (hi' := G + 1) ⟨hg.os, hg.tape, hg.output, hg.size, fun k hk ho => hg.block k hk (fun e => by injection e with e; omega)⟩ (.inr (by omega))

end Go.Proofs.Ytbedkjpbdkgjpaa
end

section
/- The contract of spec.l91Some. -/
namespace Go.Proofs.Ytbedkjpbdkgjpaa
open Go.RowKit Go.Deep

/-- A table that a call has drawn: at least one row, no row empty. -/
def Drawn0 (w w' : World) (R K : Nat) (a : Option Addr) (l : List (List Int)) : Prop :=
  1 ≤ l.length ∧ l.length ≤ R ∧ (∀ j, j < l.length → 1 ≤ (l.getD j []).length ∧ (l.getD j []).length ≤ K + 1) ∧ InT w.heap.size w'.heap.size w' a l

theorem lens_set {l : List (List Int)} {r : Nat} {y : List Int} {n m K : Nat} (hl : l.length = n) (h : ∀ j, j < n → (l.getD j []).length = m) (hm : 1 ≤ m ∧ m ≤ K) (hy : 1 ≤ y.length ∧ y.length ≤ K + 1) : ∀ j, j < (l.set r y).length → 1 ≤ ((l.set r y).getD j []).length ∧ ((l.set r y).getD j []).length ≤ K + 1 := by
  intro j hj
  rw [List.length_set] at hj
  by_cases e : j = r
  · subst e
    rw [show (l.set j y).getD j [] = y by simp [List.getD, hj]]
    exact hy
  · rw [show (l.set r y).getD j [] = l.getD j [] by simp [List.getD, List.getElem?_set_ne (Ne.symm e)], h j (by omega)]
    omega

end Go.Proofs.Ytbedkjpbdkgjpaa
end

section
/- The contract of spec.l6Open, and of what draws one table. -/
namespace Go.Proofs.Ytbedkjpbdkgjpaa
open Go.RowKit Go.Deep

set_option maxHeartbeats 1000000 in
theorem l6Open_any (a : Option Addr) (nb cb : Nat) (w : World) (hc : nb ≤ cb) (h63 : cb ≤ 9223372036854775807) (hb : BytR w a nb) :
    Calls Try.prog 56 #[.slice a nb cb] w fun e w' => ∃ n' c', e = .returned (.pointer (some ⟨w.heap.size, 0, none⟩)) ∧ w.Since w.heap.size w' ∧ w'.heap.size = w.heap.size + 1 ∧ RD w w' w.heap.size a n' c' 62 0 := by
  by_cases hl : 2000 < nb
  · have hl' : decide ((2000 : Int) < (nb : Int)) = true := by simp; omega
    have h2 : (2000 : Int) ≤ (cb : Int) := by omega
    obtain ⟨b, o, rfl, hcell⟩ := hb (by omega)
    go_enter Try.func56, Try.ntmps56
    go_wp2
    go_ret
    exact ⟨_, _, rfl, (World.Since.refl _ _).alloc (Nat.le_refl _) _, by simp, ⟨heap_alloc_new _ _, Nat.le_refl _, (World.Since.refl _ _).alloc (Nat.le_refl _) _, fun _ => ⟨b, o, rfl, fun i hi => hcell i (by omega)⟩, by omega⟩⟩
  · have hl' : decide ((2000 : Int) < (nb : Int)) = false := by simp; omega
    go_enter Try.func56, Try.ntmps56
    go_wp2
    go_ret
    exact ⟨_, _, rfl, (World.Since.refl _ _).alloc (Nat.le_refl _) _, by simp, ⟨heap_alloc_new _ _, Nat.le_refl _, (World.Since.refl _ _).alloc (Nat.le_refl _) _, hb, by omega⟩⟩

/-- A call has drawn a table. -/
def DrawnT (w w' : World) (R K : Nat) (a : Option Addr) (l : List (List Int)) : Prop :=
  1 ≤ l.length ∧ l.length ≤ R ∧ (∀ j, j < l.length → 1 ≤ (l.getD j []).length ∧ (l.getD j []).length ≤ K + 1) ∧ InT w.heap.size w'.heap.size w' a l

end Go.Proofs.Ytbedkjpbdkgjpaa
end

section
/- The contracts of the functions that draw a square. -/
namespace Go.Proofs.Ytbedkjpbdkgjpaa
open Go.RowKit Go.Deep






end Go.Proofs.Ytbedkjpbdkgjpaa
end

section
/- The contract of the function that draws for ValueSolve. -/
namespace Go.Proofs.Ytbedkjpbdkgjpaa
open Go.RowKit Go.Deep

theorem RW.rowR {B : Nat} {w : World} {v : Value} {x : List Int} {j : Nat} (h : RW B w v x) (hx : x.length = j) : ∃ ax cx, v = .slice ax j cx ∧ RowR w ax x := by
  by_cases h0 : 0 < x.length
  · obtain ⟨g, cp, e, hge, hrb⟩ := h.form h0
    rw [hx] at e
    exact ⟨_, cp, e, fun _ => ⟨g, 0, rfl, fun i hi => by rw [Nat.zero_add]; exact hrb.cell hi⟩⟩
  · rcases h.2 with ⟨e, _⟩ | ⟨g, cp, cur, e, _⟩
    · exact ⟨none, 0, by rw [e]; congr 1; omega, fun h => absurd h h0⟩
    · rw [hx] at e
      exact ⟨_, cp, e, fun h => absurd h h0⟩

end Go.Proofs.Ytbedkjpbdkgjpaa
end

section
/- The contracts of laws.sameInts and laws.sameRows. -/
namespace Go.Proofs.Ytbedkjpbdkgjpaa
open Go.RowKit Go.Deep

set_option maxHeartbeats 1000000 in
/-- Two slices that read as one list are equal. -/
theorem sameInts_same (a b : Option Addr) (ca cb n : Nat) (l : List Int) (w : World) (hn : l.length = n) (h63 : n ≤ 9223372036854775807) (ha : RowR w a l) (hb : RowR w b l) :
    Calls Try.prog 32 #[.slice a n ca, .slice b n cb] w fun e w' => e = .returned (.bool true) ∧ Drawn w w' := by
  have H := Lib.hid hn; clear hn
  go_enter Try.func32, Try.ntmps32
  go_wp2
  go_loopg [5] n (fun g i wr => ∃ k : Nat, k ≤ n ∧ g = n - k ∧ i = .int .i64 k ∧ Drawn w wr)
  case atStart => exact ⟨0, Nat.zero_le _, rfl, rfl, Drawn.refl w⟩
  case round =>
    obtain ⟨k, hk, rfl, rfl, hD⟩ := hrel
    by_cases hlt : k < n
    · obtain ⟨b1, o1, rfl, hc1⟩ := ha (by rw [H.out]; omega)
      obtain ⟨b2, o2, rfl, hc2⟩ := hb (by rw [H.out]; omega)
      have c1 := hc1 k (by rw [H.out]; exact hlt)
      have c2 := hc2 k (by rw [H.out]; exact hlt)
      obtain ⟨x, hx⟩ : ∃ x, x = l.getD k 0 := ⟨_, rfl⟩
      rw [← hx] at c1 c2
      rw [← hD.cell] at c1 c2
      clear hx hc1 hc2 ha hb
      go_wp2
      go_quiet (fail)
      go_wp2
      go_roundg (n - (k + 1))
      case measure => omega
      case rel => exact ⟨k + 1, by omega, rfl, by go_num, hD.trans (Drawn.mk _ _)⟩
    · go_wp2
      go_ret
      exact ⟨rfl, hD⟩

end Go.Proofs.Ytbedkjpbdkgjpaa
end

section
/- The walk of laws.FnTurn. -/
namespace Go.Proofs.Ytbedkjpbdkgjpaa
open Go.RowKit Go.Deep

theorem szL_of {l : List (List Int)} {n k : Nat} (h1 : l.length ≤ n) (h2 : ∀ j, j < l.length → (l.getD j []).length ≤ k) (hnk : n * k + n ≤ 1048576) : szL l ≤ 1048576 := by
  have h3 := sumTo_le_mul l k h2 l.length (Nat.le_refl _)
  have h4 : l.length * k ≤ n * k := Nat.mul_le_mul_right _ h1
  have h5 : k * l.length = l.length * k := Nat.mul_comm _ _
  unfold szL
  omega
theorem rows_le {l : List (List Int)} (h : szL l ≤ 1048576) : ∀ r, r < l.length → (l.getD r []).length ≤ 9223372036854775807 := fun r hr => by
  have := row_le l hr
  unfold szL at h
  omega

theorem tab_self {l : List (List Int)} {n m : Nat} (hn : l.length = n) (hm : ∀ r, r < n → (l.getD r []).length = m) : tabF n m (at2 l) = l := by
  refine List.ext_getElem (by rw [tabF_length, hn]) fun r h1 h2 => ?_
  have hr : r < n := by rw [tabF_length] at h1; exact h1
  have e1 : (tabF n m (at2 l))[r] = (tabF n m (at2 l)).getD r [] := by simp [List.getD, h1]
  have e2 : l[r] = l.getD r [] := by simp [List.getD, h2]
  rw [e1, e2, tabF_get _ _ _ _ hr]
  refine List.ext_getElem (by rw [List.length_map, List.length_range, hm r hr]) fun k h3 h4 => ?_
  rw [List.getElem_map, List.getElem_range]
  unfold at2
  obtain ⟨x, hx⟩ : ∃ x, x = l.getD r [] := ⟨_, rfl⟩
  subst hx
  generalize l.getD r [] = x at *
  simp [List.getD, h4]

theorem turnL_turnL {l : List (List Int)} (hT : TabIn l) : turnL (turnL l) = l := by
  have h1 := hT.1
  have hw := hT.width
  have e0 : ((turnL l).getD 0 []).length = l.length := tabF_len _ _ _ _ hw.1
  have e1 : turnL (turnL l) = tabF l.length (l.getD 0 []).length fun k i => at2 (turnL l) i k := by
    show tabF ((turnL l).getD 0 []).length (turnL l).length _ = _
    rw [e0, turnL_length]
  rw [e1]
  have e2 : tabF l.length (l.getD 0 []).length (fun k i => at2 (turnL l) i k) = tabF l.length (l.getD 0 []).length (at2 l) := by
    unfold tabF
    refine List.map_congr_left fun r hr => List.map_congr_left fun k hk => ?_
    exact tabF_at _ _ _ _ _ (List.mem_range.1 hk) (List.mem_range.1 hr)
  rw [e2]
  exact tab_self rfl (fun r hr => hT.row hr)

end Go.Proofs.Ytbedkjpbdkgjpaa
end

section
/- The contract of spec.l91Places: it draws numbers that may be coordinates. -/
namespace Go.Proofs.Ytbedkjpbdkgjpaa
open Go.RowKit Go.Deep

theorem sets_some : ∀ n : Fin 6, ∀ k : Fin 6, k.val ≤ n.val → 1 ≤ (setsTo k.val (2 ^ n.val)).length := by decide +kernel
theorem plOk_some {l : List (List Int)} (h : plOk l = true) : 1 ≤ (plP l).length ∧ (plP l).length ≤ 32 := by
  unfold plOk at h
  simp only [Bool.and_eq_true] at h
  obtain ⟨k, n, _, _, h1, h2, h5, hl, _⟩ := placeB_of h.2.2
  have e1 := sets_some ⟨n, by omega⟩ ⟨k, by omega⟩ (by show k ≤ n; omega)
  simp only at e1
  have e2 := setsTo_len k (2 ^ n)
  have := pow_le5 h5
  omega
theorem OwnR.set {lo hi g : Nat} {w : World} {x : List Int} {c : Addr} (h : OwnR lo hi w (some ⟨g, 0, none⟩) x) {i : Nat} (hi' : i < x.length) (hc : c = ⟨g, i, none⟩) (y : Int) : OwnR lo hi (w.setCell c (.int .i64 y)) (some ⟨g, 0, none⟩) (x.set i y) := fun h0 => by
  subst hc
  obtain ⟨g', e, hg, hx⟩ := h (by omega)
  cases e
  refine ⟨g, rfl, hg, fun j hj => ?_⟩
  rw [List.length_set] at hj
  refine ⟨?_, (World.frozen?_setCell _ _ _ _).trans (hx j hj).2⟩
  by_cases e : i = j
  · subst e
    rw [World.cell?_setCell_same' _ _ _ (by rw [(hx i hj).1]; rfl)]
    simp [List.getD_eq_getElem?_getD, hj]
  · rw [World.cell?_setCell_other _ _ _ _ (by intro q; injection q with _ q; first | exact e q | exact e q.symm), (hx j hj).1]
    simp [List.getD_eq_getElem?_getD, e]
theorem OwnR.kept {lo hi lo' : Nat} {w w' : World} {a : Option Addr} {x : List Int} {G : Nat} (h : OwnR lo hi w a x) (hg : w.grownBy w' (some G)) (hG : G < lo) (h1 : lo' ≤ lo) (h2 : hi ≤ w.heap.size) : OwnR lo' w'.heap.size w' a x := fun h0 => by
  obtain ⟨g, e, hgl, hx⟩ := h h0
  have hb : w'.heap[g]? = w.heap[g]? := hg.block g (by omega) (fun e => by injection e; omega)
  refine ⟨g, e, ⟨by omega, by have := hg.size; omega⟩, fun j hj => ⟨(World.cell?_of_block (a := ⟨g, j, none⟩) hb).trans (hx j hj).1, (World.frozen?_of_block (a := ⟨g, j, none⟩) hb).trans (hx j hj).2⟩⟩

/-- What the draws of coordinates hand back. -/
def PlD (w : World) (e : Ending) (w' : World) : Prop :=
  ∃ (k n : Nat) (p : List Int) (a : Option Addr) (cap : Nat), e = .returned (.tuple #[.int .i64 k, .int .i64 n, .slice a p.length cap]) ∧ w.Since w.heap.size w' ∧ k ≤ 5 ∧ n ≤ 7 ∧ p.length ≤ 32 ∧ RowR w' a p

set_option maxRecDepth 100000 in
set_option maxHeartbeats 2000000 in
theorem l91Places_any (a : Option Addr) (nb cb : Nat) (w : World) (hc : nb ≤ cb) (h63 : cb ≤ 9223372036854775807) (hb : BytR w a nb) :
    Calls Try.prog 55 #[.slice a nb cb] w (PlD w) := by
  have E := Lib.hid (l6Open_any a nb cb w hc h63 hb)
  clear hb
  go_enter Try.func55, Try.ntmps55
  go_wp2_with fail
  refine (E.out).mono ?_
  rintro e w1 ⟨n', c', rfl, hs, hz, hd⟩
  have HD1 := Lib.hid hd
  have HS1 := Lib.hid hs
  clear hd hs
  go_wp2_with fail
  refine (pick_any w _ w.heap.size n' c' _ a _ HD1.out (by omega)).mono ?_
  rintro e w2 ⟨y2, rfl, hy2, hg2, hd2⟩
  have HD2 := Lib.hid hd2
  have HG2 := Lib.hid hg2
  have hz2 := hg2.size
  obtain ⟨n, hn⟩ : ∃ n, 2 + y2 = n := ⟨_, rfl⟩
  have hn5 : 2 ≤ n ∧ n ≤ 5 := by omega
  have hwn : IntKind.i64.wrap (2 + (y2 : Int)) = (n : Int) := (IntWalk.i64_in _ ⟨by omega, by omega⟩).trans (by omega)
  have hwn1 : IntKind.i64.wrap ((n : Int) - 1) = (n : Int) - 1 := IntWalk.i64_in _ ⟨by omega, by omega⟩
  clear hd2 hg2 HD1 hn hy2
  go_wp2_with fail
  refine (pick_any w _ w.heap.size n' c' _ a _ HD2.out (by omega)).mono ?_
  rintro e w3 ⟨y3, rfl, hy3, hg3, hd3⟩
  have HD3 := Lib.hid hd3
  have HG3 := Lib.hid (grown_trans HG2.out hg3)
  have hz3 := hg3.size
  obtain ⟨k, hk⟩ : ∃ k, 1 + y3 = k := ⟨_, rfl⟩
  have hkn : 1 ≤ k ∧ k ≤ 4 := by omega
  have hwk : IntKind.i64.wrap (1 + (y3 : Int)) = (k : Int) := (IntWalk.i64_in _ ⟨by omega, by omega⟩).trans (by omega)
  clear hd3 hg3 HD2 hk hy3 HG2
  go_wp2_with fail
  refine (l91Table_any w _ w.heap.size n' c' _ k n a HD3.out (by omega) (by omega) (by omega) (by omega)).mono ?_
  rintro e w4 ⟨v, l, A, C, p4, rfl, hl, hlm, hg4, hd4, hp4, hB⟩
  obtain ⟨ta, tc, hv, hmt⟩ := hB.matR
  rw [hl] at hv
  subst hv
  have hsz : szL l ≤ 1048576 := szL_of (n := 4) (k := 5) (by omega) (fun j hj => by rw [hlm j (by omega)]; omega) (by decide)
  have EO := Lib.hid (specPlaceOf_any ta tc k l w4 hl hsz hmt)
  have hps := @plOk_some l
  have HD4 := Lib.hid hd4
  have HG4 := Lib.hid (grown_trans HG3.out hg4)
  have hz4 := hg4.size
  clear hd4 hg4 HD3 HG3 hB hmt hl hlm hsz
  obtain ⟨ok, hok⟩ : ∃ ok, plOk l = ok := ⟨_, rfl⟩
  obtain ⟨p, hp⟩ : ∃ p, plP l = p := ⟨_, rfl⟩
  unfold SOwn at EO
  rw [hok, hp] at EO
  rw [hok, hp] at hps
  have HPS := Lib.hid hps
  clear hok hp hps
  go_wp2_with fail
  refine (EO.out).mono ?_
  rintro e w5 ⟨pa, pc, rfl, hs5, hown⟩
  have HS4 := Lib.hid (HS1.out.trans (since_grown HG4.out (Nat.le_refl _) HS1.out.size))
  have HS5 := Lib.hid (HS4.out.trans (since_mono hs5 HS4.out.size))
  have HD5 := Lib.hid (HD4.out.later hs5)
  have hz5 := hs5.size
  cases ok with
  | false =>
    have HS6 := Lib.hid (HS5.out.alloc HS5.out.size (.cells #[] 3))
    clear hs5 hown EO HPS
    go_wp2
    refine bodyPost_ret (results_tmp3 rfl _ _ _) rfl ?_
    exact ⟨k, n, [], _, _, rfl, HS6.out, by omega, by omega, by simp, fun h => by simp at h⟩
  | true =>
    obtain ⟨hL1, hL2⟩ := HPS.out rfl
    simp only [if_true] at hown ⊢
    obtain ⟨g0, rfl, hgl, hgx⟩ := id hown (by omega)
    obtain ⟨L, hL⟩ : ∃ L, p.length = L := ⟨_, rfl⟩
    rw [hL] at hL1 hL2 hgx ⊢
    have HL := Lib.hid hL
    have HO := Lib.hid hown
    have HGX := Lib.hid hgx
    clear hs5 hown EO HPS hL hgx
    go_wp2_with fail
    refine (pick_any w _ w.heap.size n' c' _ a _ HD5.out (by omega)).mono ?_
    rintro e w6 ⟨y6, rfl, hy6, hg6, hd6⟩
    have HD6 := Lib.hid hd6
    have HS6 := Lib.hid (HS5.out.trans (since_grown hg6 (Nat.le_refl _) HS5.out.size))
    have HO6 := Lib.hid (HO.out.kept hg6 (by omega) (Nat.le_refl _) (Nat.le_refl _))
    have hz6 := hg6.size
    clear hd6 hg6 HD5 HO
    by_cases h0 : y6 = 0
    · subst h0
      go_wp2_with fail
      refine (pick_any w _ w.heap.size n' c' _ a _ HD6.out (by omega)).mono ?_
      rintro e w7 ⟨y7, rfl, hy7, hg7, hd7⟩
      have hyL : y7 < L := by omega
      have HD7 := Lib.hid hd7
      have HS7 := Lib.hid (HS6.out.trans (since_grown hg7 (Nat.le_refl _) HS6.out.size))
      have HO7 := Lib.hid (HO6.out.kept hg7 (by omega) (Nat.le_refl _) (Nat.le_refl _))
      have hz7 := hg7.size
      obtain ⟨g', eg, hgl7, hgx7⟩ := HO7.out (by rw [HL.out]; omega)
      cases eg
      obtain ⟨cy, fy⟩ := hgx7 y7 (by rw [HL.out]; exact hyL)
      obtain ⟨z, hz⟩ : ∃ z, p.getD y7 0 = z := ⟨_, rfl⟩
      rw [hz] at cy
      obtain ⟨z', hz'⟩ : ∃ z', IntKind.i64.wrap (z + 1) = z' := ⟨_, rfl⟩
      have hyL' : ((y7 : Nat) : Int) < (L : Int) := by omega
      have HD8 := Lib.hid (HD7.out.grown (row := some g0) (grown_set_any w7 g0 y7 (.int .i64 z')) (fun i e => by cases e; omega))
      have HS8 := Lib.hid (HS7.out.setCell (a := ⟨g0, y7, none⟩) (by show w.heap.size ≤ g0; omega) (.int .i64 z'))
      have HO8 := Lib.hid (HO7.out.set (c := ⟨g0, y7, none⟩) (by rw [HL.out]; exact hyL) rfl z')
      have hz8 : w7.heap.size ≤ (w7.setCell ⟨g0, y7, none⟩ (.int .i64 z')).heap.size := by simp [World.setCell]
      clear hd7 hg7 hgx7 HD6 HS6 HO6 hz
      go_wp2_with fail
      refine (pick_any w _ w.heap.size n' c' _ a _ HD8.out (by omega)).mono ?_
      rintro e w9 ⟨y9, rfl, hy9, hg9, hd9⟩
      have HS9 := Lib.hid ((HS8.out).trans (since_grown hg9 (Nat.le_refl _) (HS8.out).size))
      have HO9 := Lib.hid ((HO8.out).kept hg9 (by omega) (Nat.le_refl _) hz8)
      have hlx := Lib.hid (show (p.set y7 z').length = L by rw [List.length_set]; exact HL.out)
      clear hd9 hg9
      have hwe : IntKind.i64.wrap ((n : Int) + (y9 : Int) / 39) = ((n + y9 / 39 : Nat) : Int) := (IntWalk.i64_in _ ⟨by omega, by omega⟩).trans (by omega)
      go_wp2
      refine bodyPost_ret (results_tmp3 rfl _ _ _) rfl ?_
      exact ⟨k, n + y9 / 39, p.set y7 z', _, pc, by rw [hlx.out]; first | rfl | simp, HS9.out, by omega, by omega, by rw [hlx.out]; omega, HO9.out.rowR⟩
    · by_cases h1 : y6 = 1
      · subst h1
        have HST := Lib.hid (And.intro HO6.out HL.out)
        go_wp2
        go_loopg [11] L (fun g i wr => ∃ j p' x, j ≤ L ∧ g = L - j ∧ i = .int .i64 (j : Nat) ∧ List.length x = L ∧ w.Since w.heap.size wr ∧ RD w wr w.heap.size a n' c' 62 p' ∧ p' ≤ 1300 + 2 * j ∧ w5.heap.size ≤ wr.heap.size ∧ OwnR w4.heap.size wr.heap.size wr (some ⟨g0, 0, none⟩) x)
        case atStart => exact ⟨0, _, p, Nat.zero_le _, rfl, rfl, HST.out.2, HS6.out, HD6.out, by omega, hz6, HST.out.1⟩
        case round =>
          obtain ⟨j, p', x, hj, rfl, rfl, hxl, hS, hD, hp', hzr, hO⟩ := hrel
          clear HST
          have HXL := Lib.hid hxl
          have HD7 := Lib.hid hD
          have HS7 := Lib.hid hS
          have HO7 := Lib.hid hO
          clear hxl hS hD hO HD6 HS6 HO6
          by_cases hjL : j < L
          · go_wp2_with fail
            refine (pick_any w _ w.heap.size n' c' _ a _ HD7.out (by omega)).mono ?_
            rintro e w8 ⟨y8, rfl, hy8, hg8, hd8⟩
            have HD8 := Lib.hid hd8
            have HS8 := Lib.hid (HS7.out.trans (since_grown hg8 (Nat.le_refl _) HS7.out.size))
            have HO8 := Lib.hid (HO7.out.kept hg8 (by omega) (Nat.le_refl _) (Nat.le_refl _))
            have hz8 := hg8.size
            obtain ⟨g', eg, hgl8, hgx8⟩ := HO8.out (by rw [HXL.out]; omega)
            cases eg
            obtain ⟨cy, fy⟩ := hgx8 j (by rw [HXL.out]; exact hjL)
            obtain ⟨z', hz'⟩ : ∃ z', IntKind.i64.wrap ((y8 : Int) - 1) = z' := ⟨_, rfl⟩
            have hjL' : ((j : Nat) : Int) < (L : Int) := by omega
            have HD9 := Lib.hid (HD8.out.grown (row := some g0) (grown_set_any w8 g0 j (.int .i64 z')) (fun i e => by cases e; omega))
            have HS9 := Lib.hid (HS8.out.setCell (a := ⟨g0, j, none⟩) (by show w.heap.size ≤ g0; omega) (.int .i64 z'))
            have HO9 := Lib.hid (HO8.out.set (c := ⟨g0, j, none⟩) (by rw [HXL.out]; exact hjL) rfl z')
            have hz9 : (w8.setCell ⟨g0, j, none⟩ (.int .i64 z')).heap.size = w8.heap.size := by simp [World.setCell]
            clear hd8 hg8 hgx8
            go_wp2
            go_roundg (L - (j + 1))
            case measure => omega
            case rel => exact ⟨j + 1, _, x.set j z', by omega, rfl, by go_num, by rw [List.length_set]; exact HXL.out, HS9.out, HD9.out, by omega, by omega, by rw [hz9]; exact HO9.out⟩
          · have hjj : j = L := by omega
            subst hjj
            clear hjL
            go_wp2_with fail
            refine (pick_any w _ w.heap.size n' c' _ a _ HD7.out (by omega)).mono ?_
            rintro e w9 ⟨y9, rfl, hy9, hg9, hd9⟩
            have HS9 := Lib.hid ((HS7.out).trans (since_grown hg9 (Nat.le_refl _) (HS7.out).size))
            have HO9 := Lib.hid ((HO7.out).kept hg9 (by omega) (Nat.le_refl _) (Nat.le_refl _))
            have hlx := Lib.hid (HXL.out)
            clear hd9 hg9
            have hwe : IntKind.i64.wrap ((n : Int) + (y9 : Int) / 39) = ((n + y9 / 39 : Nat) : Int) := (IntWalk.i64_in _ ⟨by omega, by omega⟩).trans (by omega)
            go_wp2
            refine bodyPost_ret (results_tmp3 rfl _ _ _) rfl ?_
            exact ⟨k, n + y9 / 39, x, _, pc, by rw [hlx.out]; first | rfl | simp, HS9.out, by omega, by omega, by rw [hlx.out]; omega, HO9.out.rowR⟩
      · have e0 : ((y6 : Int) == 0) = false := by simp; omega
        have e1 : ((y6 : Int) == 1) = false := by simp; omega
        go_wp2_with fail
        refine (pick_any w _ w.heap.size n' c' _ a _ HD6.out (by omega)).mono ?_
        rintro e w9 ⟨y9, rfl, hy9, hg9, hd9⟩
        have HS9 := Lib.hid ((HS6.out).trans (since_grown hg9 (Nat.le_refl _) (HS6.out).size))
        have HO9 := Lib.hid ((HO6.out).kept hg9 (by omega) (Nat.le_refl _) (Nat.le_refl _))
        have hlx := Lib.hid (HL.out)
        clear hd9 hg9
        have hwe : IntKind.i64.wrap ((n : Int) + (y9 : Int) / 39) = ((n + y9 / 39 : Nat) : Int) := (IntWalk.i64_in _ ⟨by omega, by omega⟩).trans (by omega)
        go_wp2
        refine bodyPost_ret (results_tmp3 rfl _ _ _) rfl ?_
        exact ⟨k, n + y9 / 39, p, _, pc, by rw [hlx.out]; first | rfl | simp, HS9.out, by omega, by omega, by rw [hlx.out]; omega, HO9.out.rowR⟩

set_option maxRecDepth 100000 in
set_option maxHeartbeats 1000000 in
theorem drawPlaceIn_any (a : Option Addr) (nb cb : Nat) (w : World) (hc : nb ≤ cb) (h63 : cb ≤ 9223372036854775807) (hb : BytR w a nb) :
    Calls Try.prog 29 #[.slice a nb cb] w (PlD w) := by
  have E := Lib.hid (l91Places_any a nb cb w hc h63 hb)
  clear hb
  go_enter Try.func29, Try.ntmps29
  go_wp2_with fail
  refine (E.out).mono ?_
  rintro e w1 ⟨k, n, p, pa, pc, rfl, h⟩
  have H := Lib.hid h
  clear h
  go_wp2
  refine bodyPost_ret (results_tmp3 rfl _ _ _) rfl ?_
  exact ⟨k, n, p, pa, pc, rfl, H.out⟩

set_option maxRecDepth 100000 in
set_option maxHeartbeats 1000000 in
theorem drawPlaceRelated_any (a : Option Addr) (nb cb : Nat) (w : World) (hc : nb ≤ cb) (h63 : cb ≤ 9223372036854775807) (hb : BytR w a nb) :
    Calls Try.prog 30 #[.slice a nb cb] w (PlD w) := by
  have E := Lib.hid (l91Places_any a nb cb w hc h63 hb)
  clear hb
  go_enter Try.func30, Try.ntmps30
  go_wp2_with fail
  refine (E.out).mono ?_
  rintro e w1 ⟨k, n, p, pa, pc, rfl, h⟩
  have H := Lib.hid h
  clear h
  go_wp2
  refine bodyPost_ret (results_tmp3 rfl _ _ _) rfl ?_
  exact ⟨k, n, p, pa, pc, rfl, H.out⟩

set_option maxRecDepth 100000 in
set_option maxHeartbeats 1000000 in
theorem drawPlaceOther_any (a : Option Addr) (nb cb : Nat) (w : World) (hc : nb ≤ cb) (h63 : cb ≤ 9223372036854775807) (hb : BytR w a nb) :
    Calls Try.prog 31 #[.slice a nb cb] w (PlD w) := by
  have E := Lib.hid (l91Places_any a nb cb w hc h63 hb)
  clear hb
  go_enter Try.func31, Try.ntmps31
  go_wp2_with fail
  refine (E.out).mono ?_
  rintro e w1 ⟨k, n, p, pa, pc, rfl, h⟩
  have H := Lib.hid h
  clear h
  go_wp2
  refine bodyPost_ret (results_tmp3 rfl _ _ _) rfl ?_
  exact ⟨k, n, p, pa, pc, rfl, H.out⟩

set_option maxRecDepth 100000 in
set_option maxHeartbeats 1000000 in
theorem drawPlaceBases_any (a : Option Addr) (nb cb : Nat) (w : World) (hc : nb ≤ cb) (h63 : cb ≤ 9223372036854775807) (hb : BytR w a nb) :
    Calls Try.prog 34 #[.slice a nb cb] w (PlD w) := by
  have E := Lib.hid (l91Places_any a nb cb w hc h63 hb)
  clear hb
  go_enter Try.func34, Try.ntmps34
  go_wp2_with fail
  refine (E.out).mono ?_
  rintro e w1 ⟨k, n, p, pa, pc, rfl, h⟩
  have H := Lib.hid h
  clear h
  go_wp2
  refine bodyPost_ret (results_tmp3 rfl _ _ _) rfl ?_
  exact ⟨k, n, p, pa, pc, rfl, H.out⟩

end Go.Proofs.Ytbedkjpbdkgjpaa
end

section
/- The contracts of the functions that draw one table and numbers, and two tables. -/
namespace Go.Proofs.Ytbedkjpbdkgjpaa
open Go.RowKit Go.Deep

theorem results_four {fn : Func} {a b c d : Tmp} (h : fn.results = #[.tmp a, .tmp b, .tmp c, .tmp d]) (tmps : Array Value) (P : Program) (w : World) :
    (results fn tmps).run P w = .ok (.tuple #[tmps.getD a undef, tmps.getD b undef, tmps.getD c undef, tmps.getD d undef]) w := by
  simp [results, h]

end Go.Proofs.Ytbedkjpbdkgjpaa
end

section
/- The contract of spec.DrawPlaceSame. -/
namespace Go.Proofs.Ytbedkjpbdkgjpaa
open Go.RowKit Go.Deep

set_option maxRecDepth 100000 in
set_option maxHeartbeats 2000000 in
theorem drawPlaceSame_any (a : Option Addr) (nb cb : Nat) (w : World) (hc : nb ≤ cb) (h63 : cb ≤ 9223372036854775807) (hb : BytR w a nb) :
    Calls Try.prog 33 #[.slice a nb cb] w fun e w' => ∃ (k n : Nat) (p : List Int) (pa : Option Addr) (pc : Nat) (q : List Int) (qa : Option Addr) (qc : Nat),
      e = .returned (.tuple #[.int .i64 k, .int .i64 n, .slice pa p.length pc, .slice qa p.length qc]) ∧ w.Since w.heap.size w' ∧ k ≤ 5 ∧ n ≤ 7 ∧ p.length ≤ 32 ∧ q.length = p.length ∧ RowR w' pa p ∧ RowR w' qa q := by
  obtain ⟨i3, hi3⟩ := info3_parts
  have HJ := Lib.hid hi3
  have E := Lib.hid (l91Places_any a nb cb w hc h63 hb)
  have HBY := Lib.hid (fun (W : World) (h : w.Since w.heap.size W) => l6Open_any a nb cb W hc h63 (hb.since h))
  clear hb hi3
  go_enter Try.func33, Try.ntmps33
  go_wp2_with fail
  refine (E.out).mono ?_
  rintro e w1 ⟨k, n, p, pa, pc, rfl, hs1, hk5, hn7, hp32, hrp⟩
  have HS1 := Lib.hid hs1
  obtain ⟨L, hL⟩ : ∃ L, p.length = L := ⟨_, rfl⟩
  rw [hL] at hp32 ⊢
  have HLL := Lib.hid hL
  have HP1 := Lib.hid (fun (W : World) (h : w1.Since w1.heap.size W) => hrp.since h)
  have hz0 := hs1.size
  clear hs1 hrp hL
  go_wp2_with fail
  refine (HBY.out _ HS1.out).mono ?_
  rintro e w2 ⟨n', c', rfl, hs2, hz2, hd2⟩
  have HS2 := Lib.hid hs2
  have HD2 := Lib.hid (hd2.set 71)
  have cq : w2.cell? ⟨w1.heap.size, 1, none⟩ = some (.int .i64 0) := hd2.cell1
  have fq := hd2.free1
  have hgs : w2.grownBy (w2.setCell ⟨w1.heap.size, 1, none⟩ (.int .i64 71)) (some w1.heap.size) := grown_set_any _ _ _ _
  obtain ⟨w3, hw3⟩ : ∃ w3, w2.setCell ⟨w1.heap.size, 1, none⟩ (.int .i64 71) = w3 := ⟨_, rfl⟩
  have HS3 := Lib.hid (show w1.Since w1.heap.size w3 by rw [← hw3]; exact hs2.setCell (Nat.le_refl _) _)
  have HD3 := Lib.hid (show RD w1 w3 w1.heap.size a n' c' 62 71 by rw [← hw3]; exact HD2.out)
  have hz3 : w3.heap.size = w1.heap.size + 1 := by rw [← hw3]; simp [World.setCell, hz2]
  have HW3 := Lib.hid (show (w2.setCell ⟨w1.heap.size, 1, none⟩ (.int .i64 ((71 : Nat) : Int))) = w3 from hw3)
  clear hs2 hd2 HD2 hgs
  have HD4 := Lib.hid (HD3.out.grown (World.grownBy_alloc w3 (.cells #[] 3) none) (fun k e => by cases e))
  go_wp2_with fail
  refine (pick_any w1 _ w1.heap.size n' c' _ a _ HD4.out (by omega)).mono ?_
  rintro e w5 ⟨y5, rfl, hy5, hg5, hd5⟩
  have HD5 := Lib.hid hd5
  have HG5 := Lib.hid (show w3.grownBy w5 (some w1.heap.size) from grown_trans (grown_alloc (World.grownBy_refl w3 (some w1.heap.size)) (.cells #[] 3)) hg5)
  have hw5 : RW w3.heap.size w5 (.slice (some ⟨w3.heap.size, 0, none⟩) 0 0) [] := RW.kept (World.ownsRow_made w3 #[] 0 (Nat.le_refl _) (Nat.zero_le _) rfl) hg5 (by omega)
  have HW5 := Lib.hid hw5
  clear hg5 hd5 hw5 HD4 HD3
  go_wp2_with fail
  refine (pick_any w1 _ w1.heap.size n' c' _ a _ HD5.out (by omega)).mono ?_
  rintro e w6 ⟨y6, rfl, hy6, hg6, hd6⟩
  have HD6 := Lib.hid hd6
  have HG6 := Lib.hid (grown_trans HG5.out hg6)
  have HW6 := Lib.hid (show RW w3.heap.size w6 (.slice (some ⟨w1.heap.size + 1, 0, none⟩) 0 0) [] by rw [← hz3]; exact HW5.out.kept hg6 (by omega))
  clear hg6 hd6 HW5 HD5 HG5
  obtain ⟨x, hx⟩ : ∃ x, IntKind.i64.wrap (IntKind.i64.wrap ((y5 : Int) - 2) + IntKind.i64.wrap ((y6 : Int) * 3)) = x := ⟨_, rfl⟩
  have hv1 : IntKind.i64.wrap ((y5 : Int) - 2) = (y5 : Int) - 2 := IntWalk.i64_in _ ⟨by omega, by omega⟩
  have hv2 : IntKind.i64.wrap ((y6 : Int) * 3) = (y6 : Int) * 3 := IntWalk.i64_in _ ⟨by omega, by omega⟩
  have hv3 : IntKind.i64.wrap ((y5 : Int) - 2 + (y6 : Int) * 3) = x := by rw [← hx, hv1, hv2]
  clear hx
  go_wp2
  clear hv1 hv2 hv3
  go_loopg [10, 12] L (fun g v i wr => ∃ j q', j ≤ L ∧ g = L - j ∧ i = .int .i64 (j : Nat) ∧ List.length q' = j ∧ w3.grownBy wr (some w1.heap.size) ∧ RD w1 wr w1.heap.size a n' c' 62 73 ∧ RW w3.heap.size wr v q')
  case atStart => exact ⟨0, [], Nat.zero_le _, rfl, rfl, rfl, HG6.out, HD6.out, HW6.out⟩
  case round =>
    obtain ⟨j, q', hj, rfl, rfl, hql, hgi, hdi, hW⟩ := hrel
    clear HD6 HG6 HW6
    have HQL := Lib.hid hql
    have HD := Lib.hid hdi
    have HG := Lib.hid hgi
    have HW := Lib.hid hW
    have hz4 := hgi.size
    have HSW := Lib.hid (HS3.out.trans (since_grown hgi (by omega) HS3.out.size))
    clear hdi hgi hW hql
    by_cases hjL : j < L
    · obtain ⟨pb, po, rfl, hcp⟩ := HP1.out wr HSW.out (by rw [HLL.out]; omega)
      have cj := hcp j (by rw [HLL.out]; exact hjL)
      obtain ⟨y, hy⟩ : ∃ y, p.getD j 0 = y := ⟨_, rfl⟩
      rw [hy] at cj
      obtain ⟨u, hu⟩ : ∃ u, IntKind.i64.wrap (y * x) = u := ⟨_, rfl⟩
      have hlq : q'.length ≤ 32 := by rw [HQL.out]; omega
      clear hy hcp
      go_wp2_with (at_builtin; (refine wpList_append_own _ rfl _ _ 22 rfl w3.heap.size 3 i3 (.int .i64 0) 1 8 Try.underlying22 HJ.out.1 HJ.out.2.1 HJ.out.2.2.1 HJ.out.2.2.2 rfl (by decide) _ _ (q'.map (Value.int .i64)) rfl (World.ownsRow.alloc HW.out _) ⟨wr.heap.size, 0, none⟩ 1 1 [.int .i64 u] rfl rfl (cell_one_at _ _ _ rfl) (fun x hx => by simp at hx; subst hx; rfl) (by unfold maxLen; omega) (by omega) (by simp; omega) ?_); intro v' w7 hown' hgrow _)
      have HW7 := Lib.hid (show RW w3.heap.size w7 v' (q' ++ [u]) by
        have := hown'
        unfold RW
        rw [List.length_append, List.map_append]
        exact this)
      have hge := fun i e => (World.ownsRow.lt HW.out i e).1
      have HD7 := Lib.hid ((HD.out.grown (World.grownBy_alloc wr (.cells #[.int .i64 u] 3) none) (fun k e => by cases e)).grown hgrow (fun i e => by have := hge i e; omega))
      have HG7 := Lib.hid (grown_new (grown_alloc HG.out _) hgrow hge)
      clear hown' hgrow hge
      go_roundg (L - (j + 1))
      case measure => omega
      case rel => exact ⟨j + 1, q' ++ [u], by omega, rfl, by go_num, by rw [List.length_append, HQL.out]; rfl, HG7.out, HD7.out, HW7.out⟩
    · have hjj : j = L := by omega
      subst hjj
      clear hjL
      obtain ⟨qa, qc, hv, _⟩ := HW.out.rowR HQL.out
      subst hv
      have hz9 : w1.heap.size < w3.heap.size := by omega
      go_wp2_with fail
      refine (pick_any w1 _ w1.heap.size n' c' _ a _ HD.out (by omega)).mono ?_
      rintro e w8 ⟨y8, rfl, hy8, hg8, hd8⟩
      have HD8 := Lib.hid hd8
      have HW8 := Lib.hid (HW.out.kept hg8 hz9)
      have HG8 := Lib.hid (grown_trans HG.out hg8)
      have HS8 := Lib.hid (HS3.out.trans (since_grown HG8.out (by omega) HS3.out.size))
      clear hg8 hd8
      by_cases h8 : y8 = 0
      · subst h8
        by_cases hj0 : 0 < j
        · have hd0 : decide ((0 : Int) < (j : Int)) = true := by simp; omega
          go_wp2_with fail
          refine (pick_any w1 _ w1.heap.size n' c' _ a _ HD8.out (by omega)).mono ?_
          rintro e w9 ⟨y9, rfl, hy9, hg9, hd9⟩
          have hyj : y9 < j := by omega
          have hyj' : ((y9 : Nat) : Int) < (j : Int) := by omega
          have hW9 := HW8.out.kept hg9 hz9
          have HG9 := Lib.hid (grown_trans HG8.out hg9)
          obtain ⟨g, cp, e9, hge, hrb⟩ := hW9.form (by rw [HQL.out]; omega)
          injection e9 with e9 e11 e10
          subst e9
          clear e11 e10
          have cg := hrb.cell (i := y9) (by rw [HQL.out]; exact hyj)
          have fg := hrb.frozen y9
          have hW10 := RW.set' HQL.out hW9 hyj 1
          have hgt : w9.grownBy (w9.setCell ⟨g, y9, none⟩ (.int .i64 1)) (some g) := grown_set_any _ _ _ _
          have HS9 := Lib.hid (HS3.out.trans (since_grown HG9.out (by omega) HS3.out.size))
          have HS10 := Lib.hid (HS9.out.setCell (a := ⟨g, y9, none⟩) (by show w1.heap.size ≤ g; omega) (.int .i64 1))
          have HW10 := Lib.hid hW10
          clear hg9 hd9 hW9 hrb hW10 hgt
          go_wp2
          have HF := Lib.hid (HS1.out.trans (since_mono HS10.out HS1.out.size))
          have HPF := Lib.hid (HP1.out _ HS10.out)
          obtain ⟨qa2, qc2, hv2, hrq⟩ := HW10.out.rowR (j := j) (by rw [List.length_set]; exact HQL.out)
          injection hv2 with hv2 _ hv3
          subst hv2
          refine bodyPost_ret (results_four rfl _ _ _) rfl ?_
          exact ⟨k, n, p, pa, pc, _, _, _, by rw [HLL.out]; rfl, HF.out, hk5, hn7, by rw [HLL.out]; omega, by rw [HLL.out, List.length_set]; exact HQL.out, HPF.out, hrq⟩
        · have hd0 : decide ((0 : Int) < (j : Int)) = false := by simp; omega
          go_wp2
          have HF := Lib.hid (HS1.out.trans (since_mono HS8.out HS1.out.size))
          have HPF := Lib.hid (HP1.out _ HS8.out)
          obtain ⟨qa2, qc2, hv2, hrq⟩ := HW8.out.rowR (j := j) (by first | exact HQL.out | rfl)
          injection hv2 with hv2 _ hv3
          subst hv2
          refine bodyPost_ret (results_four rfl _ _ _) rfl ?_
          exact ⟨k, n, p, pa, pc, _, _, _, by rw [HLL.out]; rfl, HF.out, hk5, hn7, by rw [HLL.out]; omega, by rw [HLL.out]; first | exact HQL.out | rfl, HPF.out, hrq⟩
      · have h8' : ((y8 : Int) == 0) = false := by simp; omega
        go_wp2
        have HF := Lib.hid (HS1.out.trans (since_mono HS8.out HS1.out.size))
        have HPF := Lib.hid (HP1.out _ HS8.out)
        obtain ⟨qa2, qc2, hv2, hrq⟩ := HW8.out.rowR (j := j) (by first | exact HQL.out | rfl)
        injection hv2 with hv2 _ hv3
        subst hv2
        refine bodyPost_ret (results_four rfl _ _ _) rfl ?_
        exact ⟨k, n, p, pa, pc, _, _, _, by rw [HLL.out]; rfl, HF.out, hk5, hn7, by rw [HLL.out]; omega, by rw [HLL.out]; first | exact HQL.out | rfl, HPF.out, hrq⟩

end Go.Proofs.Ytbedkjpbdkgjpaa
end

section
/- Arrays compared, and times a number. -/
namespace Go.Proofs.Ytbedkjpbdkgjpaa
open Go.RowKit Go.Deep

/-- Are two arrays the same? -/
def eqA (C D : Nat → Int) : Bool := (List.range' 0 32 1).all fun i => C i == D i
theorem eqA_iff {C D : Nat → Int} : eqA C D = true ↔ ∀ i, i < 32 → C i = D i := by
  unfold eqA
  rw [List.all_eq_true]
  simp only [List.mem_range'_1, beq_iff_eq]
  exact ⟨fun h i hi => h i ⟨by omega, by omega⟩, fun h i hi => h i (by omega)⟩

theorem run_equal_arr (d : Nat) (C D : Nat → Int) (w : World) : (Op.equalIn (d + 2) 48 (.agg (arr C)) (.agg (arr D))).run Try.prog w = .ok (eqA C D) w := by
  have hu : Try.prog.underlying 3 = some (.int .i64) := by kernel_rfl
  have hq1 : (Try.prog.info? 3).map (·.size) = some 1 := by kernel_rfl
  have hsz : (sizeOf 3).run Try.prog w = .ok 1 w := by
    cases hq : Try.prog.info? 3 with
    | none => rw [hq] at hq1; cases hq1
    | some i =>
      have hs : i.size = 1 := by simpa [hq] using hq1
      simp [sizeOf, typeInfo, hq, hs]
  rw [Op.equalIn]
  unfold eqA
  simp only [Sem.run_bind, run_underlying und48, Result.andThen_ok, hsz, Std.Legacy.Range.forIn_eq_forIn_range', Std.Legacy.Range.size, Nat.sub_zero, Nat.add_sub_cancel, Nat.div_one]
  have hl : ∀ i ∈ List.range' 0 32 1, i < 32 := fun i hi => by simpa using (List.mem_range'_1.1 hi).2
  generalize List.range' 0 32 1 = l at hl ⊢
  induction l with
  | nil => simp
  | cons i l ih =>
    have hi : i < 32 := hl i (by simp)
    have px : ∀ X : Nat → Int, (part 3 (arr X) (i * 1)).run Try.prog w = .ok (.int .i64 (X i)) w := fun X => by
      simp [part, isAgg, run_underlying hu, arr_at X hi]
    have pe : (Op.equalIn (d + 1) 3 (.int .i64 (C i)) (.int .i64 (D i))).run Try.prog w = .ok (C i == D i) w := by
      rw [run_equalIn_int w d 3 .i64 .i64 _ _ hu]
    simp only [List.forIn_cons, Sem.run_bind, px, pe, Result.andThen_ok, List.all_cons]
    cases hb : (C i == D i)
    · simp
    · simp only [Bool.not_true, Bool.false_eq_true, if_false, Sem.run_pure, Result.andThen_ok, Bool.true_and]
      exact ih fun j hj => hl j (by simp [hj])

theorem guard48 : Try.prog.eqGuardType Try.prog.depth 48 = false := by kernel_rfl
theorem wpList_eql_arr {ops : Array Oper} {rest : List Oper} {o : Oper} {a : Act} {w : World} {Q : Exit → Act → World → Prop} (hg : Region.wanted o (yielded ops a.tmps) = true) (x y : Operand) (ty : TypeId) (ho : o.op = .binOp .eql 48 x y ty)
    (C D : Nat → Int) (hx : a.eval x = .agg (arr C)) (hy : a.eval y = .agg (arr D))
    (h : wpList Try.prog ops Q rest (a.put o.dst (.bool (eqA C D))) w) : wpList Try.prog ops Q (o :: rest) a w :=
  wpList_step fun K hK => by
    rw [if_pos hg]
    unfold Oper.wp execOp
    simp only [ho, hx, hy, Sem.run_bind, run_eqGuard_agg _ _ _ _ _ _ _ guard48, run_eql_struct, run_equal_arr 9998 C D, Result.andThen_ok, Sem.run_pure]
    exact hK _ _ h
theorem wp_eql_arr {o : Oper} {a : Act} {w : World} {K : Act → World → Prop} {Q : Exit → Act → World → Prop} (x y : Operand) (ty : TypeId) (ho : o.op = .binOp .eql 48 x y ty)
    (C D : Nat → Int) (hx : a.eval x = .agg (arr C)) (hy : a.eval y = .agg (arr D)) (h : K (a.put o.dst (.bool (eqA C D))) w) : o.wp Try.prog a w K Q := by
  unfold Oper.wp execOp
  simp only [ho, hx, hy, Sem.run_bind, run_eqGuard_agg _ _ _ _ _ _ _ guard48, run_eql_struct, run_equal_arr 9998 C D, Result.andThen_ok, Sem.run_pure]
  exact h

/-- Times a number, below r. -/
def timTo (C : Nat → Int) (f : Int) (r : Nat) (s : Nat) : Int := if s < r then C s * f else C s
theorem timTo_succ (C : Nat → Int) (f : Int) (r : Nat) : timTo C f (r + 1) = fun j => if j = r then C r * f else timTo C f r j := by
  funext j
  unfold timTo
  by_cases e : j = r
  · subst e; rw [if_pos (by omega), if_pos rfl]
  · rw [if_neg e]
    by_cases h : j < r
    · rw [if_pos h, if_pos (by omega)]
    · rw [if_neg h, if_neg (by omega)]
theorem timTo_all (C : Nat → Int) (f : Int) : arr (timTo C f 32) = arr (fun s => C s * f) := arr_congr fun i hi => by unfold timTo; rw [if_pos hi]

set_option maxRecDepth 100000 in
set_option maxHeartbeats 1000000 in
theorem times_any (C : Nat → Int) (f : Int) (w : World) (hb : ∀ i, i < 32 → -9223372036854775808 ≤ C i * f ∧ C i * f ≤ 9223372036854775807) :
    Calls Try.prog 78 #[.agg (arr C), .int .i64 f] w fun e w' => e = .returned (.agg (arr fun s => C s * f)) ∧ w.Since w.heap.size w' := by
  have HB := Lib.hid hb
  clear hb
  go_enter Try.func78, Try.ntmps78
  go_wp2
  rw [zero_lit]
  have b2 : ArrAt ((w.alloc (.cells (arr C) 48)).alloc (.cells (arr fun _ => 0) 48)) w.heap.size C := (ArrAt.new _ _).alloc _
  have b4 : ArrAt ((w.alloc (.cells (arr C) 48)).alloc (.cells (arr fun _ => 0) 48)) (w.heap.size + 1) (fun _ => 0) := by
    have := ArrAt.new (w.alloc (.cells (arr C) 48)) (fun _ => 0)
    rwa [World.size_alloc] at this
  have hS : w.Since w.heap.size ((w.alloc (.cells (arr C) 48)).alloc (.cells (arr fun _ => 0) 48)) := ((World.Since.refl _ _).alloc (Nat.le_refl _) _).alloc (by simp) _
  obtain ⟨W, hW⟩ : ∃ W, (w.alloc (.cells (arr C) 48)).alloc (.cells (arr fun _ => 0) 48) = W := ⟨_, rfl⟩
  rw [hW] at b2 b4 hS ⊢
  clear hW
  go_loopg [6] 32 (fun g i wr => ∃ r : Nat, r ≤ 32 ∧ g = 32 - r ∧ i = .int .i64 r ∧ ArrAt wr w.heap.size (timTo C f r) ∧ ArrAt wr (w.heap.size + 1) (fun _ => 0) ∧ w.Since w.heap.size wr)
  case atStart => exact ⟨0, by omega, rfl, rfl, b2, b4, hS⟩
  case round =>
    obtain ⟨r, hr, rfl, rfl, h2, h4, hs⟩ := hrel
    clear b2 b4 hS
    by_cases hlt : r < 32
    · have hc := h2.cell hlt
      have hf := h2.frozen r
      have e : timTo C f r r = C r := by unfold timTo; rw [if_neg (by omega)]
      rw [e] at hc
      have hbr := HB.out r hlt
      have HT := Lib.hid (timTo_succ C f r)
      have H2 := Lib.hid h2
      have H4 := Lib.hid h4
      have HS := Lib.hid hs
      obtain ⟨y, hy⟩ : ∃ y, C r = y := ⟨_, rfl⟩
      rw [hy] at hc hbr HT
      have hwr : IntKind.i64.wrap (y * f) = y * f := IntWalk.i64_in _ hbr
      clear h2 h4 hs e hy
      go_wp2
      go_roundg (32 - (r + 1))
      case measure => omega
      case rel => exact ⟨r + 1, by omega, rfl, by go_num, by rw [HT.out]; exact H2.out.set hlt _, H4.out.setOther (by omega) _, HS.out.setCell (by simp) _⟩
    · obtain rfl : r = 32 := by omega
      have H2 := Lib.hid h2
      have H4 := Lib.hid h4
      have HS := Lib.hid hs
      clear h2 h4 hs
      go_wp2_with (first
        | (with_reducible (show wpList _ _ _ (Oper.mk _ (Op.load _ _) 48 _ _ _ :: _) _ _); refine wpList_load_arr rfl _ rfl _ rfl _ H2.out ?_)
        | (with_reducible (show wpList _ _ _ (Oper.mk _ (Op.store 48 _ _) _ _ _ _ :: _) _ _); refine wpList_store_arr rfl _ _ rfl _ rfl _ _ H4.out rfl ?_))
      rw [timTo_all]
      refine bodyPost_ret (v := .agg (arr fun s => C s * f)) (results_cell_row rfl _ _ (w.heap.size + 1) 48 _ _ _ rfl H4.out.row und48 rfl (info48c _)) rfl ⟨rfl, since_setRow HS.out _ _ (by omega)⟩

end Go.Proofs.Ytbedkjpbdkgjpaa
end

section
/- The contract of impl.PlaceBases. -/
namespace Go.Proofs.Ytbedkjpbdkgjpaa
open Go.RowKit Go.Deep

/-- The sets below m whose number is not 0. -/
def nzTo (C : Nat → Int) : Nat → List Int
  | 0 => []
  | m + 1 => if C m ≠ 0 then nzTo C m ++ [(m : Int)] else nzTo C m
theorem nzTo_yes {C : Nat → Int} {m : Nat} (h : C m ≠ 0) : nzTo C (m + 1) = nzTo C m ++ [(m : Int)] := by simp [nzTo, h]
theorem nzTo_no {C : Nat → Int} {m : Nat} (h : C m = 0) : nzTo C (m + 1) = nzTo C m := by simp [nzTo, h]
theorem nzTo_le (C : Nat → Int) : ∀ m, (nzTo C m).length ≤ m
  | 0 => by simp [nzTo]
  | m + 1 => by
    have := nzTo_le C m
    by_cases h : C m = 0
    · rw [nzTo_no h]; omega
    · rw [nzTo_yes h]; simp; omega

set_option maxRecDepth 100000 in
set_option maxHeartbeats 2000000 in
theorem bases_any (C : Nat → Int) (w : World) : Calls Try.prog 54 #[.agg (arr C)] w fun e w' => ∃ v, e = .returned v ∧ RB w w' v (nzTo C 32) := by
  obtain ⟨i3, hi3⟩ := info3_parts
  have HJ := Lib.hid hi3
  clear hi3
  go_enter Try.func54, Try.ntmps54
  go_wp2_with (with_reducible (show wpList _ _ _ (Oper.mk _ (Op.load _ _) 48 _ _ _ :: _) _ _); refine wpList_load_arr rfl _ rfl _ rfl C (ArrAt.new _ _) ?_)
  obtain ⟨W, hW⟩ : ∃ W, w.alloc (.cells (arr C) 48) = W := ⟨_, rfl⟩
  have hS : w.Since w.heap.size W := by rw [← hW]; exact (World.Since.refl _ _).alloc (Nat.le_refl _) _
  have HST := Lib.hid (show RB w W (.slice none 0 0) [] from ⟨hS, World.ownsRow_nil _ _ _ _⟩)
  rw [hW]
  clear hS hW
  go_loopg [3, 7] 32 (fun g v i wr => ∃ r : Nat, r ≤ 32 ∧ g = 32 - r ∧ i = .int .i64 r ∧ RB w wr v (nzTo C r))
  case atStart => exact ⟨0, by omega, rfl, rfl, HST.out⟩
  case round =>
    obtain ⟨r, hr, rfl, rfl, hR⟩ := hrel
    clear HST
    by_cases hlt : r < 32
    · have hc := fun W => run_index_arr C hlt W
      obtain ⟨y, hy⟩ : ∃ y, C r = y := ⟨_, rfl⟩
      rw [hy] at hc
      have hle := nzTo_le C r
      have hzi := hR.since.size
      have HR := Lib.hid hR
      clear hR
      by_cases h0 : y = 0
      · subst h0
        have HN := Lib.hid (nzTo_no hy)
        clear hy
        go_wp2
        go_roundg (32 - (r + 1))
        case measure => omega
        case rel => exact ⟨r + 1, by omega, rfl, by go_num, by rw [HN.out]; exact HR.out⟩
      · have HN := Lib.hid (nzTo_yes (show C r ≠ 0 by rw [hy]; exact h0))
        have hy0 : (y != 0) = true := by simpa using h0
        clear hy h0
        go_wp2_with (at_builtin; (refine wpList_append_own _ rfl _ _ 22 rfl w.heap.size 3 i3 (.int .i64 0) 1 8 Try.underlying22 HJ.out.1 HJ.out.2.1 HJ.out.2.2.1 HJ.out.2.2.2 rfl (by decide) _ _ _ rfl (HR.out.own.alloc _) ⟨wr.heap.size, 0, none⟩ 1 1 [.int .i64 (r : Nat)] rfl rfl (cell_one_at _ _ _ rfl) (fun x hx => by simp at hx; subst hx; rfl) (by unfold maxLen; omega) (by omega) (by simp; omega) ?_); intro v' w5 hown' hgrow _)
        have hP := HR.out.push hown' hgrow
        rw [← HN.out] at hP
        have HP := Lib.hid hP
        clear hP hown' hgrow
        go_roundg (32 - (r + 1))
        case measure => omega
        case rel => exact ⟨r + 1, by omega, rfl, by go_num, HP.out⟩
    · obtain rfl : r = 32 := by omega
      have HR := Lib.hid hR
      clear hR
      go_wp2
      go_ret
      exact ⟨_, rfl, HR.out⟩

theorem nz_sets (k n : Nat) (p : List Int) : ∀ m, m ≤ 2 ^ n → nzTo (crd k n p) m = List.map (fun s : Nat => (s : Int)) ((setsTo k m).filter fun s => decide (atP p s ≠ 0))
  | 0, _ => rfl
  | m + 1, h => by
    have ih := nz_sets k n p m (by omega)
    by_cases hk : popcS m = k
    · have hc : crd k n p m = atP p m := by unfold crd; rw [if_pos ⟨by omega, hk⟩]
      rw [setsTo_yes hk, List.filter_append, List.map_append, ← ih]
      by_cases h0 : atP p m = 0
      · rw [nzTo_no (hc.trans h0)]; simp [h0]
      · rw [nzTo_yes (by rw [hc]; exact h0)]; simp [h0]
    · have hc : crd k n p m = 0 := by unfold crd; rw [if_neg (fun e => hk e.2)]
      rw [setsTo_no hk, ← ih, nzTo_no hc]
theorem nz_beyond (k n : Nat) (p : List Int) : ∀ j, nzTo (crd k n p) (2 ^ n + j) = nzTo (crd k n p) (2 ^ n)
  | 0 => rfl
  | j + 1 => by
    rw [← Nat.add_assoc, nzTo_no (by unfold crd; rw [if_neg (fun e => by omega)]), nz_beyond k n p j]
theorem nz_bases {k n : Nat} (hn : n ≤ 5) (p : List Int) : nzTo (crd k n p) 32 = basesP k n p := by
  have := pow_le5 hn
  rw [show 32 = 2 ^ n + (32 - 2 ^ n) by omega, nz_beyond, nz_sets k n p _ (Nat.le_refl _), basesP_eq]

/-- A row of one's own and whether there is one. -/
def POwn (w : World) (ok : Bool) (x : List Int) (e : Ending) (w' : World) : Prop :=
  ∃ a cap, e = .returned (.tuple #[.slice a (if ok = true then x else []).length cap, .bool ok]) ∧ w.Since w.heap.size w' ∧ OwnR w.heap.size w'.heap.size w' a (if ok = true then x else [])
theorem pown_no {w w' : World} {x : List Int} {a : Option Addr} {c : Nat} {e : Ending} (he : e = .returned (.tuple #[.slice a 0 c, .bool false])) (hs : w.Since w.heap.size w') : POwn w false x e w' :=
  ⟨a, c, he, hs, OwnR.nil _ _ _ _⟩
theorem pown_yes {w wr w' : World} {x : List Int} {v : Value} {e : Ending} (h : RB wr w' v x) (hs : w.Since w.heap.size wr) (he : e = .returned (.tuple #[v, .bool true])) : POwn w true x e w' := by
  obtain ⟨a, cp, rfl, hr⟩ := h.slice
  refine ⟨a, cp, he, hs.trans (since_mono h.since hs.size), fun h0 => ?_⟩
  obtain ⟨G, e2, hG, h3⟩ := hr h0
  exact ⟨G, e2, ⟨Nat.le_trans hs.size hG, h3.lt⟩, fun i hi => ⟨h3.cell hi, h3.frozen i⟩⟩

set_option maxRecDepth 100000 in
set_option maxHeartbeats 1000000 in
theorem implPlaceBases_any (k n : Int) (a : Option Addr) (cap m : Nat) (p : List Int) (w : World) (hm : p.length = m) (_hmx : m ≤ 1048576) (hr : RowR w a p) :
    Calls Try.prog 28 #[.int .i64 k, .int .i64 n, .slice a m cap] w (POwn w (placeB k n p) (basesP k.toNat n.toNat p)) := by
  have E := told_any k n a cap m p w hm hr
  unfold ToldP at E
  cases hb : placeB k n p with
  | false =>
    rw [hb] at E
    replace E := Lib.hid E
    clear hb hr hm
    go_enter Try.func28, Try.ntmps28
    go_wp2_with (first
      | (go_at_call 46; refine (E.out).mono ?_; rintro e w2 ⟨C, rfl, hs, _⟩; have HS := Lib.hid hs; clear hs)
      | (with_reducible (show wpList _ _ _ (Oper.mk _ (Op.store 48 _ _) _ _ _ _ :: _) _ _); rw [zero_lit]; refine wpList_store_arr rfl _ _ rfl _ rfl _ _ (ArrAt.new _ _) rfl ?_))
    go_ret2
    exact pown_no rfl (since_setRow (HS.out.alloc HS.out.size _) _ _ HS.out.size)
  | true =>
    obtain ⟨k', n', rfl, rfl, h1, h2, h3, _⟩ := placeB_of hb
    rw [hb] at E
    simp only [Int.toNat_natCast, forall_const] at E ⊢
    have EB := bases_any (crd k' n' p)
    rw [nz_bases h3] at EB
    obtain ⟨D, hD⟩ : ∃ D, crd k' n' p = D := ⟨_, rfl⟩
    rw [hD] at E EB
    replace E := Lib.hid E
    replace EB := Lib.hid EB
    clear hb hr hm hD
    go_enter Try.func28, Try.ntmps28
    go_wp2_with (first
      | (go_at_call 46; refine (E.out).mono ?_; rintro e w2 ⟨C, rfl, hs, rfl⟩; have HS := Lib.hid hs; clear hs)
      | (with_reducible (show wpList _ _ _ (Oper.mk _ (Op.store 48 _ _) _ _ _ _ :: _) _ _); rw [zero_lit]; refine wpList_store_arr rfl _ _ rfl _ rfl _ _ (ArrAt.new _ _) rfl ?_)
      | (with_reducible (show wpList _ _ _ (Oper.mk _ (Op.load _ _) 48 _ _ _ :: _) _ _); refine wpList_load_arr rfl _ rfl _ rfl C (ArrAt.new _ _).row ?_)
      | (go_at_call 54; refine (EB.out _).mono ?_; rintro e w3 ⟨v, rfl, hR⟩; have HRB := Lib.hid hR; clear hR))
    go_ret2
    exact pown_yes HRB.out (since_setRow (HS.out.alloc HS.out.size _) _ _ HS.out.size) rfl

end Go.Proofs.Ytbedkjpbdkgjpaa
end

section
/- The contract of spec.PlaceSame. -/
namespace Go.Proofs.Ytbedkjpbdkgjpaa
open Go.RowKit Go.Deep

/-- The least place among the last j of m at which a number is not 0, or -1. -/
def lowP (p : List Int) (m : Nat) : Nat → Int
  | 0 => -1
  | j + 1 => if p.getD (m - (j + 1)) 0 = 0 then lowP p m j else ((m - (j + 1) : Nat) : Int)
theorem lowP_zero {p : List Int} {m j : Nat} (h : p.getD (m - (j + 1)) 0 = 0) : lowP p m (j + 1) = lowP p m j := by
  show (if _ then _ else _) = _; rw [if_pos h]
theorem lowP_not {p : List Int} {m j : Nat} (h : p.getD (m - (j + 1)) 0 ≠ 0) : lowP p m (j + 1) = ((m - (j + 1) : Nat) : Int) := by
  show (if _ then _ else _) = _; rw [if_neg h]
theorem lowP_bd (p : List Int) (m : Nat) : ∀ j, j ≤ m → -1 ≤ lowP p m j ∧ lowP p m j ≤ (m : Int) - 1 ∧ (0 ≤ lowP p m j → (m : Int) - j ≤ lowP p m j)
  | 0, _ => by simp only [lowP]; omega
  | j + 1, h => by
    have ih := lowP_bd p m j (by omega)
    by_cases h0 : p.getD (m - (j + 1)) 0 = 0
    · rw [lowP_zero h0]; omega
    · rw [lowP_not h0]; omega
/-- Two coordinates are each other times a number. -/
def crossP (p q : List Int) (a m : Nat) : Prop := ∀ i, i < m → p.getD i 0 * q.getD a 0 = q.getD i 0 * p.getD a 0
instance (p q : List Int) (a m : Nat) : Decidable (crossP p q a m) := inferInstanceAs (Decidable (∀ i, i < m → _))
def sameOk (p q : List Int) (m : Nat) : Bool := decide (0 ≤ lowP p m m) && (decide (lowP p m m = lowP q m m) && decide (crossP p q (lowP p m m).toNat m))
def sameB (k n : Int) (p q : List Int) : Bool := placeB k n p && (placeB k n q && sameOk p q p.length)
theorem sameOk_neg {p q : List Int} {m : Nat} (h : ¬ 0 ≤ lowP p m m) : sameOk p q m = false := by unfold sameOk; rw [decide_eq_false h]; rfl
theorem sameOk_ne {p q : List Int} {m : Nat} (h : lowP p m m ≠ lowP q m m) : sameOk p q m = false := by unfold sameOk; rw [decide_eq_false h]; simp
theorem sameOk_no {p q : List Int} {m : Nat} (h : ¬ crossP p q (lowP p m m).toNat m) : sameOk p q m = false := by unfold sameOk; rw [decide_eq_false h]; simp
theorem sameOk_yes {p q : List Int} {m : Nat} (h1 : 0 ≤ lowP p m m) (h2 : lowP p m m = lowP q m m) (h : crossP p q (lowP p m m).toNat m) : sameOk p q m = true := by
  unfold sameOk; rw [decide_eq_true h1, decide_eq_true h2, decide_eq_true h]; rfl

set_option maxRecDepth 100000 in
set_option maxHeartbeats 2000000 in
theorem specPlaceSame_any (k n : Int) (a : Option Addr) (cap m : Nat) (p : List Int) (a2 : Option Addr) (cap2 m2 : Nat) (q : List Int) (w : World) (hm : p.length = m) (hmx : m ≤ 1048576) (hr : RowR w a p) (hm2 : q.length = m2) (hmx2 : m2 ≤ 1048576) (hr2 : RowR w a2 q) :
    Calls Try.prog 25 #[.int .i64 k, .int .i64 n, .slice a m cap, .slice a2 m2 cap2] w fun e w' => e = .returned (.bool (sameB k n p q)) ∧ w.Since w.heap.size w' := by
  have E1 := specPlaceIn_any k n a cap m p w hm hmx hr
  have E2 := fun (W : World) (hd : w.Since w.heap.size W) => specPlaceIn_any k n a2 cap2 m2 q W hm2 hmx2 (hr2.since hd)
  cases h1 : placeB k n p with
  | false =>
    rw [h1] at E1
    have hres : sameB k n p q = false := by unfold sameB; rw [h1]; rfl
    rw [hres]
    replace E1 := Lib.hid E1
    clear hr hr2 h1 hres hm hm2 E2
    go_enter Try.func25, Try.ntmps25
    go_wp2_with fail
    refine (E1.out).mono ?_
    rintro e w2 ⟨rfl, hs⟩
    go_wp2
    go_ret
    exact ⟨rfl, hs⟩
  | true =>
  rw [h1] at E1
  replace E1 := Lib.hid E1
  cases h2 : placeB k n q with
  | false =>
    simp only [h2] at E2
    have hres : sameB k n p q = false := by unfold sameB; rw [h2]; simp
    rw [hres]
    replace E2 := Lib.hid E2
    clear hr hr2 h1 h2 hres hm hm2
    go_enter Try.func25, Try.ntmps25
    go_wp2_with fail
    refine (E1.out).mono ?_
    rintro e w2 ⟨rfl, hs⟩
    have HS := Lib.hid hs
    clear hs
    go_wp2_with fail
    refine (E2.out _ HS.out).mono ?_
    rintro e w3 ⟨rfl, hs⟩
    have HS3 := Lib.hid (HS.out.trans (since_mono hs HS.out.size))
    clear hs
    go_wp2
    go_ret
    exact ⟨rfl, HS3.out⟩
  | true =>
  simp only [h2] at E2
  replace E2 := Lib.hid E2
  obtain ⟨k, n, rfl, rfl, hk1, hkn, h5, hl, hp⟩ := placeB_of h1
  obtain ⟨k', n', ek, en, _, _, _, hl2, hp2⟩ := placeB_of h2
  have ek' : k = k' := by omega
  have en' : n = n' := by omega
  subst ek' en'
  have hres : sameB (k : Nat) (n : Nat) p q = sameOk p q m := by unfold sameB; rw [h1, h2, hm]; rfl
  rw [hres]
  have hmm : m2 = m := by omega
  subst hmm
  rw [hm] at hp
  rw [hm2] at hp2
  have HP := Lib.hid hp
  have HP2 := Lib.hid hp2
  have HR := Lib.hid (fun (W : World) (hd : w.Since w.heap.size W) => hr.since hd)
  have HR2 := Lib.hid (fun (W : World) (hd : w.Since w.heap.size W) => hr2.since hd)
  have HM := Lib.hid (And.intro hm hm2)
  have HB := Lib.hid (fun (j : Nat) (hj : j ≤ m2) => And.intro (lowP_bd p m2 j hj) (lowP_bd q m2 j hj))
  clear hr hr2 h1 h2 hres hm hm2 hl hl2 hp hp2 ek en
  have hw0 : IntKind.i64.wrap ((m2 : Int) - 1) = (m2 : Int) - 1 := IntWalk.i64_in _ ⟨by omega, by omega⟩
  go_enter Try.func25, Try.ntmps25
  go_wp2_with fail
  refine (E1.out).mono ?_
  rintro e w2 ⟨rfl, hs⟩
  have HS := Lib.hid hs
  clear hs
  go_wp2_with fail
  refine (E2.out _ HS.out).mono ?_
  rintro e w3 ⟨rfl, hs⟩
  have HS3 := Lib.hid (HS.out.trans (since_mono hs HS.out.size))
  clear hs HS
  go_wp2
  go_loopg [9, 10, 11] m2 (fun g x y i wr => ∃ j : Nat, j ≤ m2 ∧ g = m2 - j ∧ i = .int .i64 ((m2 : Int) - 1 - j) ∧ x = .int .i64 (lowP p m2 j) ∧ y = .int .i64 (lowP q m2 j) ∧ w3 = wr)
  case atStart => exact ⟨0, Nat.zero_le _, rfl, by go_num, rfl, rfl, rfl⟩
  case round =>
    obtain ⟨j, hj, rfl, rfl, rfl, rfl, rfl⟩ := hrel
    by_cases hlt : j < m2
    · obtain ⟨r, hr⟩ : ∃ r, m2 - (j + 1) = r := ⟨_, rfl⟩
      have hir : (m2 : Int) - 1 - (j : Int) = (r : Int) := by omega
      rw [hir]
      have hwi : IntKind.i64.wrap ((r : Int) - 1) = (r : Int) - 1 := IntWalk.i64_in _ ⟨by omega, by omega⟩
      obtain ⟨b, o, rfl, hc⟩ := HR.out _ HS3.out (by rw [HM.out.1]; omega)
      obtain ⟨b2, o2, rfl, hc2⟩ := HR2.out _ HS3.out (by rw [HM.out.2]; omega)
      have c1 := hc r (by rw [HM.out.1]; omega)
      have c2 := hc2 r (by rw [HM.out.2]; omega)
      have z1 := @lowP_zero p m2 j
      have z2 := @lowP_not p m2 j
      have z3 := @lowP_zero q m2 j
      have z4 := @lowP_not q m2 j
      rw [hr] at z1 z2 z3 z4
      obtain ⟨x, hx⟩ : ∃ x, p.getD r 0 = x := ⟨_, rfl⟩
      obtain ⟨y, hy⟩ : ∃ y, q.getD r 0 = y := ⟨_, rfl⟩
      rw [hx] at c1 z1 z2
      rw [hy] at c2 z3 z4
      obtain ⟨l1, hl1⟩ : ∃ l, lowP p m2 j = l := ⟨_, rfl⟩
      obtain ⟨l2, hl2⟩ : ∃ l, lowP q m2 j = l := ⟨_, rfl⟩
      rw [hl1] at z1 ⊢
      rw [hl2] at z3 ⊢
      have HI := Lib.hid (show ((r : Int) - 1 = (m2 : Int) - 1 - ((j + 1 : Nat) : Int)) by omega)
      clear hc hc2 hx hy hl1 hl2 hir
      by_cases hx0 : x = 0 <;> by_cases hy0 : y = 0
      · have Z := Lib.hid (And.intro (z1 hx0) (z3 hy0))
        have d1 : (x != 0) = false := by simp [hx0]
        have d2 : (y != 0) = false := by simp [hy0]
        clear z1 z2 z3 z4 hx0 hy0
        go_wp2
        go_roundg (m2 - (j + 1))
        case measure => omega
        case rel => exact ⟨j + 1, by omega, rfl, by rw [HI.out], by rw [Z.out.1], by rw [Z.out.2], rfl⟩
      · have Z := Lib.hid (And.intro (z1 hx0) (z4 hy0))
        have d1 : (x != 0) = false := by simp [hx0]
        have d2 : (y != 0) = true := by simp [hy0]
        clear z1 z2 z3 z4 hx0 hy0
        go_wp2
        go_roundg (m2 - (j + 1))
        case measure => omega
        case rel => exact ⟨j + 1, by omega, rfl, by rw [HI.out], by rw [Z.out.1], by rw [Z.out.2], rfl⟩
      · have Z := Lib.hid (And.intro (z2 hx0) (z3 hy0))
        have d1 : (x != 0) = true := by simp [hx0]
        have d2 : (y != 0) = false := by simp [hy0]
        clear z1 z2 z3 z4 hx0 hy0
        go_wp2
        go_roundg (m2 - (j + 1))
        case measure => omega
        case rel => exact ⟨j + 1, by omega, rfl, by rw [HI.out], by rw [Z.out.1], by rw [Z.out.2], rfl⟩
      · have Z := Lib.hid (And.intro (z2 hx0) (z4 hy0))
        have d1 : (x != 0) = true := by simp [hx0]
        have d2 : (y != 0) = true := by simp [hy0]
        clear z1 z2 z3 z4 hx0 hy0
        go_wp2
        go_roundg (m2 - (j + 1))
        case measure => omega
        case rel => exact ⟨j + 1, by omega, rfl, by rw [HI.out], by rw [Z.out.1], by rw [Z.out.2], rfl⟩
    · have hjm : j = m2 := by omega
      subst hjm
      have hb := HB.out j (Nat.le_refl _)
      have hneg := @sameOk_neg p q j
      have hne := @sameOk_ne p q j
      have hno := @sameOk_no p q j
      have hyes := @sameOk_yes p q j
      obtain ⟨l1, hl1⟩ : ∃ l, lowP p j j = l := ⟨_, rfl⟩
      obtain ⟨l2, hl2⟩ : ∃ l, lowP q j j = l := ⟨_, rfl⟩
      simp only [hl1, hl2] at hb hneg hne hno hyes ⊢
      rw [show ((j : Int) - 1 - (j : Int)) = -1 by omega]
      clear hl1 hl2 HB
      by_cases h0 : 0 ≤ l1
      · obtain ⟨s, rfl⟩ : ∃ s : Nat, l1 = s := ⟨l1.toNat, by omega⟩
        have hsj : s < j := by omega
        by_cases he : l2 = (s : Int)
        · subst he
          rw [Int.toNat_natCast] at hno hyes
          have HNO := Lib.hid hno
          have HYES := Lib.hid (hyes h0 rfl)
          clear hneg hne hno hyes hb h0
          obtain ⟨b, o, rfl, hc⟩ := HR.out _ HS3.out (by rw [HM.out.1]; omega)
          obtain ⟨b2, o2, rfl, hc2⟩ := HR2.out _ HS3.out (by rw [HM.out.2]; omega)
          have c1 := hc s (by rw [HM.out.1]; omega)
          have c2 := hc2 s (by rw [HM.out.2]; omega)
          have HC := Lib.hid hc
          have HC2 := Lib.hid hc2
          have hb1 := HP.out s hsj
          have hb2 := HP2.out s hsj
          have hcr : ∀ i, p.getD i 0 * q.getD s 0 = q.getD i 0 * p.getD s 0 ↔ p.getD i 0 * q.getD s 0 = q.getD i 0 * p.getD s 0 := fun _ => Iff.rfl
          unfold crossP at HNO HYES
          obtain ⟨ps, hps⟩ : ∃ x, p.getD s 0 = x := ⟨_, rfl⟩
          obtain ⟨qs, hqs⟩ : ∃ x, q.getD s 0 = x := ⟨_, rfl⟩
          simp only [hps, hqs] at hb1 hb2 c1 c2 HNO HYES
          have d0 : decide ((s : Int) < 0) = false := by simp
          clear hc hc2 hps hqs hcr
          go_wp2
          go_loopg [12] j (fun g i wr => ∃ i0 : Nat, i0 ≤ j ∧ g = j - i0 ∧ i = .int .i64 i0 ∧ (∀ i', i' < i0 → p.getD i' 0 * qs = q.getD i' 0 * ps) ∧ Drawn w3 wr)
          case atStart => exact ⟨0, Nat.zero_le _, rfl, rfl, fun i' h' => absurd h' (Nat.not_lt_zero _), Drawn.refl _⟩
          case round =>
            obtain ⟨i0, hi0, rfl, rfl, hC, hD⟩ := hrel
            by_cases hlt : i0 < j
            · have d1 := HC.out i0 (by rw [HM.out.1]; exact hlt)
              have d2 := HC2.out i0 (by rw [HM.out.2]; exact hlt)
              rw [← hD.cell] at d1 d2
              have f1 := (hD.cell ⟨b, o + s, none⟩).trans c1
              have f2 := (hD.cell ⟨b2, o2 + s, none⟩).trans c2
              have HDD := Lib.hid hD
              clear hD
              have hx1 := HP.out i0 hlt
              have hy1 := HP2.out i0 hlt
              obtain ⟨x, hx⟩ : ∃ x, p.getD i0 0 = x := ⟨_, rfl⟩
              obtain ⟨y, hy⟩ : ∃ x, q.getD i0 0 = x := ⟨_, rfl⟩
              rw [hx] at d1 hx1
              rw [hy] at d2 hy1
              have e1 := mul_bdP (B := 100000) hx1.1 hx1.2 hb2.1 hb2.2
              have e2 := mul_bdP (B := 100000) hy1.1 hy1.2 hb1.1 hb1.2
              have HX := Lib.hid (And.intro hx hy)
              have HCC := Lib.hid hC
              obtain ⟨X, hX⟩ : ∃ z, x * qs = z := ⟨_, rfl⟩
              obtain ⟨Y, hY⟩ : ∃ z, y * ps = z := ⟨_, rfl⟩
              rw [hX] at e1
              rw [hY] at e2
              have w1 : IntKind.i64.wrap (x * qs) = X := by rw [hX]; exact IntWalk.i64_in _ ⟨by omega, by omega⟩
              have w2 : IntKind.i64.wrap (y * ps) = Y := by rw [hY]; exact IntWalk.i64_in _ ⟨by omega, by omega⟩
              have HXX := Lib.hid (And.intro hX hY)
              clear hx hy hC hX hY hx1 hy1
              by_cases h0 : X = Y
              · have HS4 := Lib.hid (show ∀ i', i' < i0 + 1 → p.getD i' 0 * qs = q.getD i' 0 * ps from fun i' h' => by
                  by_cases e : i' = i0
                  · rw [e, HX.out.1, HX.out.2, HXX.out.1, HXX.out.2, h0]
                  · exact HCC.out i' (by omega))
                have dz : (X != Y) = false := by simp [h0]
                clear h0
                go_wp2
                go_quiet (fail)
                go_wp2
                go_roundg (j - (i0 + 1))
                case measure => omega
                case rel => exact ⟨i0 + 1, by omega, rfl, by go_num, HS4.out, HDD.out.trans (Drawn.mk _ _)⟩
              · have hno := Lib.hid (HNO.out (fun h => h0 (by
                  have := h i0 hlt
                  rw [HX.out.1, HX.out.2, HXX.out.1, HXX.out.2] at this
                  exact this)))
                have dz : (X != Y) = true := by simp [h0]
                clear h0
                go_wp2
                go_quiet (fail)
                go_wp2
                go_ret
                exact ⟨by rw [hno.out] <;> rfl, HS3.out.trans ((HDD.out.trans (Drawn.mk _ _)).since w.heap.size)⟩
            · have hij : i0 = j := by omega
              subst hij
              have hyes := Lib.hid (HYES.out hC)
              have hs := Lib.hid (HS3.out.trans (hD.since w.heap.size))
              clear hC hD
              go_wp2
              go_ret
              exact ⟨by rw [hyes.out] <;> rfl, hs.out⟩
        · have hn := Lib.hid (hne (fun e => he e.symm))
          have dz : ((s : Int) != l2) = true := by simp; omega
          have d0 : decide ((s : Int) < 0) = false := by simp
          clear hneg hne hno hyes hb h0 he
          go_wp2
          go_ret
          exact ⟨by rw [hn.out] <;> rfl, HS3.out⟩
      · have hn := Lib.hid (hneg h0)
        have dz : decide (l1 < 0) = true := by simp; omega
        clear hneg hne hno hyes hb h0
        go_wp2
        go_ret
        exact ⟨by rw [hn.out] <;> rfl, HS3.out⟩

end Go.Proofs.Ytbedkjpbdkgjpaa
end

section
/- Two coordinates that are each other times a number: the pure side. -/
namespace Go.Proofs.Ytbedkjpbdkgjpaa
open Go.RowKit Go.Deep

/-- Neither is all 0, and each is the other one times a number. -/
def Prop2 (C D : Nat → Int) (N : Nat) : Prop := (∃ i, i < N ∧ C i ≠ 0) ∧ (∃ i, i < N ∧ D i ≠ 0) ∧ ∀ i j, i < N → j < N → C i * D j = D i * C j
theorem Prop2.symm {C D : Nat → Int} {N : Nat} (h : Prop2 C D N) : Prop2 D C N := ⟨h.2.1, h.1, fun i j hi hj => (h.2.2 i j hi hj).symm⟩
theorem prop_cancel {a b x y : Int} (hx : x ≠ 0) (hy : y ≠ 0) (h : a * (x * y) = b * (x * y)) : a = b := by
  exact Int.eq_of_mul_eq_mul_right (Int.mul_ne_zero hx hy) h
/-- One place at which one of them is not 0 is enough. -/
theorem prop_at {C D : Nat → Int} {N f : Nat} (hf : f < N) (h0 : C f ≠ 0) (hD : ∃ i, i < N ∧ D i ≠ 0) (h : ∀ i, i < N → C i * D f = D i * C f) : Prop2 C D N := by
  have hDf : D f ≠ 0 := fun e => by
    obtain ⟨i, hi, hn⟩ := hD
    have := h i hi
    rw [e, Int.mul_zero] at this
    rcases Int.mul_eq_zero.mp this.symm with h1 | h1
    · exact hn h1
    · exact h0 h1
  refine ⟨⟨f, hf, h0⟩, hD, fun i j hi hj => prop_cancel hDf h0 ?_⟩
  have e1 := h i hi
  have e2 := h j hj
  calc C i * D j * (D f * C f) = (C i * D f) * (D j * C f) := by grind
    _ = D i * C j * (D f * C f) := by rw [e1, ← e2]; grind

theorem lowP_spec (p : List Int) (m : Nat) : ∀ j, j ≤ m → (lowP p m j = -1 ∧ ∀ i, m - j ≤ i → i < m → p.getD i 0 = 0) ∨ (∃ a, m - j ≤ a ∧ a < m ∧ lowP p m j = (a : Int) ∧ p.getD a 0 ≠ 0 ∧ ∀ i, m - j ≤ i → i < a → p.getD i 0 = 0)
  | 0, _ => .inl ⟨rfl, fun i h1 h2 => by omega⟩
  | j + 1, h => by
    by_cases h0 : p.getD (m - (j + 1)) 0 = 0
    · rw [lowP_zero h0]
      rcases lowP_spec p m j (by omega) with ⟨h1, h2⟩ | ⟨a, h1, h2, h3, h4, h5⟩
      · refine .inl ⟨h1, fun i hi1 hi2 => ?_⟩
        by_cases e : i = m - (j + 1)
        · subst e; exact h0
        · exact h2 i (by omega) hi2
      · refine .inr ⟨a, by omega, h2, h3, h4, fun i hi1 hi2 => ?_⟩
        by_cases e : i = m - (j + 1)
        · subst e; exact h0
        · exact h5 i (by omega) hi2
    · rw [lowP_not h0]
      exact .inr ⟨m - (j + 1), Nat.le_refl _, by omega, rfl, h0, fun i h1 h2 => by omega⟩
theorem lowP_all (p : List Int) (m : Nat) : (lowP p m m = -1 ∧ ∀ i, i < m → p.getD i 0 = 0) ∨ (∃ a, a < m ∧ lowP p m m = (a : Int) ∧ p.getD a 0 ≠ 0 ∧ ∀ i, i < a → p.getD i 0 = 0) := by
  rcases lowP_spec p m m (Nat.le_refl _) with ⟨h1, h2⟩ | ⟨a, _, h2, h3, h4, h5⟩
  · exact .inl ⟨h1, fun i hi => h2 i (by omega) hi⟩
  · exact .inr ⟨a, h2, h3, h4, fun i hi => h5 i (by omega) hi⟩

theorem sameOk_iff (p q : List Int) (m : Nat) : sameOk p q m = true ↔ Prop2 (fun i => p.getD i 0) (fun i => q.getD i 0) m := by
  constructor
  · intro h
    unfold sameOk at h
    simp only [Bool.and_eq_true, decide_eq_true_eq] at h
    obtain ⟨h1, h2, h3⟩ := h
    rcases lowP_all p m with ⟨e, _⟩ | ⟨a, ha, e, hp, _⟩
    · omega
    rcases lowP_all q m with ⟨e', _⟩ | ⟨b, hb, e', hq, _⟩
    · omega
    obtain rfl : a = b := by omega
    rw [e, Int.toNat_natCast] at h3
    exact prop_at ha hp ⟨a, hb, hq⟩ h3
  · rintro ⟨⟨i, hi, hpi⟩, ⟨j, hj, hqj⟩, h⟩
    rcases lowP_all p m with ⟨_, e⟩ | ⟨a, ha, e, hp, hpa⟩
    · exact absurd (e i hi) hpi
    rcases lowP_all q m with ⟨_, e'⟩ | ⟨b, hb, e', hq, hqb⟩
    · exact absurd (e' j hj) hqj
    have hab : a = b := by
      rcases Nat.lt_trichotomy a b with hlt | rfl | hlt
      · have := h a b ha hb
        dsimp only at this
        rw [hqb a hlt, Int.zero_mul] at this
        rcases Int.mul_eq_zero.mp this with h1 | h1
        · exact absurd h1 hp
        · exact absurd h1 hq
      · rfl
      · have := h b a hb ha
        dsimp only at this
        rw [hpa b hlt, Int.zero_mul] at this
        rcases Int.mul_eq_zero.mp this.symm with h1 | h1
        · exact absurd h1 hq
        · exact absurd h1 hp
    subst hab
    exact sameOk_yes (by omega) (by omega) (by rw [e, Int.toNat_natCast]; exact fun i hi => h i a hi ha)

theorem nzTo_spec (C : Nat → Int) : ∀ r, (nzTo C r = [] ∧ ∀ i, i < r → C i = 0) ∨ (∃ f l, f < r ∧ nzTo C r = (f : Int) :: l ∧ C f ≠ 0)
  | 0 => .inl ⟨rfl, fun i h => by omega⟩
  | r + 1 => by
    by_cases h0 : C r = 0
    · rw [nzTo_no h0]
      rcases nzTo_spec C r with ⟨h1, h2⟩ | ⟨f, l, h1, h2, h3⟩
      · refine .inl ⟨h1, fun i hi => ?_⟩
        by_cases e : i = r
        · subst e; exact h0
        · exact h2 i (by omega)
      · exact .inr ⟨f, l, by omega, h2, h3⟩
    · rw [nzTo_yes h0]
      rcases nzTo_spec C r with ⟨h1, h2⟩ | ⟨f, l, h1, h2, h3⟩
      · exact .inr ⟨r, [], by omega, by rw [h1]; rfl, h0⟩
      · exact .inr ⟨f, l ++ [(r : Int)], by omega, by rw [h2]; rfl, h3⟩

/-- What proportional answers, f being the first set whose number is not 0. -/
def propF (C D : Nat → Int) (f : Nat) : Bool := eqA (fun s => C s * D f) (fun s => D s * C f)
theorem propF_iff {C D : Nat → Int} {f : Nat} (hf : f < 32) (h0 : C f ≠ 0) (hD : eqA D (fun _ => 0) = false) : propF C D f = true ↔ Prop2 C D 32 := by
  unfold propF
  rw [eqA_iff]
  constructor
  · intro h
    refine prop_at hf h0 (Classical.byContradiction fun hn => ?_) h
    have : eqA D (fun _ => 0) = true := eqA_iff.mpr fun i hi => Classical.byContradiction fun h => hn ⟨i, hi, h⟩
    rw [hD] at this
    cases this
  · rintro ⟨_, _, h⟩ i hi
    exact h i f hi hf

theorem crd_at {k n i : Nat} {p : List Int} {s : Nat} (h : (setsTo k (2 ^ n))[i]? = some s) : crd k n p s = p.getD i 0 := by
  obtain ⟨h1, h2, h3⟩ := setsTo_idx k _ h
  unfold crd
  rw [if_pos ⟨h3, h2⟩]
  unfold atP
  rw [h2, h1]
theorem crd_some {k n s : Nat} (_p : List Int) (h : s < 2 ^ n ∧ popcS s = k) : ∃ i, i < (setsTo k (2 ^ n)).length ∧ (setsTo k (2 ^ n))[i]? = some s := by
  have e := setsTo_pos k _ h.1 h.2
  exact ⟨_, (List.getElem?_eq_some_iff.mp e).1, e⟩
theorem crd_none {k n s : Nat} {p : List Int} (h : ¬ (s < 2 ^ n ∧ popcS s = k)) : crd k n p s = 0 := by unfold crd; rw [if_neg h]

theorem prop_crd {k n m : Nat} {p q : List Int} (hn : n ≤ 5) (hm : (setsTo k (2 ^ n)).length = m) : Prop2 (crd k n p) (crd k n q) 32 ↔ Prop2 (fun i => p.getD i 0) (fun i => q.getD i 0) m := by
  have hpw := pow_le5 hn
  have hget : ∀ i, i < m → ∃ s, s < 32 ∧ (setsTo k (2 ^ n))[i]? = some s := fun i hi => by
    have e : (setsTo k (2 ^ n))[i]? = some ((setsTo k (2 ^ n))[i]'(by omega)) := List.getElem?_eq_getElem _
    exact ⟨_, by have := (setsTo_idx k _ e).2.2; omega, e⟩
  constructor
  · rintro ⟨⟨i, hi, h1⟩, ⟨j, hj, h2⟩, h⟩
    refine ⟨?_, ?_, fun a b ha hb => ?_⟩
    · by_cases hc : i < 2 ^ n ∧ popcS i = k
      · obtain ⟨a, ha, e⟩ := crd_some p hc
        exact ⟨a, by omega, by rw [crd_at e] at h1; exact h1⟩
      · exact absurd (crd_none hc) h1
    · by_cases hc : j < 2 ^ n ∧ popcS j = k
      · obtain ⟨a, ha, e⟩ := crd_some q hc
        exact ⟨a, by omega, by rw [crd_at e] at h2; exact h2⟩
      · exact absurd (crd_none hc) h2
    · obtain ⟨s, hs, es⟩ := hget a ha
      obtain ⟨t, ht, et⟩ := hget b hb
      have := h s t hs ht
      rw [crd_at es, crd_at et, crd_at es, crd_at et] at this
      exact this
  · rintro ⟨⟨i, hi, h1⟩, ⟨j, hj, h2⟩, h⟩
    obtain ⟨s, hs, es⟩ := hget i hi
    obtain ⟨t, ht, et⟩ := hget j hj
    refine ⟨⟨s, hs, by rw [crd_at es]; exact h1⟩, ⟨t, ht, by rw [crd_at et]; exact h2⟩, fun a b ha hb => ?_⟩
    by_cases hc : a < 2 ^ n ∧ popcS a = k
    · by_cases hd : b < 2 ^ n ∧ popcS b = k
      · obtain ⟨x, hx, ex⟩ := crd_some p hc
        obtain ⟨y, hy, ey⟩ := crd_some p hd
        rw [crd_at ex, crd_at ey, crd_at ex, crd_at ey]
        exact h x y (by omega) (by omega)
      · rw [crd_none hd, crd_none hd, Int.mul_zero, Int.mul_zero]
    · rw [crd_none hc, crd_none hc, Int.zero_mul, Int.zero_mul]

end Go.Proofs.Ytbedkjpbdkgjpaa
end

section
/- The contract of impl.PlaceSame. -/
namespace Go.Proofs.Ytbedkjpbdkgjpaa
open Go.RowKit Go.Deep

/-- What proportional answers. -/
noncomputable def propB (C D : Nat → Int) : Bool := @decide (Prop2 C D 32) (Classical.propDecidable _)
theorem propB_yes {C D : Nat → Int} {b : Bool} (h : b = true ↔ Prop2 C D 32) : propB C D = b := by
  unfold propB
  cases b
  · exact @decide_eq_false _ (Classical.propDecidable _) (fun e => by have := h.mpr e; cases this)
  · exact @decide_eq_true _ (Classical.propDecidable _) (h.mp rfl)
theorem prop_zero {C D : Nat → Int} (h : eqA C (fun _ => 0) = true) : ¬ Prop2 C D 32 := fun ⟨⟨i, hi, hn⟩, _⟩ => hn (eqA_iff.mp h i hi)
theorem mul_bd {x y : Int} (h1 : inB x (-100000) 100000 = true) (h2 : inB y (-100000) 100000 = true) : -9223372036854775808 ≤ x * y ∧ x * y ≤ 9223372036854775807 := by
  simp [inB] at h1 h2
  have a1 : (x * y).natAbs ≤ 100000 * 100000 := by rw [Int.natAbs_mul]; exact Nat.mul_le_mul (by omega) (by omega)
  omega

set_option maxRecDepth 100000 in
set_option maxHeartbeats 4000000 in
theorem proportional_any (C D : Nat → Int) (w : World) (hC : fitB C = true) (hD : fitB D = true) :
    Calls Try.prog 53 #[.agg (arr C), .agg (arr D)] w fun e w' => e = .returned (.bool (propB C D)) ∧ w.Since w.heap.size w' := by
  have b2 : ArrAt ((w.alloc (.cells (arr C) 48)).alloc (.cells (arr D) 48)) w.heap.size C := (ArrAt.new _ _).alloc _
  have b3 : ArrAt ((w.alloc (.cells (arr C) 48)).alloc (.cells (arr D) 48)) (w.heap.size + 1) D := by
    have := ArrAt.new (w.alloc (.cells (arr C) 48)) D
    rwa [World.size_alloc] at this
  have hS : w.Since w.heap.size ((w.alloc (.cells (arr C) 48)).alloc (.cells (arr D) 48)) := ((World.Since.refl _ _).alloc (Nat.le_refl _) _).alloc (by simp) _
  have B2 := Lib.hid b2
  have B3 := Lib.hid b3
  have HS := Lib.hid hS
  clear b2 b3 hS
  cases h1 : eqA C (fun _ => 0) with
  | true =>
    have HR := Lib.hid (propB_yes (b := false) ⟨fun e => (by cases e), fun e => absurd e (prop_zero (D := D) h1)⟩)
    have H1 := Lib.hid h1
    clear h1 hC hD
    go_enter Try.func53, Try.ntmps53
    go_wp2_with (first
      | (with_reducible (show wpList _ _ _ (Oper.mk _ (Op.load _ _) 48 _ _ _ :: _) _ _); first | refine wpList_load_arrG rfl _ rfl w.heap.size rfl _ B2.out ?_ | refine wpList_load_arrG rfl _ rfl (w.heap.size + 1) rfl _ B3.out ?_)
      | (with_reducible (show wpList _ _ _ (Oper.mk _ (Op.binOp BinOp.eql 48 _ _ _) _ _ _ _ :: _) _ _); simp only [zero_lit]; refine wpList_eql_arr rfl _ _ _ rfl _ _ rfl rfl ?_; rw [H1.out]))
    go_ret
    exact ⟨by rw [HR.out] <;> rfl, HS.out⟩
  | false =>
  cases h2 : eqA D (fun _ => 0) with
  | true =>
    have HR := Lib.hid (propB_yes (b := false) ⟨fun e => (by cases e), fun e => absurd e.symm (prop_zero (D := C) h2)⟩)
    have H1 := Lib.hid h1
    have H2 := Lib.hid h2
    clear h1 h2 hC hD
    go_enter Try.func53, Try.ntmps53
    go_wp2_with (first
      | (with_reducible (show wpList _ _ _ (Oper.mk _ (Op.load _ _) 48 _ _ _ :: _) _ _); first | refine wpList_load_arrG rfl _ rfl w.heap.size rfl _ B2.out ?_ | refine wpList_load_arrG rfl _ rfl (w.heap.size + 1) rfl _ B3.out ?_)
      | (with_reducible (show wpList _ _ _ (Oper.mk _ (Op.binOp BinOp.eql 48 _ _ _) _ _ _ _ :: _) _ _); simp only [zero_lit]; refine wpList_eql_arr rfl _ _ _ rfl _ _ rfl rfl ?_; first | rw [H1.out] | rw [H2.out]))
    go_ret
    exact ⟨by rw [HR.out] <;> rfl, HS.out⟩
  | false =>
  rcases nzTo_spec C 32 with ⟨_, hz⟩ | ⟨f, l, hf, hl, h0⟩
  · have : eqA C (fun _ => 0) = true := eqA_iff.mpr hz
    rw [h1] at this
    cases this
  have HR := Lib.hid (propB_yes (propF_iff hf h0 h2))
  have EB := bases_any C
  rw [hl] at EB
  have hCf := (fitTo_iff 32).mp hC f hf
  have hDf := (fitTo_iff 32).mp hD f hf
  have ET1 := Lib.hid (fun (W : World) => times_any C (D f) W (fun i hi => mul_bd ((fitTo_iff 32).mp hC i hi) hDf))
  have ET2 := Lib.hid (fun (W : World) => times_any D (C f) W (fun i hi => mul_bd ((fitTo_iff 32).mp hD i hi) hCf))
  have H1 := Lib.hid h1
  have H2 := Lib.hid h2
  have ll : ((f : Int) :: l).length = l.length + 1 := rfl
  replace EB := Lib.hid EB
  clear h1 h2 hC hD hl h0 hCf hDf
  go_enter Try.func53, Try.ntmps53
  go_wp2_with (first
    | (with_reducible (show wpList _ _ _ (Oper.mk _ (Op.load _ _) 48 _ _ _ :: _) _ _); first | refine wpList_load_arrG rfl _ rfl w.heap.size rfl _ B2.out ?_ | refine wpList_load_arrG rfl _ rfl (w.heap.size + 1) rfl _ B3.out ?_)
    | (with_reducible (show wpList _ _ _ (Oper.mk _ (Op.binOp BinOp.eql 48 _ _ _) _ _ _ _ :: _) _ _); simp only [zero_lit]; refine wpList_eql_arr rfl _ _ _ rfl _ _ rfl rfl ?_; first | rw [H1.out] | rw [H2.out])
    | (go_at_call 54; refine (EB.out _).mono ?_; rintro e w3 ⟨v, rfl, hR⟩; have hRS := hR.since; obtain ⟨a3, c3, rfl, hG⟩ := hR.slice; obtain ⟨G, rfl, _, hG3⟩ := hG (by simp); have hcG := hG3.cell (i := 0) (by simp); simp only [List.getD_cons_zero] at hcG; have HRS := Lib.hid hRS; clear hR hRS hG hG3))
  have c2 := B2.out.since HRS.out
  have c3 := B3.out.since HRS.out
  have sn := HS.out.trans (since_mono HRS.out HS.out.size)
  clear HS B2 B3 HRS EB H1 H2 hcG
  have hf0 : (0 : Int) ≤ (f : Int) := by omega
  have hf1 : (f : Int) < 32 := by omega
  refine wp_region_held_drew (S := fun W => ArrAt W w.heap.size C ∧ ArrAt W (w.heap.size + 1) D ∧ w.Since w.heap.size W) (by kernel_rfl) ⟨c2, c3, sn.drew⟩ (fun hH => ?_)
  refine wpAnyH_take (i := 0) (v := .agg (arr C)) rfl (by kernel_rfl) (by kernel_rfl) (by kernel_rfl) (fun _ _ _ h => h) (yieldsIf_load_arr rfl _ rfl _ rfl C (fun _ h => h.1)) hH ?_
  simp only [Act.put]
  refine wpAnyH_take (i := 1) (v := .int .i64 f) rfl (by kernel_rfl) (by kernel_rfl) (by kernel_rfl) (fun _ _ _ h => h) (Or.inl ⟨by rfl, fun W' _ => by go_simp⟩) hH ?_
  simp only [Act.put]
  refine wpAnyH_take (i := 2) (v := .pointer (some ⟨w.heap.size + 1, f, none⟩)) rfl (by kernel_rfl) (by kernel_rfl) (by kernel_rfl) (fun _ _ _ h => h) (Or.inl ⟨by rfl, fun W' _ => by go_simp⟩) hH ?_
  simp only [Act.put]
  refine wpAnyH_take (i := 3) (v := .int .i64 (D f)) rfl (by kernel_rfl) (by kernel_rfl) (by kernel_rfl) (fun _ _ _ h => h) (Or.inl ⟨by rfl, fun W' h => by have hc := h.2.1.cell hf; go_simp⟩) hH ?_
  simp only [Act.put]
  refine wpAnyH_take (i := 5) (v := .agg (arr D)) rfl (by kernel_rfl) (by kernel_rfl) (by kernel_rfl) (fun _ _ _ h => h) (yieldsIf_load_arr rfl _ rfl _ rfl D (fun _ h => h.2.1)) hH ?_
  simp only [Act.put]
  refine wpAnyH_take (i := 6) (v := .int .i64 f) rfl (by kernel_rfl) (by kernel_rfl) (by kernel_rfl) (fun _ _ _ h => h) (Or.inl ⟨by rfl, fun W' _ => by go_simp⟩) hH ?_
  simp only [Act.put]
  refine wpAnyH_take (i := 7) (v := .pointer (some ⟨w.heap.size, f, none⟩)) rfl (by kernel_rfl) (by kernel_rfl) (by kernel_rfl) (fun _ _ _ h => h) (Or.inl ⟨by rfl, fun W' _ => by go_simp⟩) hH ?_
  simp only [Act.put]
  refine wpAnyH_take (i := 8) (v := .int .i64 (C f)) rfl (by kernel_rfl) (by kernel_rfl) (by kernel_rfl) (fun _ _ _ h => h) (Or.inl ⟨by rfl, fun W' h => by have hc := h.1.cell hf; go_simp⟩) hH ?_
  simp only [Act.put, List.setIfInBounds_toArray]
  refine wpAnyH_ready (rs := [4]) (by kernel_rfl) (by simp) (AllReadyH.cons rfl (fun K hK => ?_) AllReadyH.nil)
  go_simp
  go_at_call 78
  refine (ET1.out _).mono ?_
  rintro e w4 ⟨rfl, hs4⟩
  go_wp2_with fail
  have c4 := hH.1.since hs4
  have d4 := hH.2.1.since hs4
  have s4 := hH.2.2.trans (since_mono hs4 hH.2.2.size)
  refine hK.out _ _ ⟨c4, d4, s4⟩ (fun hH4 => ?_)
  clear hK K hH hs4 c2 c3 sn
  refine wpAnyH_ready (rs := [9]) (by kernel_rfl) (by simp) (AllReadyH.cons rfl (fun K hK => ?_) AllReadyH.nil)
  go_simp
  go_at_call 78
  refine (ET2.out _).mono ?_
  rintro e w5 ⟨rfl, hs5⟩
  go_wp2_with fail
  have c5 := c4.since hs5
  have d5 := d4.since hs5
  have s5 := s4.trans (since_mono hs5 s4.size)
  refine hK.out _ _ ⟨c5, d5, s5⟩ (fun _ => ?_)
  clear hK K hH4 c4 d4 s4 hs5
  refine wpAnyH_ready (rs := [10]) (by kernel_rfl) (by simp) (AllReadyH.cons rfl (fun K hK => ?_) AllReadyH.nil)
  rw [if_pos (by rfl)]
  refine wp_eql_arr _ _ _ rfl _ _ rfl rfl ?_
  refine hK.out _ _ ⟨c5, d5, s5⟩ (fun _ => ?_)
  clear hK K
  simp only [Act.put, List.setIfInBounds_toArray]
  refine wpAnyH_ready (rs := [11]) (by kernel_rfl) (by simp) (AllReadyH.cons rfl (fun K hK => ?_) AllReadyH.nil)
  go_simp
  refine hK.out _ _ ⟨c5, d5, s5⟩ (fun _ => ?_)
  clear hK K
  refine wpAnyH_done (by kernel_rfl) ?_ _
  go_wp2
  go_ret
  exact ⟨by rw [HR.out] <;> rfl, s5⟩

set_option maxRecDepth 100000 in
set_option maxHeartbeats 4000000 in
theorem implPlaceSame_any (k n : Int) (a : Option Addr) (cap m : Nat) (p : List Int) (a2 : Option Addr) (cap2 m2 : Nat) (q : List Int) (w : World) (hm : p.length = m) (_hmx : m ≤ 1048576) (hr : RowR w a p) (hm2 : q.length = m2) (_hmx2 : m2 ≤ 1048576) (hr2 : RowR w a2 q) :
    Calls Try.prog 26 #[.int .i64 k, .int .i64 n, .slice a m cap, .slice a2 m2 cap2] w fun e w' => e = .returned (.bool (sameB k n p q)) ∧ w.Since w.heap.size w' := by
  have E1 := told_any k n a cap m p w hm hr
  have E2 := fun (W : World) (hd : w.Since w.heap.size W) => told_any k n a2 cap2 m2 q W hm2 (hr2.since hd)
  unfold ToldP at E1 E2
  cases h1 : placeB k n p with
  | false =>
    have HR := Lib.hid (show sameB k n p q = false by unfold sameB; rw [h1]; rfl)
    obtain ⟨b, hb⟩ : ∃ b, placeB k n q = b := ⟨_, rfl⟩
    rw [h1] at E1
    rw [hb] at E2
    replace E1 := Lib.hid E1
    replace E2 := Lib.hid E2
    clear h1 hb hr hr2 hm hm2
    go_enter Try.func26, Try.ntmps26
    go_wp2_with (first
      | (go_at_call 46; first | (refine (E2.out _ (since_setRow (HS.out.alloc HS.out.size _) _ _ HS.out.size)).mono ?_; rintro e w3 ⟨D1, rfl, hs, -⟩; have HS3 := Lib.hid hs; clear hs) | (refine (E1.out).mono ?_; rintro e w2 ⟨C1, rfl, hs, -⟩; have HS := Lib.hid hs; clear hs))
      | (with_reducible (show wpList _ _ _ (Oper.mk _ (Op.store 48 _ _) _ _ _ _ :: _) _ _); rw [zero_lit]; refine wpList_store_arr rfl _ _ rfl _ rfl _ _ (ArrAt.new _ _) rfl ?_))
    go_ret
    have t1 := since_setRow (b := w2.heap.size) (HS.out.alloc HS.out.size (.cells (arr fun _ => 0) 48)) (cs := arr C1) HS.out.size
    have t2 := t1.trans (since_mono HS3.out t1.size)
    exact ⟨by rw [HR.out] <;> rfl, since_setRow (t2.alloc t2.size _) _ _ t2.size⟩
  | true =>
  cases h2 : placeB k n q with
  | false =>
    have HR := Lib.hid (show sameB k n p q = false by unfold sameB; rw [h2]; simp)
    rw [h1] at E1
    simp only [h2] at E2
    replace E1 := Lib.hid E1
    replace E2 := Lib.hid E2
    clear h1 h2 hr hr2 hm hm2
    go_enter Try.func26, Try.ntmps26
    go_wp2_with (first
      | (go_at_call 46; first | (refine (E2.out _ (since_setRow (HS.out.alloc HS.out.size _) _ _ HS.out.size)).mono ?_; rintro e w3 ⟨D1, rfl, hs, -⟩; have HS3 := Lib.hid hs; clear hs) | (refine (E1.out).mono ?_; rintro e w2 ⟨C1, rfl, hs, -⟩; have HS := Lib.hid hs; clear hs))
      | (with_reducible (show wpList _ _ _ (Oper.mk _ (Op.store 48 _ _) _ _ _ _ :: _) _ _); rw [zero_lit]; refine wpList_store_arr rfl _ _ rfl _ rfl _ _ (ArrAt.new _ _) rfl ?_))
    go_ret
    have t1 := since_setRow (b := w2.heap.size) (HS.out.alloc HS.out.size (.cells (arr fun _ => 0) 48)) (cs := arr C1) HS.out.size
    have t2 := t1.trans (since_mono HS3.out t1.size)
    exact ⟨by rw [HR.out] <;> rfl, since_setRow (t2.alloc t2.size _) _ _ t2.size⟩
  | true =>
    obtain ⟨k', n', rfl, rfl, _, _, h5, hlp, _⟩ := placeB_of h1
    obtain ⟨_, _, ek, en, _, _, _, hlq, _⟩ := placeB_of h2
    obtain rfl : k' = _ := by exact Int.ofNat.inj ek
    obtain rfl : n' = _ := by exact Int.ofNat.inj en
    have hf1 : fitB (crd k' n' p) = true := by rw [crd_fit h5 hlp]; exact decide_eq_true (by assumption)
    have hf2 : fitB (crd k' n' q) = true := by rw [crd_fit h5 hlq]; exact decide_eq_true (by assumption)
    have HR := Lib.hid (show sameB k' n' p q = propB (crd k' n' p) (crd k' n' q) by
      unfold sameB
      rw [h1, h2]
      exact (propB_yes (b := sameOk p q p.length) (by rw [sameOk_iff, prop_crd h5 hlp.symm])).symm)
    have EP := fun (W : World) => proportional_any _ _ W hf1 hf2
    rw [h1] at E1
    simp only [h2] at E2
    simp only [Int.toNat_natCast, forall_const] at E1 E2
    obtain ⟨C, hC⟩ : ∃ C, crd k' n' p = C := ⟨_, rfl⟩
    obtain ⟨D, hD⟩ : ∃ D, crd k' n' q = D := ⟨_, rfl⟩
    rw [hC] at E1
    simp only [hD] at E2
    rw [hC, hD] at EP HR
    replace E1 := Lib.hid E1
    replace E2 := Lib.hid E2
    replace EP := Lib.hid EP
    clear h1 h2 hr hr2 hm hm2 hC hD hf1 hf2 hlp hlq
    go_enter Try.func26, Try.ntmps26
    go_wp2_with (first
      | (go_at_call 46; first | (refine (E2.out _ (since_setRow (HS.out.alloc HS.out.size _) _ _ HS.out.size)).mono ?_; rintro e w3 ⟨D1, rfl, hs, rfl⟩; have HS3 := Lib.hid hs; clear hs) | (refine (E1.out).mono ?_; rintro e w2 ⟨C1, rfl, hs, rfl⟩; have HS := Lib.hid hs; clear hs))
      | (with_reducible (show wpList _ _ _ (Oper.mk _ (Op.store 48 _ _) _ _ _ _ :: _) _ _); rw [zero_lit]; refine wpList_store_arr rfl _ _ rfl _ rfl _ _ (ArrAt.new _ _) rfl ?_)
      | (with_reducible (show wpList _ _ _ (Oper.mk _ (Op.load _ _) 48 _ _ _ :: _) _ _); first | refine wpList_load_arrG rfl _ rfl _ rfl D1 (ArrAt.new _ _).row ?_ | refine wpList_load_arrG rfl _ rfl _ rfl C1 ((((ArrAt.new _ _).row.since HS3.out).alloc _).rowOther (Nat.ne_of_lt ((ArrAt.new _ _).row.since HS3.out).lt) _) ?_)
      | (go_at_call 53; refine (EP.out _).mono ?_; rintro e w4 ⟨rfl, hs4⟩; have HS4 := Lib.hid hs4; clear hs4))
    go_ret
    have t1 := since_setRow (b := w2.heap.size) (HS.out.alloc HS.out.size (.cells (arr fun _ => 0) 48)) (cs := arr C1) HS.out.size
    have t2 := t1.trans (since_mono HS3.out t1.size)
    have t3 := since_setRow (b := w3.heap.size) (t2.alloc t2.size (.cells (arr fun _ => 0) 48)) (cs := arr D1) t2.size
    exact ⟨by rw [HR.out] <;> rfl, t3.trans (since_mono HS4.out t3.size)⟩

end Go.Proofs.Ytbedkjpbdkgjpaa
end

section
/- The contract of impl.PlaceRelated: it lies in RelI. -/
namespace Go.Proofs.Ytbedkjpbdkgjpaa
end Go.Proofs.Ytbedkjpbdkgjpaa
end

section
/- The walk of laws.FnPlaceSame. -/
namespace Go.Proofs.Ytbedkjpbdkgjpaa
open Go.RowKit Go.Deep

theorem lowP_ne (p : List Int) (m : Nat) : ∀ j, j ≤ m → 0 ≤ lowP p m j → p.getD (lowP p m j).toNat 0 ≠ 0
  | 0, _, h => by simp [lowP] at h
  | j + 1, hj, h => by
    by_cases h0 : p.getD (m - (j + 1)) 0 = 0
    · rw [lowP_zero h0] at h ⊢
      exact lowP_ne p m j (by omega) h
    · rw [lowP_not h0, Int.toNat_natCast]
      exact h0
/-- What stands of two coordinates that are the same. -/
theorem same_laws {k n : Nat} {p q : List Int} (h : sameB k n p q = true) : placeB k n p = true ∧ placeB k n q = true ∧ basesP k n p = basesP k n q ∧ sameB k n q p = true ∧ relB k n p = relB k n q ∧ (basesP k n p).length ≤ 32 := by
  unfold sameB at h
  simp only [Bool.and_eq_true] at h
  obtain ⟨h1, h2, h3⟩ := h
  obtain ⟨k', n', e1, e2, hk1, hk2, h5, hl, hp⟩ := placeB_of h1
  obtain rfl : k = k' := by omega
  obtain rfl : n = n' := by omega
  obtain ⟨k', n', e3, e4, _, _, _, hl2, hp2⟩ := placeB_of h2
  obtain rfl : k = k' := by omega
  obtain rfl : n = n' := by omega
  have hlq : q.length = p.length := by omega
  unfold sameOk at h3
  simp only [Bool.and_eq_true, decide_eq_true_eq] at h3
  obtain ⟨a0, a1, a2⟩ := h3
  have hx := lowP_ne p p.length p.length (Nat.le_refl _) a0
  have hy := lowP_ne q p.length p.length (Nat.le_refl _) (by omega)
  rw [← a1] at hy
  have hc : ∀ s, s < 2 ^ n → popcS s = k → atP p s * q.getD (lowP p p.length p.length).toNat 0 = atP q s * p.getD (lowP p p.length p.length).toNat 0 := fun s hs hk => by
    unfold atP
    exact a2 _ (by rw [hl, hk]; exact (List.getElem?_eq_some_iff.mp (setsTo_pos k (2 ^ n) hs hk)).1)
  obtain ⟨x, ex⟩ : ∃ x, p.getD (lowP p p.length p.length).toNat 0 = x := ⟨_, rfl⟩
  obtain ⟨y, ey⟩ : ∃ y, q.getD (lowP p p.length p.length).toNat 0 = y := ⟨_, rfl⟩
  rw [ex] at hx
  rw [ey] at hy
  simp only [ex, ey] at hc
  refine ⟨h1, h2, ?_, ?_, ?_, ?_⟩
  · rw [basesP_eq, basesP_eq]
    congr 1
    refine List.filter_congr fun s hs => ?_
    obtain ⟨g1, g2⟩ := (setsTo_mem _).1 hs
    have := hc s g1 g2
    rw [decide_eq_decide]
    constructor
    · intro h0 hq0
      rw [hq0, Int.zero_mul] at this
      rcases Int.mul_eq_zero.mp this with h | h
      · exact h0 h
      · exact hy h
    · intro h0 hq0
      rw [hq0, Int.zero_mul] at this
      rcases Int.mul_eq_zero.mp this.symm with h | h
      · exact h0 h
      · exact hx h
  · unfold sameB sameOk
    rw [h1, h2, hlq]
    simp only [Bool.true_and, Bool.and_eq_true, decide_eq_true_eq]
    refine ⟨by omega, a1.symm, fun i hi => ?_⟩
    rw [← a1]
    exact (a2 i hi).symm
  · have hr : Rel k n p ↔ Rel k n q := ⟨fun h => same_rel (x := y) hx (fun s hs hk => (hc s hs hk).symm) h5 h, fun h => same_rel (x := x) hy hc h5 h⟩
    unfold relB
    rw [h1, h2]
    simp only [Int.toNat_natCast, Bool.true_and]
    rw [Bool.eq_iff_iff, relOk_iff hk1, relOk_iff hk1]
    exact hr
  · have e1 := basesTo_le k (2 ^ n) p (setsTo k (2 ^ n)).length
    have e2 := setsTo_len k (2 ^ n)
    have := pow_le5 h5
    unfold basesP
    omega

set_option maxRecDepth 100000 in
set_option maxHeartbeats 2000000 in
theorem fnPlaceSame (a : Option Addr) (cap n : Nat) (w : World) (hc : n ≤ cap) (h63 : cap ≤ 9223372036854775807) (hb : BytR w a n) :
    Calls Try.prog 11 #[.slice a n cap] w fun e w' => e = .returned (.bool true) ∧ w.Since w.heap.size w' := by
  by_cases hlen : 1048576 < n
  · have hl' : decide ((1048576 : Int) < (n : Int)) = true := by simp; omega
    clear hb
    go_enter Try.func11, Try.ntmps11
    go_wp2
    go_ret
    exact ⟨rfl, World.Since.refl _ _⟩
  · have hl' : decide ((1048576 : Int) < (n : Int)) = false := by simp; omega
    have ED := Lib.hid (drawPlaceSame_any a n cap w hc h63 hb)
    clear hb
    go_enter Try.func11, Try.ntmps11
    go_wp2_with fail
    refine (ED.out).mono ?_
    rintro e w1 ⟨k, m, p, pa, pc, q, qa, qc, rfl, hs1, hk5, hm7, hp32, hql, hrp, hrq⟩
    have hsl := @same_laws k m p q
    have E1 := fun (W : World) (h : w1.Since w1.heap.size W) => implPlaceSame_any k m pa pc p.length p qa qc p.length q W rfl (by omega) (hrp.since h) hql (by omega) (hrq.since h)
    have E2 := fun (W : World) (h : w1.Since w1.heap.size W) => specPlaceSame_any k m pa pc p.length p qa qc p.length q W rfl (by omega) (hrp.since h) hql (by omega) (hrq.since h)
    have E3 := fun (W : World) (h : w1.Since w1.heap.size W) => implPlaceBases_any k m pa pc p.length p W rfl (by omega) (hrp.since h)
    have E4 := fun (W : World) (h : w1.Since w1.heap.size W) => implPlaceBases_any k m qa qc p.length q W hql (by omega) (hrq.since h)
    have E5 := fun (W : World) (h : w1.Since w1.heap.size W) => implPlaceSame_any k m qa qc p.length q pa pc p.length p W hql (by omega) (hrq.since h) rfl (by omega) (hrp.since h)
    have E6 := fun (W : World) (h : w1.Since w1.heap.size W) => implPlaceRelated_any k m pa pc p.length p W rfl (by omega) (hrp.since h)
    have E7 := fun (W : World) (h : w1.Since w1.heap.size W) => implPlaceRelated_any k m qa qc p.length q W hql (by omega) (hrq.since h)
    simp only [Int.toNat_natCast] at E3 E4
    unfold POwn at E3 E4
    obtain ⟨ok, hok⟩ : ∃ ok, sameB k m p q = ok := ⟨_, rfl⟩
    obtain ⟨L, hL⟩ : ∃ L, p.length = L := ⟨_, rfl⟩
    rw [hok] at hsl
    simp only [hok, hL] at E1 E2
    simp only [hL] at E3 E4 E5 E6 E7
    rw [hL] at hp32 ⊢
    replace E1 := Lib.hid E1
    replace E2 := Lib.hid E2
    replace E3 := Lib.hid E3
    replace E4 := Lib.hid E4
    replace E5 := Lib.hid E5
    replace E6 := Lib.hid E6
    replace E7 := Lib.hid E7
    have HSL := Lib.hid hsl
    have HS1 := Lib.hid hs1
    clear hok hL hsl hrp hrq hs1 hql
    have d1 : w1.Since w1.heap.size w1 := World.Since.refl _ _
    go_wp2_with fail
    refine (E1.out _ d1).mono ?_
    rintro e w2 ⟨rfl, hs2⟩
    have d2 := d1.trans (since_mono hs2 d1.size)
    have HD2 := Lib.hid d2
    clear hs2 d2 d1
    go_wp2_with fail
    refine (E2.out _ HD2.out).mono ?_
    rintro e w3 ⟨rfl, hs3⟩
    have d3 := HD2.out.trans (since_mono hs3 HD2.out.size)
    have HD3 := Lib.hid d3
    clear hs3 d3
    cases ok with
    | false =>
      go_wp2
      go_ret
      exact ⟨rfl, HS1.out.trans (since_mono HD3.out HS1.out.size)⟩
    | true =>
      obtain ⟨o1, o2, o3, o4, o5, o6⟩ := HSL.out rfl
      have E3' := E3.out
      have E4' := E4.out
      have E5' := E5.out
      have E6' := E6.out
      have E7' := E7.out
      clear E3 E4 E5 E6 E7
      rw [o4] at E5'
      rw [o5] at E6'
      rw [o1] at E3'
      rw [o2] at E4'
      simp only [if_true] at E3' E4'
      rw [← o3] at E4'
      obtain ⟨M, hM⟩ : ∃ M, basesP k m p = M := ⟨_, rfl⟩
      rw [hM] at E3' E4' o6
      obtain ⟨r, hr⟩ : ∃ r, relB k m q = r := ⟨_, rfl⟩
      rw [hr] at E6' E7'
      obtain ⟨lm, hlm⟩ : ∃ x, M.length = x := ⟨_, rfl⟩
      rw [hlm] at E3' E4' o6
      have E3 := Lib.hid E3'
      have E4 := Lib.hid E4'
      have E5 := Lib.hid E5'
      have E6 := Lib.hid E6'
      have E7 := Lib.hid E7'
      have HLM := Lib.hid hlm
      clear o1 o2 o3 o4 o5 E3' E4' E5' E6' E7' hM hr hlm HSL
      go_wp2_with fail
      refine (E3.out _ HD3.out).mono ?_
      rintro e w4 ⟨xa, xc, rfl, hs4, hx4⟩
      have HD4 := Lib.hid (HD3.out.trans (since_mono hs4 HD3.out.size))
      have HX4 := Lib.hid hx4.rowR
      clear hs4 hx4
      go_wp2_with fail
      refine (E4.out _ HD4.out).mono ?_
      rintro e w5 ⟨ya, yc, rfl, hs5, hy5⟩
      have HD5 := Lib.hid (HD4.out.trans (since_mono hs5 HD4.out.size))
      have HX5 := Lib.hid (HX4.out.since hs5)
      have HY5 := Lib.hid hy5.rowR
      clear hs5 hy5
      go_wp2_with fail
      refine (sameInts_same xa ya xc yc lm M w5 HLM.out (by omega) HX5.out HY5.out).mono ?_
      rintro e w6 ⟨rfl, hd6⟩
      have HD6 := Lib.hid (HD5.out.trans (since_mono (hd6.since w5.heap.size) HD5.out.size))
      clear hd6
      go_wp2_with fail
      refine (E5.out _ HD6.out).mono ?_
      rintro e w7 ⟨rfl, hs7⟩
      have HD7 := Lib.hid (HD6.out.trans (since_mono hs7 HD6.out.size))
      clear hs7
      go_wp2_with fail
      refine (E6.out _ HD7.out).mono ?_
      rintro e w8 ⟨rfl, hs8⟩
      have HD8 := Lib.hid (HD7.out.trans (since_mono hs8 HD7.out.size))
      clear hs8
      go_wp2_with fail
      refine (E7.out _ HD8.out).mono ?_
      rintro e w9 ⟨rfl, hs9⟩
      have HD9 := Lib.hid (HD8.out.trans (since_mono hs9 HD8.out.size))
      clear hs9
      go_wp2
      go_ret
      exact ⟨rfl, HS1.out.trans (since_mono HD9.out HS1.out.size)⟩

end Go.Proofs.Ytbedkjpbdkgjpaa
end

section
/- What an argument reads as, in the words of the walks; the last step of a row. -/
namespace Go.Proofs.Ytbedkjpbdkgjpaa
open Go.ChangeShapes Go.WideShapes Go.ChangeAt Go.RowKit Go.Deep

theorem below_since' {B : Nat} {w w' : World} (h : Below B w w') : w.Since B w' := ⟨h.os, h.tape, h.output, h.size, h.block⟩
theorem since_below' {B : Nat} {w w' : World} (h : w.Since B w') : Below B w w' := ⟨h.os, h.tape, h.output, h.size, h.block⟩

section
variable {H : Type} {enc : TypeId × Value → H} {P : Program}
theorem post_of_below {f : Func} {s : ChangeSpec} {apart fresh handsOn again : Bool} {W W' : World} {args : Array Value} {v : Value} {ds gs : List (DataW H)} {before pa pv : List MemPlace}
    (hW : DataW.Whole enc P f.params.toList s.vars apart W args.toList ds gs before)
    (hres : ∀ (b : Nat) (sp : Nat → Bool) (hd : Bool), DataW.TrodAll enc P W' b sp hd f.resultTypes.toList (v.resultList f.resultTypes.size) (s.fn H (ds ++ gs)).results [])
    (hargs : ∀ sp : Nat → Bool, (∀ p ∈ before, sp p.block = true) → DataW.TrodAll enc P W' 0 sp true f.params.toList args.toList (s.fn H (ds ++ gs)).args pa)
    (hvars : ∀ sp : Nat → Bool, (∀ p ∈ before, sp p.block = true) → DataW.TrodVars enc P W' sp s.vars (s.fn H (ds ++ gs)).vars pv)
    (hps : before = pa ++ pv) (hb : Below W.heap.size W W') (hag : again = false) :
    s.post enc P f apart fresh handsOn again W args v W' := by
  have hlt : ∀ p ∈ before, p.block < W.heap.size := fun p hp => hW.lt p hp
  have hold : ∀ p ∈ before, (fun b => decide (b < W.heap.size)) p.block = true := fun p hp => by simpa using hlt p hp
  refine ⟨ds, gs, before, [], pa, pv, hW, hres _ _ _, hargs _ hold, hvars _ hold, World.keptBut_mono (fun p hp => ⟨hp, ?_⟩) (hb.frame (· ∈ before)), fun h => ?_⟩
  · rw [hps, List.mem_append] at hp
    exact Or.inr hp
  · rw [hag] at h; cases h

/-- An argument of slices of integers reads as a list of lists. -/
theorem open_mat {W : World} {t e q : TypeId} {a : Option Addr} {n cap : Nat} {d : DataW H} {p : List MemPlace} (ht : P.underlying t = some (.slice e)) (he : P.underlying e = some (.slice q)) (hq : P.underlying q = some (.int .i64))
    (ce : P.cellsOf e = 1) (cq : P.cellsOf q = 1) (h : DataW.Trod enc P W 0 (fun _ => true) true t (.slice a n cap) d p) :
    ∃ l : List (List Int), l.length = n ∧ MatR W a l ∧ n ≤ 9223372036854775807 ∧ ∀ r, r < l.length → (l.getD r []).length ≤ 9223372036854775807 := by
  obtain ⟨fuel, hf⟩ := h
  rcases open_int_rows ht he hq ce cq hf with ⟨hcs, _⟩ | ⟨a', len', cap', A, L, C, Z, hcs, _, hl, hm, _, hrows⟩
  · simp [Value.cells] at hcs
    obtain ⟨rfl, rfl, rfl⟩ := hcs
    exact ⟨[], rfl, (fun h => by simp at h), by omega, fun r hr => by simp at hr⟩
  · simp [Value.cells] at hcs
    obtain ⟨rfl, rfl, rfl⟩ := hcs
    have hmx : maxLen = 9223372036854775807 := rfl
    have hlen : ∀ r, r < n → ((Z r).take (L r)).length = L r := fun r hr => by
      obtain ⟨_, h1, _, h2, _⟩ := hrows r (by omega)
      rw [List.length_take]; omega
    have hget : ∀ r, r < n → ((List.range n).map fun r => (Z r).take (L r)).getD r [] = (Z r).take (L r) := fun r hr => by simp [List.getD, hr]
    refine ⟨(List.range n).map fun r => (Z r).take (L r), by simp, fun h => ?_, by omega, fun r hr => ?_⟩
    · obtain ⟨b, o, spot⟩ := a'
      simp at h
      have hspot : spot = none := by simpa [Addr.add] using World.cell?_spot (hrows 0 (by omega)).1
      subst hspot
      refine ⟨b, o, A, C, rfl, fun r hr => ?_⟩
      simp at hr
      rw [hget r hr, hlen r hr]
      obtain ⟨g1, g2, g3, g4, g5, g6, g7⟩ := hrows r (by omega)
      refine ⟨by rw [← add_plain]; exact g1, fun h0 => ?_⟩
      rw [hlen r hr] at h0
      cases hA : A r with
      | none => have := g6 hA; omega
      | some a'' =>
        obtain ⟨_, hcell⟩ := g7 a'' hA
        obtain ⟨b', o', sp⟩ := a''
        have hs : sp = none := by simpa [Addr.add] using World.cell?_spot (hcell 0 (by omega))
        subst hs
        refine ⟨b', o', rfl, fun i hi => ?_⟩
        rw [hlen r hr] at hi
        rw [← add_plain, hcell i (by omega)]
        congr 2
        simp [List.getD, hi]
    · simp at hr
      rw [hget r hr, hlen r hr]
      obtain ⟨_, h1, h2, _⟩ := hrows r (by omega)
      omega
end

theorem Try.own : ownKnob Try.prog.godebug = none := by kernel_rfl
theorem Try.laidOut : laidOutB Try.prog = true := by kernel_rfl
theorem Try.cellsR : Try.prog.cellsOf 22 = 1 := by kernel_rfl
theorem Try.cellsI : Try.prog.cellsOf 3 = 1 := by kernel_rfl

end Go.Proofs.Ytbedkjpbdkgjpaa
end

section
/- An argument of bytes reads as bytes. -/
namespace Go.Proofs.Ytbedkjpbdkgjpaa
open Go.ChangeShapes Go.WideShapes Go.ChangeAt Go.RowKit Go.Deep

theorem wf_u8_of {n : Int} (h : (Lit.int .u8 n).wf = true) : 0 ≤ n ∧ n ≤ 255 := by
  have h2 : (0 : Int) ≤ n ∧ n ≤ 255 := by simpa [Lit.wf, IntKind.min, IntKind.max, IntKind.signed, IntKind.bits] using h
  exact h2

theorem open_bytes {H : Type} {enc : TypeId × Value → H} {P : Program} {W : World} {t e : TypeId} {a : Option Addr} {n cap : Nat} {d : DataW H} {p : List MemPlace} (ht : P.underlying t = some (.slice e)) (he : P.underlying e = some (.int .u8)) (ce : P.cellsOf e = 1)
    (h : DataW.Trod enc P W 0 (fun _ => true) true t (.slice a n cap) d p) : BytR W a n ∧ n ≤ cap ∧ cap ≤ 9223372036854775807 := by
  obtain ⟨fuel, hf⟩ := h
  rcases open_ints ht he ce hf with ⟨hcs, _⟩ | ⟨a', len, cap', zs, hcs, _, hl, hm, hlen, _, hcell, hwf⟩
  · simp [Value.cells] at hcs
    obtain ⟨rfl, rfl, rfl⟩ := hcs
    exact ⟨fun h => absurd h (by omega), by omega, by omega⟩
  · simp [Value.cells] at hcs
    obtain ⟨rfl, rfl, rfl⟩ := hcs
    have hmx : maxLen = 9223372036854775807 := rfl
    have hzl : zs.length = cap := by simpa using hlen
    refine ⟨fun h0 => ?_, by omega, by omega⟩
    obtain ⟨b, o, spot⟩ := a'
    have hspot : spot = none := by simpa [Addr.add] using World.cell?_spot (hcell 0 (by omega))
    subst hspot
    refine ⟨b, o, rfl, fun i hi => ?_⟩
    have hi' : i < zs.length := by omega
    have hw := wf_u8_of (hwf (zs.getD i 0) (by simp [List.getD, hi']))
    obtain ⟨z, hz⟩ := Int.eq_ofNat_of_zero_le hw.1
    refine ⟨z, by omega, ?_⟩
    rw [← add_plain, hcell i hi', hz]

theorem Try.cellsB : Try.prog.cellsOf 5 = 1 := by kernel_rfl

end Go.Proofs.Ytbedkjpbdkgjpaa
end

section
/- The statement FnPlaceSame, proved: for every input the law returns true and the argument reads as before. No conditions. -/
namespace Go.Proofs.Ytbedkjpbdkgjpaa
open Go.ChangeShapes Go.WideShapes Go.ChangeAt Go.RowKit Go.Deep

set_option maxRecDepth 100000 in
theorem lifted_FnPlaceSame (os : Os) (started : os.Started) (H : Type) (enc : TypeId × Value → H) :
    ReturnsInHanded {} Try.checked os 11 .any (Rows.fnPlaceSameSpec.pre6 enc Try.prog Try.f11 Rows.fnPlaceSameRow.domain false) (Rows.fnPlaceSameSpec.post enc Try.prog Try.f11 false true false false) := by
  refine returnsInHanded_of_change (C := Try.checked) Try.own started (by kernel_rfl) Try.func11
    (ChangeSpec.witness6 (enc := enc) (C := Try.checked) false ⟨#[], #[.slice none 0 0], []⟩ 8 (by kernel_rfl) (by kernel_rfl) (by kernel_rfl) (by kernel_rfl)) ?_
  intro W base args ds gs before hval0 hW _ _
  have hval : ∀ (j : Nat) t v, Try.f11.params[j]? = some t → args[j]? = some v → Value.okWide Try.prog W .any base t v := hval0
  have hW' := hW
  obtain ⟨p, q, hA0, hV, rfl, hfz, hnd⟩ := hW
  have hA : DataW.TrodAll enc Try.prog W 0 (fun _ => true) true Try.f11.params.toList args.toList ds p := hA0
  rw [Try.params11] at hA hval
  obtain ⟨v0, d0, rfl, rfl, h0⟩ := trodAll_one hA
  obtain ⟨p0, hp0⟩ : ∃ p0, p0 = p := ⟨_, rfl⟩
  subst hp0
  obtain ⟨rfl, rfl⟩ := trodVars_none hV
  obtain ⟨a0, n0, cap0, rfl⟩ := okWide_slice Try.underlying30 (hval 0 30 v0 rfl rfl)
  obtain ⟨hb0, hc0, h630⟩ := open_bytes Try.underlying30 Try.underlying5 Try.cellsB h0
  clear hA0 hval0
  simp only [List.append_nil] at hW'
  have hlt0 : ∀ x ∈ p0, x.block < W.heap.size := fun x hx => hW'.lt x (by simp [hx])
  refine (fnPlaceSame a0 cap0 n0 W hc0 h630 hb0).mono fun e W' ⟨he, hs⟩ => ?_
  subst he
  have hb := since_below' hs
  have ht0 : ∀ sp : Nat → Bool, (∀ x ∈ p0, sp x.block = true) → DataW.Trod enc Try.prog W' 0 sp true 30 (.slice a0 n0 cap0) d0 p0 := fun sp hsp =>
    WideElems.Trod_stays Try.laidOut (by kernel_rfl) (of_decide_eq_true (by kernel_rfl)) h0 (fun x hx => hb.same (hlt0 x hx)) hsp
  have hargs : ∀ sp : Nat → Bool, (∀ x ∈ (p0), sp x.block = true) → DataW.TrodAll enc Try.prog W' 0 sp true [30] [.slice a0 n0 cap0] [d0] (p0) := fun sp hsp => by
    have := trodAll_mk1 (enc := enc) (P := Try.prog) (w := W') (base := 0) (spare := sp) (held := true) (ht0 sp (fun x hx => hsp x (by simp [hx])))
    simpa using this
  exact ⟨_, rfl, post_of_below (pa := p0) (pv := []) hW' (fun _ _ _ => trodAll_mk1 (shut_bool Try.underlying4 true)) (fun sp hsp => hargs sp (fun x hx => hsp x (by simpa using hx))) (fun _ _ => rfl) (by simp) hb rfl⟩

theorem FnPlaceSame_holds : Rows.FnPlaceSameSaid :=
  OpenClaim.holds_of_wide 11 Try.f11 rfl rfl rfl rfl rfl rfl rfl ⟨rfl, rfl, rfl, rfl, rfl⟩ rfl rfl rfl rfl rfl (by kernel_rfl) Try.func11 (by kernel_rfl)
    (of_decide_eq_true (by kernel_rfl)) (by unfold Func.isWrapper; first | (rw [if_pos (by decide +kernel)]; kernel_rfl) | (rw [if_neg (by decide +kernel)]; exact ⟨rfl, rfl⟩))
    (fun os started H enc _ => lifted_FnPlaceSame os started H enc)

end Go.Proofs.Ytbedkjpbdkgjpaa
end
