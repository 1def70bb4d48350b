import Derived.Test.YtbedkjpbdkgjpaaMark
import Derived.Test.YtbedkjpbdkgjpaaPlaceR
import Derived.Maps.AppendAt
import Derived.Test.YtbedkjpbdkgjpaaL3Table
import Derived.Test.YtbedkjpbdkgjpaaTurnSpec
import Derived.Deep.QuietTactic
import Derived.Deep.AppendLies
import Derived.Deep.RegionHeld3
import Derived.Test.YtbedkjpbdkgjpaaHarn2
import Derived.Test.YtbedkjpbdkgjpaaRelI
import Derived.Test.YtbedkjpbdkgjpaaTold
import Derived.Test.YtbedkjpbdkgjpaaRows
import Derived.Test.YtbedkjpbdkgjpaaData
import Derived.ProofKit
import Derived.Deep.Matrix

section
/- Rows that a call has made in a block of its own: what is said of them, how they stay, and what marking them does. -/
namespace Go.Proofs.Ytbedkjpbdkgjpaa
open Go.RowKit Go.Deep

/-- A row that reads as x, in the blocks from lo to hi. -/
def InR (lo hi : Nat) (w : World) (a : Option Addr) (x : List Int) : Prop :=
  0 < x.length → ∃ g o : Nat, a = some ⟨g, o, none⟩ ∧ (lo ≤ g ∧ g < hi) ∧ ∀ i, i < x.length → w.cell? ⟨g, o + i, none⟩ = some (.int .i64 (x.getD i 0))
/-- .. in a block of its own that may be written. -/
def OwnR (lo hi : Nat) (w : World) (a : Option Addr) (x : List Int) : Prop :=
  0 < x.length → ∃ g : Nat, a = some ⟨g, 0, none⟩ ∧ (lo ≤ g ∧ g < hi) ∧ ∀ i, i < x.length → w.cell? ⟨g, i, none⟩ = some (.int .i64 (x.getD i 0)) ∧ w.frozen? ⟨g, i, none⟩ = false
theorem OwnR.inR {lo hi : Nat} {w : World} {a : Option Addr} {x : List Int} (h : OwnR lo hi w a x) : InR lo hi w a x := fun h0 => by
  obtain ⟨g, e, hg, hc⟩ := h h0
  exact ⟨g, 0, e, hg, fun i hi => by rw [Nat.zero_add]; exact (hc i hi).1⟩
theorem InR.rowR {lo hi : Nat} {w : World} {a : Option Addr} {x : List Int} (h : InR lo hi w a x) : RowR w a x := fun h0 => by
  obtain ⟨g, o, e, _, hc⟩ := h h0
  exact ⟨g, o, e, hc⟩
theorem OwnR.rowR {lo hi : Nat} {w : World} {a : Option Addr} {x : List Int} (h : OwnR lo hi w a x) : RowR w a x := h.inR.rowR
theorem InR.nil (lo hi : Nat) (w : World) (a : Option Addr) : InR lo hi w a [] := fun h => by simp at h
theorem OwnR.nil (lo hi : Nat) (w : World) (a : Option Addr) : OwnR lo hi w a [] := fun h => by simp at h
theorem InR.mono {lo hi lo' hi' : Nat} {w : World} {a : Option Addr} {x : List Int} (h : InR lo hi w a x) (h1 : lo' ≤ lo) (h2 : hi ≤ hi') : InR lo' hi' w a x := fun h0 => by
  obtain ⟨g, o, e, hg, hc⟩ := h h0
  exact ⟨g, o, e, by omega, hc⟩
theorem OwnR.mono {lo hi lo' hi' : Nat} {w : World} {a : Option Addr} {x : List Int} (h : OwnR lo hi w a x) (h1 : lo' ≤ lo) (h2 : hi ≤ hi') : OwnR lo' hi' w a x := fun h0 => by
  obtain ⟨g, e, hg, hc⟩ := h h0
  exact ⟨g, e, by omega, hc⟩
theorem InR.frame {lo hi lo' hi' : Nat} {w w' : World} {a : Option Addr} {x : List Int} (h : InR lo hi w a x) (hf : Frame lo' hi' w w') (hd : hi ≤ lo' ∨ hi' ≤ lo) : InR lo hi w' a x := fun h0 => by
  obtain ⟨g, o, e, hg, hc⟩ := h h0
  exact ⟨g, o, e, hg, fun i hi1 => hf.cell (hc i hi1) (by show g < lo' ∨ hi' ≤ g; omega)⟩
theorem OwnR.frame {lo hi lo' hi' : Nat} {w w' : World} {a : Option Addr} {x : List Int} (h : OwnR lo hi w a x) (hf : Frame lo' hi' w w') (hd : hi ≤ lo' ∨ hi' ≤ lo) : OwnR lo hi w' a x := fun h0 => by
  obtain ⟨g, e, hg, hc⟩ := h h0
  exact ⟨g, e, hg, fun i hi1 => ⟨hf.cell (hc i hi1).1 (by show g < lo' ∨ hi' ≤ g; omega), (hf.frozen (hc i hi1).1 (by show g < lo' ∨ hi' ≤ g; omega)).trans (hc i hi1).2⟩⟩
theorem InR.since {lo hi : Nat} {w w' : World} {a : Option Addr} {x : List Int} (h : InR lo hi w a x) (hs : w.Since w.heap.size w') : InR lo hi w' a x := h.frame (frame_since hs hi hi) (.inl (Nat.le_refl _))
theorem OwnR.since {lo hi : Nat} {w w' : World} {a : Option Addr} {x : List Int} (h : OwnR lo hi w a x) (hs : w.Since w.heap.size w') : OwnR lo hi w' a x := h.frame (frame_since hs hi hi) (.inl (Nat.le_refl _))
theorem RowMade.ownR {w wr : World} {l : List Int} (h : RowMade w wr l l.length) : OwnR w.heap.size wr.heap.size wr (some ⟨w.heap.size, 0, none⟩) l := fun _ => by
  have hs := h.size
  refine ⟨w.heap.size, rfl, by omega, fun i hi => ⟨?_, h.row.frozen i⟩⟩
  have := h.row.cell (i := i) hi
  rw [if_pos hi] at this
  exact this

/-- A copy of a row. -/
theorem toIntR_any (a : Option Addr) (cap n : Nat) (l : List Int) (w : World) (hn : l.length = n) (hn1 : n ≤ 1048576) (hm : RowR w a l) :
    Calls Try.prog 16 #[.slice a n cap] w fun e w' => e = .returned (.slice (some ⟨w.heap.size, 0, none⟩) n n) ∧ w.Since w.heap.size w' ∧ OwnR w.heap.size w'.heap.size w' (some ⟨w.heap.size, 0, none⟩) l := by
  subst hn
  exact (toIntS_any a cap l w hn1 hm).mono fun _ _ h => ⟨h.1, h.2.since, h.2.ownR⟩

/-- A row of one's own is marked. -/
theorem markR_any (a : Option Addr) (lo hi cap m : Nat) (k : Int) (x : List Int) (w : World) (hx : x.length = m) (h0 : 0 ≤ k) (hk : k + m ≤ 4000000) (h : OwnR lo hi w a x) :
    Calls Try.prog 23 #[.slice a m cap, .int .i64 k] w fun e w' => e = .returned (.int .i64 (k + m)) ∧ OwnR lo hi w' a (markRow k m) ∧ Frame lo hi w w' ∧ w'.heap.size = w.heap.size := by
  by_cases h1 : 0 < m
  · obtain ⟨g, e, hg, hc⟩ := h (by omega)
    refine (markIntS_any a g cap m k x w hx h0 hk (fun _ => e) (fun i hi => (hc i (by omega)).1) (fun i hi => (hc i (by omega)).2)).mono ?_
    rintro r w' ⟨rfl, hM⟩
    refine ⟨rfl, fun _ => ⟨g, e, hg, fun i hi => ?_⟩, hM.frame (.inl hg), hM.size⟩
    rw [markRow_length] at hi
    refine ⟨?_, hM.frozen i hi⟩
    rw [hM.cell i hi, if_pos hi, markRow_get _ _ _ hi]
  · have hm : m = 0 := by omega
    subst hm
    have hxe : x = [] := List.length_eq_zero_iff.1 hx
    clear h
    go_enter Try.func23, Try.ntmps23
    go_wp2
    go_loopg [1, 5] 0 (fun g q i wr => q = .int .i64 k ∧ i = .int .i64 0 ∧ wr = w)
    case atStart => exact ⟨rfl, rfl, rfl⟩
    case round =>
      obtain ⟨rfl, rfl, rfl⟩ := hrel
      go_wp2
      go_ret
      exact ⟨ret_int (by simp), OwnR.nil _ _ _ _, Frame.refl _ _ _, rfl⟩

end Go.Proofs.Ytbedkjpbdkgjpaa
end

section
/- The contract of spec.PlaceBases. -/
namespace Go.Proofs.Ytbedkjpbdkgjpaa
open Go.RowKit Go.Deep

/-- A row and whether there is one. -/
def PRes (w : World) (ok : Bool) (x : List Int) (e : Ending) (w' : World) : Prop :=
  ∃ a c, e = .returned (.tuple #[.slice a (if ok = true then x.length else 0) c, .bool ok]) ∧ w.Since w.heap.size w' ∧ InR w.heap.size w'.heap.size w' a (if ok = true then x else [])
theorem pres_no {w w' : World} {x : List Int} {a : Option Addr} {c : Nat} {e : Ending} (he : e = .returned (.tuple #[.slice a 0 c, .bool false])) (hs : w.Since w.heap.size w') : PRes w false x e w' :=
  ⟨a, c, he, hs, fun h => absurd h (by simp)⟩
theorem pres_yes {w wr w' : World} {x : List Int} {v : Value} {e : Ending} (h : RB wr w' v x) (hs : w.Since w.heap.size wr) (he : e = .returned (.tuple #[v, .bool true])) : PRes w true x e w' := by
  obtain ⟨a, cp, rfl, hr⟩ := h.slice
  refine ⟨a, cp, he, hs.trans (since_mono h.since hs.size), fun h0 => ?_⟩
  obtain ⟨G, e2, hG, h3⟩ := hr h0
  exact ⟨G, 0, e2, ⟨Nat.le_trans hs.size hG, h3.lt⟩, fun i hi => by rw [Nat.zero_add]; exact h3.cell hi⟩
/-- .. in the form that the laws' walks take. -/
theorem PRes.out {w w' : World} {ok : Bool} {x : List Int} {e : Ending} (h : PRes w ok x e w') :
    ∃ a cap, e = .returned (.tuple #[.slice a (if ok = true then x else []).length cap, .bool ok]) ∧ w.Since w.heap.size w' ∧ InR w.heap.size w'.heap.size w' a (if ok = true then x else []) := by
  obtain ⟨a, c, he, hs, hr⟩ := h
  cases ok
  · exact ⟨a, c, he, hs, hr⟩
  · exact ⟨a, c, he, hs, hr⟩

theorem apart_push {wr w1 : World} {v v' : Value} {c : Obj} {G : Nat} {x : List Int} (h : v.ownBlock ≠ some G) (hr : RowB wr G x) (hg : (wr.alloc c).grownBy w1 v.ownBlock) (hat : v'.ownBlock = v.ownBlock ∨ v'.ownBlock = some (wr.alloc c).heap.size) :
    v'.ownBlock ≠ some G ∧ RowB w1 G x := by
  have hlt := hr.lt
  have e1 : (wr.alloc c).heap[G]? = wr.heap[G]? := Below.heap_alloc wr _ G hlt
  refine ⟨fun e => ?_, hr.of_block ((hg.block G (by simp; omega) (fun e => h e.symm)).trans e1)⟩
  rcases hat with q | q
  · exact h (q.symm.trans e)
  · rw [e] at q
    have : G = (wr.alloc c).heap.size := by injection q
    simp at this
    omega

/-- The bases among the first i sets. -/
def basesTo (k M : Nat) (p : List Int) (i : Nat) : List Int := List.map (fun s : Nat => (s : Int)) (((setsTo k M).take i).filter fun s => decide (atP p s ≠ 0))
theorem basesTo_yes {k M i s : Nat} {p : List Int} (h : (setsTo k M)[i]? = some s) (hy : atP p s ≠ 0) : basesTo k M p (i + 1) = basesTo k M p i ++ [(s : Int)] := by
  unfold basesTo
  rw [List.take_add_one, h, List.filter_append, List.map_append]
  simp [hy]
theorem basesTo_no {k M i s : Nat} {p : List Int} (h : (setsTo k M)[i]? = some s) (hy : atP p s = 0) : basesTo k M p (i + 1) = basesTo k M p i := by
  unfold basesTo
  rw [List.take_add_one, h, List.filter_append, List.map_append]
  simp [hy]
theorem basesTo_le (k M : Nat) (p : List Int) (i : Nat) : (basesTo k M p i).length ≤ i := by
  unfold basesTo
  rw [List.length_map]
  exact Nat.le_trans (List.length_filter_le _ _) (by rw [List.length_take]; omega)
/-- All bases. -/
def basesP (k n : Nat) (p : List Int) : List Int := basesTo k (2 ^ n) p (setsTo k (2 ^ n)).length
theorem basesP_eq (k n : Nat) (p : List Int) : basesP k n p = List.map (fun s : Nat => (s : Int)) ((setsTo k (2 ^ n)).filter fun s => decide (atP p s ≠ 0)) := by
  unfold basesP basesTo; rw [List.take_length]
theorem placeBases_short (k n : Int) (p : List Int) : (if placeB k n p = true then basesP k.toNat n.toNat p else []).length ≤ 1000 := by
  split
  · rename_i h
    obtain ⟨k, n, rfl, rfl, _, _, h5, _, _⟩ := placeB_of h
    have := basesTo_le k (2 ^ n) p (setsTo k (2 ^ n)).length
    have h2 := setsTo_len k (2 ^ n)
    have := pow_le5 h5
    show (basesTo k (2 ^ n) p (setsTo k (2 ^ n)).length).length ≤ 1000
    omega
  · simp
theorem atP_at {k M i s : Nat} {p : List Int} (h : (setsTo k M)[i]? = some s) : p.getD i 0 = atP p s := by
  obtain ⟨h1, h2, _⟩ := setsTo_idx k M h
  unfold atP
  rw [h2, h1]

set_option maxRecDepth 100000 in
set_option maxHeartbeats 2000000 in
theorem specPlaceBases_any (k n : Int) (a : Option Addr) (cap m : Nat) (p : List Int) (w : World) (hm : p.length = m) (hmx : m ≤ 1048576) (hr : RowR w a p) :
    Calls Try.prog 27 #[.int .i64 k, .int .i64 n, .slice a m cap] w (PRes w (placeB k n p) (basesP k.toNat n.toNat p)) := by
  obtain ⟨i3, hi3⟩ := info3_parts
  have HJ := Lib.hid hi3
  have HRB := Lib.hid (rb_start w #[] rfl)
  have HS1 := Lib.hid ((World.Since.refl w.heap.size w).alloc (Nat.le_refl _) (.cells #[] 3))
  have E1 := fun (W : World) (hd : w.Since w.heap.size W) => specPlaceIn_any k n a cap m p W hm hmx (hr.since hd)
  clear hi3
  cases h1 : placeB k n p with
  | false =>
    rw [h1] at E1
    replace E1 := Lib.hid E1
    clear hr h1 hm
    go_enter Try.func27, Try.ntmps27
    go_wp2_with fail
    refine (E1.out _ HS1.out).mono ?_
    rintro e w2 ⟨rfl, hs⟩
    have hs2 := Lib.hid (HS1.out.trans (since_mono hs HS1.out.size))
    clear hs
    go_wp2
    go_ret2
    exact pres_no rfl hs2.out
  | true =>
  rw [h1] at E1
  obtain ⟨k, n, rfl, rfl, hk1, hkn, h5, hl, hp⟩ := placeB_of h1
  simp only [Int.toNat_natCast]
  have hpw := pow_le5 h5
  have ES := Lib.hid (fun (W : World) => l3Sets_any n k (by omega) W)
  have HG := Lib.hid (fun (i : Nat) => @setsI_get k (2 ^ n) i)
  have HAT := Lib.hid (fun (i s : Nat) => @atP_at k (2 ^ n) i s p)
  have HY := Lib.hid (fun (i s : Nat) => @basesTo_yes k (2 ^ n) i s p)
  have HN := Lib.hid (fun (i s : Nat) => @basesTo_no k (2 ^ n) i s p)
  have hle := basesTo_le k (2 ^ n) p
  have hlen := setsI_length k (2 ^ n)
  have hle2 := setsTo_len k (2 ^ n)
  have hR := fun (W : World) (hd : w.Since w.heap.size W) => hr.since hd
  have hst : basesTo k (2 ^ n) p 0 = [] := rfl
  unfold basesP
  obtain ⟨M, hM⟩ : ∃ x, 2 ^ n = x := ⟨_, rfl⟩
  simp only [hM] at ES HG HAT HY HN hle hlen hle2 hpw hl hst ⊢
  rw [hm] at hl
  rw [← hl] at hlen hle2 ⊢
  simp only [← hl] at HG
  have HM := Lib.hid hm
  have HL := Lib.hid hlen
  have HST := Lib.hid hst
  have HR := Lib.hid hR
  have HLE := Lib.hid hle
  replace E1 := Lib.hid E1
  clear hr h1 hm hl hp hM hlen hle hR hst
  go_enter Try.func27, Try.ntmps27
  go_wp2_with fail
  refine (E1.out _ HS1.out).mono ?_
  rintro e w2 ⟨rfl, hs⟩
  have HS2 := Lib.hid (HS1.out.trans (since_mono hs HS1.out.size))
  have HRB2 := Lib.hid (HRB.out.later hs)
  have hs0 := hs.size
  clear hs HRB
  go_wp2_with fail
  refine (ES.out w2).mono ?_
  rintro e w3 ⟨vs, rfl, hRS⟩
  obtain ⟨a3, c3, rfl, hsl⟩ := hRS.slice
  rw [HL.out] at hsl ⊢
  have HS3 := Lib.hid (HS2.out.trans (since_mono hRS.since HS2.out.size))
  have HRB3 := Lib.hid (HRB2.out.later hRS.since)
  have HRS := Lib.hid hsl
  have HZ := Lib.hid (show w.heap.size < w2.heap.size from Nat.lt_of_lt_of_le (by simp) hs0)
  clear hRS hsl HRB2
  have hrb0 : RB w w3 (.slice (some ⟨w.heap.size, 0, none⟩) 0 0) (basesTo k M p 0) := by rw [HST.out]; exact HRB3.out
  have hap0 : 0 < m → ∃ G, a3 = some ⟨G, 0, none⟩ ∧ (Value.slice (some ⟨w.heap.size, 0, none⟩) 0 0).ownBlock ≠ some G ∧ RowB w3 G (setsI k M) := fun h => by
    obtain ⟨G, e, h2, h3⟩ := HRS.out h
    refine ⟨G, e, fun q => ?_, h3⟩
    have : w.heap.size = G := by simpa [Value.ownBlock] using q
    have := HZ.out
    omega
  have HRB4 := Lib.hid (And.intro hrb0 hap0)
  clear hrb0 hap0 HRB3 HRS
  go_wp2
  go_loopg [8, 10] m (fun g v i wr => ∃ i0 : Nat, i0 ≤ m ∧ g = m - i0 ∧ i = .int .i64 i0 ∧ RB w wr v (basesTo k M p i0) ∧ (0 < m → ∃ G, a3 = some ⟨G, 0, none⟩ ∧ v.ownBlock ≠ some G ∧ RowB wr G (setsI k M)))
  case atStart => exact ⟨0, Nat.zero_le _, rfl, rfl, HRB4.out.1, HRB4.out.2⟩
  case round =>
    obtain ⟨i0, hi0, rfl, rfl, hI, hA⟩ := hrel
    clear HRB4
    have hzi := hI.since.size
    have hle := HLE.out i0
    by_cases hlt : i0 < m
    · obtain ⟨G, rfl, hv, hrow⟩ := hA (by omega)
      obtain ⟨s, es, is, hsM, _⟩ := HG.out i0 hlt
      have cs0 := hrow.cell (i := i0) (by rw [HL.out]; exact hlt)
      rw [es] at cs0
      obtain ⟨b, o, rfl, hc⟩ := HR.out _ hI.since (by rw [HM.out]; omega)
      have cp0 := hc i0 (by rw [HM.out]; exact hlt)
      have hat := HAT.out i0 s is
      have HII := Lib.hid hI
      have HAP := Lib.hid (And.intro hv hrow)
      obtain ⟨y, hy⟩ : ∃ y, p.getD i0 0 = y := ⟨_, rfl⟩
      rw [hy] at cp0 hat
      clear hI hA hv hrow es hc hy
      by_cases h0 : y = 0
      · have HN2 := Lib.hid (HN.out i0 s is (by rw [← hat]; exact h0))
        have hz : (y != 0) = false := by simp [h0]
        clear h0 hat is
        go_wp2
        go_roundg (m - (i0 + 1))
        case measure => omega
        case rel => exact ⟨i0 + 1, by omega, rfl, by go_num, by rw [HN2.out]; exact HII.out, fun _ => ⟨G, rfl, HAP.out.1, HAP.out.2⟩⟩
      · have HY2 := Lib.hid (HY.out i0 s is (by rw [← hat]; exact h0))
        have hz : (y != 0) = true := by simp [h0]
        clear h0 hat is
        go_wp2_with (at_builtin; (refine wpList_append_own_at _ rfl _ _ 22 rfl w.heap.size 3 i3 (.int .i64 0) 1 8 Try.underlying22 HJ.out.1 HJ.out.2.1 HJ.out.2.2.1 HJ.out.2.2.2 rfl (by decide) _ _ _ rfl (HII.out.own.alloc _) ⟨wr.heap.size, 0, none⟩ 1 1 [.int .i64 (s : Nat)] rfl rfl (cell_one_at _ _ _ rfl) (fun x hx => by simp at hx; subst hx; rfl) (by unfold maxLen; omega) (by omega) (by simp; omega) ?_); intro v' w5 hown' hgrow _ hat')
        have hP := HII.out.push hown' hgrow
        have hQ := apart_push HAP.out.1 HAP.out.2 hgrow hat'
        rw [← HY2.out] at hP
        have HP := Lib.hid (And.intro hP hQ)
        clear hP hQ hown' hgrow hat'
        go_roundg (m - (i0 + 1))
        case measure => omega
        case rel => exact ⟨i0 + 1, by omega, rfl, by go_num, HP.out.1, fun _ => ⟨G, rfl, HP.out.2.1, HP.out.2.2⟩⟩
    · have him : i0 = m := by omega
      subst him
      have HII := Lib.hid hI
      clear hI hA
      go_wp2
      go_ret2
      exact pres_yes HII.out (World.Since.refl _ _) rfl

end Go.Proofs.Ytbedkjpbdkgjpaa
end

section
/- The contract of spec.PlaceOf. -/
namespace Go.Proofs.Ytbedkjpbdkgjpaa
open Go.RowKit Go.Deep

/-- The coordinates of a table. -/
def plP (l : List (List Int)) : List Int := (setsTo l.length (2 ^ (l.getD 0 []).length)).map (mnv l l.length (2 ^ l.length - 1))
/-- Has it some? -/
noncomputable def plOk (l : List (List Int)) : Bool := tabIn l && (decide (l.length < (l.getD 0 []).length) && placeB l.length (l.getD 0 []).length (plP l))
theorem setsTo_full : ∀ n : Fin 7, setsTo n.val (2 ^ n.val) = [2 ^ n.val - 1] := by decide +kernel
theorem mnA_full {l : List (List Int)} {n m : Nat} (h : n ≤ 6) : mnA l n n m = [(setsTo n (2 ^ m)).map (mnv l n (2 ^ n - 1))] := by
  unfold mnA
  rw [setsTo_full ⟨n, by omega⟩]
  rfl
/-- The first row of a table of one's own. -/
theorem OwnT.first {lo hi : Nat} {w : World} {a : Option Addr} {x : List Int} (h : OwnT lo hi w a [x]) :
    ∃ (b : Nat) (A : Option Addr) (C : Nat), a = some ⟨b, 0, none⟩ ∧ w.cell? ⟨b, 0, none⟩ = some (.slice A x.length C) ∧ OwnR lo hi w A x := by
  obtain ⟨b, A, G, C, e, hb, hr, _⟩ := h (by simp)
  obtain ⟨h1, h2⟩ := hr 0 (by simp)
  refine ⟨b, A 0, C 0, e, h1, fun h0 => ?_⟩
  obtain ⟨e2, h3, h4⟩ := h2 (by simpa using h0)
  exact ⟨G 0, e2, ⟨h3.1, h3.2.1⟩, fun i hi => h4 i (by simpa using hi)⟩

/-- A row of one's own and whether there is one. -/
def SOwn (w : World) (ok : Bool) (x : List Int) (e : Ending) (w' : World) : Prop :=
  ∃ a cap, e = .returned (.tuple #[.slice a (if ok = true then x else []).length cap, .bool ok]) ∧ w.Since w.heap.size w' ∧ OwnR w.heap.size w'.heap.size w' a (if ok = true then x else [])
theorem sown_no {w w' : World} {x : List Int} {a : Option Addr} {c : Nat} {e : Ending} (he : e = .returned (.tuple #[.slice a 0 c, .bool false])) (hs : w.Since w.heap.size w') : SOwn w false x e w' :=
  ⟨a, c, he, hs, OwnR.nil _ _ _ _⟩

set_option maxRecDepth 100000 in
set_option maxHeartbeats 2000000 in
theorem specPlaceOf_any (a : Option Addr) (cap n : Nat) (l : List (List Int)) (w : World) (hn : l.length = n) (hsz : szL l ≤ 1048576) (hm : MatR w a l) :
    Calls Try.prog 79 #[.slice a n cap] w (SOwn w (plOk l) (plP l)) := by
  have E := Lib.hid (specTableIn_any a cap n l w hn hsz hm)
  cases hT : tabIn l with
  | false =>
    have hok : plOk l = false := by unfold plOk; rw [hT]; rfl
    rw [hT] at E
    rw [hok]
    clear hT hsz hm hn hok
    go_enter Try.func79, Try.ntmps79
    go_wp2_with fail
    refine (E.out).mono ?_
    rintro e w1 ⟨rfl, hd⟩
    have HS := Lib.hid ((hd.since w.heap.size).alloc (hd.since w.heap.size).size (.cells #[] 3))
    clear hd
    go_wp2
    go_ret2
    exact sown_no rfl HS.out
  | true =>
  have hTT := tabIn_of hT
  have h6 := hTT.2.1
  have h1 := hTT.1
  have hw := hTT.width
  rw [hT] at E
  obtain ⟨m, hmm⟩ : ∃ m, (l.getD 0 []).length = m := ⟨_, rfl⟩
  have hpl : plP l = (setsTo n (2 ^ m)).map (mnv l n (2 ^ n - 1)) := by unfold plP; rw [hn, hmm]
  have hok0 : plOk l = (decide (n < m) && placeB n m (plP l)) := by unfold plOk; rw [hT, hn, hmm]; rfl
  rw [hn] at h1 h6
  rw [hmm] at hw
  have EL := fun (W : World) (hs : w.Since w.heap.size W) => l3Table_any a cap n m n l W hn hmm hTT h6 (hm.since hs)
  simp only [mnA_full h6, ← hpl] at EL
  have hlen : (plP l).length ≤ 64 := by
    rw [hpl, List.length_map]
    have := setsTo_len n (2 ^ m)
    have := Nat.pow_le_pow_right (n := 2) (by omega) hw.2
    omega
  obtain ⟨b1, o1, A1, C1, rfl, hc1⟩ := id hm (by omega)
  have c1 := (hc1 0 (by omega)).1
  rw [Nat.add_zero, hmm] at c1
  have hlt1 := World.block_lt_of_cell? _ _ c1
  obtain ⟨p, hp⟩ : ∃ p, plP l = p := ⟨_, rfl⟩
  rw [hp] at hok0 hlen ⊢
  simp only [hp] at EL
  replace EL := Lib.hid EL
  have HSP := Lib.hid (fun (a3 : Option Addr) (c3 : Nat) (W : World) (hr : RowR W a3 p) => specPlaceIn_any n m a3 c3 p.length p W rfl (by omega) hr)
  rw [hok0]
  clear hT hsz hm hn hmm hpl hok0 hTT hp hc1
  by_cases hnm : n < m
  · have hge : decide (m ≤ n) = false := by simp; omega
    have p0 : 0 < n := by omega
    rw [decide_eq_true hnm, Bool.true_and]
    obtain ⟨pk, hpb⟩ : ∃ pk, placeB n m p = pk := ⟨_, rfl⟩
    simp only [hpb] at HSP ⊢
    replace HSP := Lib.hid HSP.out
    clear hpb
    cases pk
    all_goals
      go_enter Try.func79, Try.ntmps79
      go_wp2_with fail
      refine (E.out).mono ?_
      rintro e w1 ⟨rfl, hd⟩
      have HS := Lib.hid (hd.since w.heap.size)
      have c11 := (HS.out.cell (a := ⟨b1, o1, none⟩) hlt1).trans c1
      clear hd
      go_wp2_with fail
      refine (EL.out _ HS.out).mono ?_
      rintro e w2 ⟨a2, q2, rfl, hs2, hown⟩
      obtain ⟨b, A, C, rfl, c2, hR⟩ := hown.first
      have HS2 := Lib.hid (HS.out.trans (since_mono hs2 HS.out.size))
      have c12 := (HS2.out.cell (a := ⟨b1, o1, none⟩) hlt1).trans c1
      have HR := Lib.hid (hR.mono HS.out.size (Nat.le_refl _))
      clear hown hs2 hR
      go_wp2_with fail
      refine (HSP.out A C w2 HR.out.rowR).mono ?_
      rintro e w3 ⟨rfl, hs3⟩
      have HS3 := Lib.hid (HS2.out.trans (since_mono hs3 HS2.out.size))
      have HR3 := Lib.hid ((HR.out.since hs3).mono (Nat.le_refl _) hs3.size)
      clear hs3
      go_wp2
    · have HS4 := Lib.hid (HS3.out.alloc HS3.out.size (.cells #[] 3))
      go_ret2
      exact sown_no rfl HS4.out
    · go_ret2
      exact ⟨_, _, rfl, HS3.out, HR3.out⟩
  · have hge : decide (m ≤ n) = true := by simp; omega
    rw [decide_eq_false hnm, Bool.false_and]
    have p0 : 0 < n := by omega
    go_enter Try.func79, Try.ntmps79
    go_wp2_with fail
    refine (E.out).mono ?_
    rintro e w1 ⟨rfl, hd⟩
    have HS := Lib.hid (hd.since w.heap.size)
    have HS4 := Lib.hid (HS.out.alloc HS.out.size (.cells #[] 3))
    have c11 := (HS.out.cell (a := ⟨b1, o1, none⟩) hlt1).trans c1
    clear hd
    go_wp2
    go_ret2
    exact sown_no rfl HS4.out

end Go.Proofs.Ytbedkjpbdkgjpaa
end

section
/- Words for drawing: the reader's block, bytes, tables that grow while the reader's block turns. -/
namespace Go.Proofs.Ytbedkjpbdkgjpaa
open Go.RowKit Go.Deep

theorem World.grownBy_refl (w : World) (row : Option Nat) : w.grownBy w row := ⟨rfl, rfl, rfl, Nat.le_refl _, fun _ _ _ => rfl⟩
theorem grown_trans {a b c : World} {row : Option Nat} (h : a.grownBy b row) (k : b.grownBy c row) : a.grownBy c row :=
  ⟨k.os.trans h.os, k.tape.trans h.tape, k.output.trans h.output, Nat.le_trans h.size k.size, fun i hi hn => (k.block i (Nat.lt_of_lt_of_le hi h.size) hn).trans (h.block i hi hn)⟩
theorem grown_since {a b : World} (row : Option Nat) (h : a.Since a.heap.size b) : a.grownBy b row := ⟨h.os, h.tape, h.output, h.size, fun i hi _ => h.block i hi⟩
/-- What is done to blocks from B on. -/
theorem grown_of {a b : World} {row row' : Option Nat} (h : a.grownBy b row) (hr : ∀ k, row = some k → a.heap.size ≤ k ∨ some k = row') : a.grownBy b row' :=
  ⟨h.os, h.tape, h.output, h.size, fun i hi hn => h.block i hi (fun e => by
    rcases hr i e.symm with h1 | h1
    · omega
    · exact hn h1)⟩
theorem since_grown {a b : World} {G B : Nat} (h : a.grownBy b (some G)) (hG : B ≤ G) (hB : B ≤ a.heap.size) : a.Since B b :=
  ⟨h.os, h.tape, h.output, h.size, fun i hi => h.block i (by omega) (fun e => by injection e with e; omega)⟩

/-- A slice of bytes. -/
def BytR (w : World) (a : Option Addr) (n : Nat) : Prop :=
  0 < n → ∃ b o, a = some ⟨b, o, none⟩ ∧ ∀ i, i < n → ∃ z : Nat, z ≤ 255 ∧ w.cell? ⟨b, o + i, none⟩ = some (.int .u8 z)
theorem BytR.since {w w' : World} {a : Option Addr} {n : Nat} (h : BytR w a n) (hs : w.Since w.heap.size w') : BytR w' a n := by
  intro h0
  obtain ⟨b, o, e, hc⟩ := h h0
  refine ⟨b, o, e, fun i hi => ?_⟩
  obtain ⟨z, h1, h2⟩ := hc i hi
  exact ⟨z, h1, (hs.cell (a := ⟨b, o + i, none⟩) (World.block_lt_of_cell? _ _ h2)).trans h2⟩

/-- The reader at G: its bytes and its place. -/
structure RD (w0 w : World) (G : Nat) (a : Option Addr) (n c : Nat) (tr : TypeId) (p : Nat) : Prop where
  blk : w.heap[G]? = some (.cells #[.slice a n c, .int .i64 p] tr (0, 0))
  base : w0.heap.size ≤ G
  since : w0.Since w0.heap.size w
  bytes : BytR w0 a n
  small : n ≤ 2000
theorem RD.lt {w0 w : World} {G : Nat} {a : Option Addr} {n c : Nat} {tr : TypeId} {p : Nat} (h : RD w0 w G a n c tr p) : G < w.heap.size := (Array.getElem?_eq_some_iff.1 h.blk).1
theorem RD.cell0 {w0 w : World} {G : Nat} {a : Option Addr} {n c : Nat} {tr : TypeId} {p : Nat} (h : RD w0 w G a n c tr p) : w.cell? ⟨G, 0, none⟩ = some (.slice a n c) := by simp [World.cell?, h.blk]
theorem RD.cell1 {w0 w : World} {G : Nat} {a : Option Addr} {n c : Nat} {tr : TypeId} {p : Nat} (h : RD w0 w G a n c tr p) : w.cell? ⟨G, 1, none⟩ = some (.int .i64 p) := by simp [World.cell?, h.blk]
theorem RD.free1 {w0 w : World} {G : Nat} {a : Option Addr} {n c : Nat} {tr : TypeId} {p : Nat} (h : RD w0 w G a n c tr p) : w.frozen? ⟨G, 1, none⟩ = false := by simp [World.frozen?, h.blk]
/-- The place goes on. -/
theorem RD.set {w0 w : World} {G : Nat} {a : Option Addr} {n c : Nat} {tr : TypeId} {p : Nat} (h : RD w0 w G a n c tr p) (q : Nat) : RD w0 (w.setCell ⟨G, 1, none⟩ (.int .i64 q)) G a n c tr q :=
  ⟨by simp [World.setCell, Array.getElem?_modify, h.blk], h.base, h.since.setCell h.base _, h.bytes, h.small⟩
theorem RD.later {w0 w w' : World} {G : Nat} {a : Option Addr} {n c : Nat} {tr : TypeId} {p : Nat} (h : RD w0 w G a n c tr p) (hs : w.Since w.heap.size w') : RD w0 w' G a n c tr p :=
  ⟨(hs.block G h.lt).trans h.blk, h.base, h.since.trans (since_mono hs h.since.size), h.bytes, h.small⟩
theorem RD.grown {w0 w w' : World} {G : Nat} {a : Option Addr} {n c : Nat} {tr : TypeId} {p : Nat} {row : Option Nat} (h : RD w0 w G a n c tr p) (hg : w.grownBy w' row) (hr : ∀ k, row = some k → G < k) : RD w0 w' G a n c tr p :=
  ⟨(hg.block G h.lt (fun e => by have := hr G e.symm; omega)).trans h.blk, h.base, h.since.grown hg h.since.size (fun k e => by have := hr k e; have := h.base; omega), h.bytes, h.small⟩

/-- A row of one's own, in a block from B on. -/
def RW (B : Nat) (w : World) (v : Value) (x : List Int) : Prop := w.ownsRow B 3 1 v x.length (x.map (Value.int .i64))
theorem RW.kept {B : Nat} {w w' : World} {v : Value} {x : List Int} {G : Nat} (h : RW B w v x) (hg : w.grownBy w' (some G)) (hG : G < B) : RW B w' v x :=
  World.ownsRow.kept h hg (by
    cases hv : v.ownBlock with
    | none => exact .inl rfl
    | some k => exact .inr (fun e => by injection e with e; have := (World.ownsRow.lt h k hv).1; omega))
theorem RW.base {B B' : Nat} {w : World} {v : Value} {x : List Int} (h : RW B w v x) (hB : B' ≤ B) : RW B' w v x := by
  refine ⟨h.1, ?_⟩
  rcases h.2 with h1 | ⟨g, cap, cur, e, hb, hr⟩
  · exact .inl h1
  · exact .inr ⟨g, cap, cur, e, by omega, hr⟩
theorem RW.form {B : Nat} {w : World} {v : Value} {x : List Int} (h : RW B w v x) (h0 : 0 < x.length) : ∃ g cap, v = .slice (some ⟨g, 0, none⟩) x.length cap ∧ B ≤ g ∧ RowB w g x := RowB.of_owns h h0
/-- A number of the row is written. -/
theorem RW.set {B : Nat} {w : World} {g cap k : Nat} {x : List Int} (h : RW B w (.slice (some ⟨g, 0, none⟩) x.length cap) x) (_hk : k < x.length) (y : Int) : RW B (w.setCell ⟨g, k, none⟩ (.int .i64 y)) (.slice (some ⟨g, 0, none⟩) x.length cap) (x.set k y) := by
  rcases h.2 with ⟨e, _⟩ | ⟨g', cap', cur, e, hb, hg, hn, hm, hs, ht⟩
  · cases e
  · injection e with e1 e2 e3
    injection e1 with e1
    injection e1 with e1
    subst e1; subst e3
    refine ⟨by simp, .inr ⟨g, cap, cur.setIfInBounds k (.int .i64 y), by rw [List.length_set], hb, ?_, by rw [List.length_set]; exact hn, hm, by simpa using hs, ?_⟩⟩
    · simp [World.setCell, Array.getElem?_modify, hg]
    · rw [List.length_set, Nat.mul_one]
      rw [Nat.mul_one] at ht
      rw [List.map_set, ← ht]
      simp [List.take_set]

/-- A table that is being built of rows of one's own, all in blocks from B on. -/
structure BD (B : Nat) (w : World) (v : Value) (l : List (List Int)) (A : Nat → Option Addr) (C : Nat → Nat) : Prop where
  own : w.ownsRow B 22 1 v l.length ((List.range l.length).map fun r => .slice (A r) (l.getD r []).length (C r))
  rows : ∀ r, r < l.length → 0 < (l.getD r []).length ∧ RW B w (.slice (A r) (l.getD r []).length (C r)) (l.getD r [])
  apart : ∀ r r', r < l.length → r' < l.length → A r = A r' → r = r'
theorem BD.start (w : World) (A : Nat → Option Addr) (C : Nat → Nat) {B : Nat} (hB : B ≤ w.heap.size) : BD B (w.alloc (.cells #[] 22)) (.slice (some ⟨w.heap.size, 0, none⟩) 0 0) [] A C :=
  ⟨World.ownsRow_made w #[] 0 hB (Nat.zero_le _) rfl, fun r hr => by simp at hr, fun r _ hr => by simp at hr⟩
theorem BD.kept {B : Nat} {w w' : World} {v : Value} {l : List (List Int)} {A : Nat → Option Addr} {C : Nat → Nat} {G : Nat} (h : BD B w v l A C) (hg : w.grownBy w' (some G)) (hG : G < B) : BD B w' v l A C :=
  ⟨World.ownsRow.kept h.own hg (by
      cases hv : v.ownBlock with
      | none => exact .inl rfl
      | some k => exact .inr (fun e => by injection e with e; have := (h.own.lt k hv).1; omega)),
    fun r hr => ⟨(h.rows r hr).1, (h.rows r hr).2.kept hg hG⟩, h.apart⟩
theorem BD.later {B : Nat} {w w' : World} {v : Value} {l : List (List Int)} {A : Nat → Option Addr} {C : Nat → Nat} (h : BD B w v l A C) (hs : w.Since w.heap.size w') : BD B w' v l A C := by
  have hg : w.grownBy w' none := grown_since none hs
  refine ⟨World.ownsRow.kept h.own hg ?_, fun r hr => ⟨(h.rows r hr).1, World.ownsRow.kept (h.rows r hr).2 hg ?_⟩, h.apart⟩
  · cases hv : v.ownBlock <;> simp
  · cases hv : (Value.slice (A r) (l.getD r []).length (C r)).ownBlock <;> simp
theorem BD.row {B : Nat} {w : World} {v : Value} {l : List (List Int)} {A : Nat → Option Addr} {C : Nat → Nat} (h : BD B w v l A C) {r : Nat} (hr : r < l.length) : ∃ g, A r = some ⟨g, 0, none⟩ ∧ B ≤ g ∧ RowB w g (l.getD r []) := by
  obtain ⟨g, cap, e, hb, hw⟩ := (h.rows r hr).2.form (h.rows r hr).1
  injection e with e _ _
  exact ⟨g, e, hb, hw⟩
theorem BD.top {B : Nat} {w : World} {v : Value} {l : List (List Int)} {A : Nat → Option Addr} {C : Nat → Nat} (h : BD B w v l A C) (h0 : 0 < l.length) : ∃ b cap cur, v = .slice (some ⟨b, 0, none⟩) l.length cap ∧ B ≤ b ∧ w.heap[b]? = some (.cells cur 22 (0, 0)) ∧ ∀ r, r < l.length → cur[r]? = some (.slice (A r) (l.getD r []).length (C r)) := by
  rcases h.own.2 with ⟨_, hn⟩ | ⟨g, cap, cur, e, hb, hg, hn, _, hs, ht⟩
  · omega
  · refine ⟨g, cap, cur, e, hb, hg, fun r hr => ?_⟩
    have h1 : (cur.toList.take (l.length * 1))[r]? = some (.slice (A r) (l.getD r []).length (C r)) := by rw [ht]; simp [hr]
    rw [List.getElem?_take] at h1
    have h2 : r < l.length ∧ cur[r]? = some (.slice (A r) (l.getD r []).length (C r)) := by simpa using h1
    exact h2.2
/-- One row more. -/
theorem BD.push {B : Nat} {w w1 : World} {v v' : Value} {l : List (List Int)} {A : Nat → Option Addr} {C : Nat → Nat} {x : List Int} {a : Option Addr} {cp : Nat} (h : BD B w v l A C) (h0 : 0 < x.length) (hx : RW B w (.slice a x.length cp) x)
    (hfresh : ∀ r, r < l.length → A r ≠ a)
    (hown : w1.ownsRow B 22 1 v' (l.length + 1) (((List.range l.length).map fun r => .slice (A r) (l.getD r []).length (C r)) ++ [.slice a x.length cp])) (hg : (w.alloc (.cells #[.slice a x.length cp] 22)).grownBy w1 v.ownBlock) :
    BD B w1 v' (l ++ [x]) (fun r => if r = l.length then a else A r) (fun r => if r = l.length then cp else C r) := by
  have hkeep : ∀ (u : Value) (y : List Int), 0 < y.length → RW B w u y → RW B w1 u y := by
    intro u y hy hu
    refine World.ownsRow.kept (World.ownsRow.alloc hu _) hg ?_
    obtain ⟨g, cap, e, _, cs, hc, _⟩ := hu.form hy
    subst e
    refine .inr fun e => ?_
    rcases h.own.2 with ⟨rfl, _⟩ | ⟨g', cap', cur, rfl, _, hgg, _⟩
    · cases e
    · injection e with e
      have e : g = g' := e
      rw [← e, hc] at hgg
      injection hgg with hgg
      injection hgg with _ e2 _
      exact absurd e2 (by decide)
  have e4 : ∀ q, q < l.length → (l ++ [x]).getD q [] = l.getD q [] := fun q hq => by simp [List.getD, List.getElem?_append_left hq]
  have e5 : (l ++ [x]).getD l.length [] = x := by simp [List.getD]
  have e6 : (l ++ [x]).length = l.length + 1 := by simp
  refine ⟨?_, fun r hr => ?_, fun r r' hr hr' e => ?_⟩
  · rw [e6, List.range_succ, List.map_append]
    have e2 : (List.range l.length).map (fun r => Value.slice (if r = l.length then a else A r) ((l ++ [x]).getD r []).length (if r = l.length then cp else C r)) = (List.range l.length).map fun r => .slice (A r) (l.getD r []).length (C r) := by
      refine List.map_congr_left fun r hr => ?_
      have hr' := List.mem_range.1 hr
      rw [if_neg (by omega), if_neg (by omega), e4 r hr']
    rw [e2]
    simpa [e5] using hown
  · by_cases e : r = l.length
    · subst e
      rw [e5, if_pos rfl, if_pos rfl]
      exact ⟨h0, hkeep _ _ h0 hx⟩
    · rw [e6] at hr
      rw [e4 r (by omega), if_neg e, if_neg e]
      exact ⟨(h.rows r (by omega)).1, hkeep _ _ (h.rows r (by omega)).1 (h.rows r (by omega)).2⟩
  · rw [e6] at hr hr'
    by_cases e1 : r = l.length <;> by_cases e2 : r' = l.length
    · omega
    · rw [if_pos e1, if_neg e2] at e
      exact absurd e.symm (hfresh r' (by omega))
    · rw [if_neg e1, if_pos e2] at e
      exact absurd e (hfresh r (by omega))
    · rw [if_neg e1, if_neg e2] at e
      exact h.apart r r' (by omega) (by omega) e
theorem BD.fresh {B : Nat} {w : World} {v : Value} {l : List (List Int)} {A : Nat → Option Addr} {C : Nat → Nat} (h : BD B w v l A C) {a : Option Addr} {g : Nat} (ha : a = some ⟨g, 0, none⟩) (hg : w.heap.size ≤ g) : ∀ r, r < l.length → A r ≠ a := by
  intro r hr e
  obtain ⟨g', e', _, hw⟩ := h.row hr
  have := hw.lt
  rw [e', ha] at e
  injection e with e; injection e with e
  omega
/-- A table that reads as a list of lists. -/
theorem BD.matR {B : Nat} {w : World} {v : Value} {l : List (List Int)} {A : Nat → Option Addr} {C : Nat → Nat} (h : BD B w v l A C) : ∃ a cap, v = .slice a l.length cap ∧ MatR w a l := by
  by_cases h0 : 0 < l.length
  · obtain ⟨b, cap, cur, e, _, hg, hc⟩ := h.top h0
    refine ⟨_, cap, e, fun _ => ⟨b, 0, A, C, rfl, fun r hr => ⟨?_, fun h1 => ?_⟩⟩⟩
    · rw [Nat.zero_add]; simp [World.cell?, hg, hc r hr]
    · obtain ⟨g, e, _, hw⟩ := h.row hr
      exact ⟨g, 0, e, fun i hi => by rw [Nat.zero_add]; exact hw.cell hi⟩
  · rcases h.own.2 with ⟨hv, hn⟩ | ⟨g, cap, cur, e, _⟩
    · exact ⟨none, 0, by rw [hv, hn], fun h => absurd h h0⟩
    · exact ⟨_, cap, e, fun h => absurd h h0⟩

end Go.Proofs.Ytbedkjpbdkgjpaa
end

section
/- The contract of the reader's pick. -/
namespace Go.Proofs.Ytbedkjpbdkgjpaa
open Go.RowKit Go.Deep

theorem grown_drewN {a b : World} {row : Option Nat} (h : a.grownBy b row) (q : Nat) : a.grownBy (b.drewN q) row := ⟨h.os, h.tape, h.output, h.size, h.block⟩
theorem xor_i64_nat (a b : Nat) (ha : a < 2 ^ 62) (hb : b < 2 ^ 62) : bits .xor .i64 (a : Int) (b : Int) = ((a ^^^ b : Nat) : Int) := by
  have hx : a ^^^ b < 2 ^ 62 := Nat.xor_lt_two_pow ha hb
  have h1 : (BitVec.ofInt 64 (a : Int)).toNat = a := by
    rw [BitVec.ofInt_natCast, BitVec.toNat_ofNat]; exact Nat.mod_eq_of_lt (by omega)
  have h2 : (BitVec.ofInt 64 (b : Int)).toNat = b := by
    rw [BitVec.ofInt_natCast, BitVec.toNat_ofNat]; exact Nat.mod_eq_of_lt (by omega)
  show IntKind.i64.wrap ((BitVec.ofInt 64 (a : Int) ^^^ BitVec.ofInt 64 (b : Int)).toNat : Int) = _
  rw [BitVec.toNat_xor, h1, h2]
  exact IntWalk.i64_in _ ⟨by omega, by omega⟩

set_option maxRecDepth 100000 in
set_option maxHeartbeats 2000000 in
theorem pick_any (w0 w : World) (G n c p : Nat) (a : Option Addr) (m : Int) (h : RD w0 w G a n c 62 p) (hp : p ≤ 100000) :
    Calls Try.prog 57 #[.pointer (some ⟨G, 0, none⟩), .int .i64 m] w fun e w' => ∃ x : Nat, e = .returned (.int .i64 x) ∧ ((x : Int) < m ∨ x = 0) ∧ w.grownBy w' (some G) ∧ RD w0 w' G a n c 62 (p + 1) := by
  have e0 := h.cell0
  have e1 := h.cell1
  have e2 := h.free1
  have hs := h.set (p + 1)
  have hwp : IntKind.i64.wrap ((p : Int) + 1) = (p : Int) + 1 := IntWalk.i64_in _ ⟨by omega, by omega⟩
  have hc : ((p + 1 : Nat) : Int) = (p : Int) + 1 := by omega
  have hgr : w.grownBy (w.setCell ⟨G, 1, none⟩ (.int .i64 (p + 1 : Nat))) (some G) := ⟨rfl, rfl, rfl, by simp, fun k _ hk => Below.heap_setCell _ _ _ _ (fun e => hk (by rw [e]))⟩
  rw [hc] at hs hgr
  have s0 := hs.cell0
  have s1 := hs.cell1
  rw [hc] at s1
  have hsm := hs.small
  have hbb := hs.bytes.since hs.since
  have HS := Lib.hid hs
  have HG := Lib.hid hgr
  have HB := Lib.hid hbb
  clear hs hgr h hbb hc
  by_cases hm : m < 1
  · go_enter Try.func57, Try.ntmps57
    go_wp2
    go_wp2
    go_ret
    exact ⟨0, rfl, .inr rfl, HG.out, HS.out⟩
  · obtain ⟨M, rfl⟩ := Int.eq_ofNat_of_zero_le (show 0 ≤ m by omega)
    have hM1 : 1 ≤ M := by omega
    have hd : decide ((M : Int) < 1) = false := by simp; omega
    by_cases hn : n = 0
    · subst hn
      go_enter Try.func57, Try.ntmps57
      go_wp2
      go_wp2
      go_ret
      exact ⟨0, rfl, .inr rfl, HG.out, HS.out⟩
    · have hn1 : 1 ≤ n := by omega
      have hnb : ((n : Int) == 0) = false := by simp; omega
      obtain ⟨b, o, rfl, hb⟩ := HB.out (by omega)
      have hwm : IntKind.i64.wrap ((p : Int) + 1 - 1) = (p : Int) := by rw [show (p : Int) + 1 - 1 = p by omega]; exact IntWalk.i64_in _ ⟨by omega, by omega⟩
      by_cases hlt : p < n
      · obtain ⟨z, hz, hzc⟩ := hb p hlt
        have hl : decide ((p : Int) < n) = true := by simp; omega
        clear hb
        go_enter Try.func57, Try.ntmps57
        go_wp2
        go_ret
        exact ⟨z % M, rfl, .inl (by have := Nat.mod_lt z hM1; omega), HG.out, HS.out⟩
      · have hl : decide ((p : Int) < n) = false := by simp; omega
        obtain ⟨q1, hq1, hql1⟩ : ∃ q : Nat, (p : Int) % (n : Int) = q ∧ q < n := ⟨p % n, (Int.natCast_emod p n).symm, Nat.mod_lt _ (by omega)⟩
        obtain ⟨q2, hq2, hql2⟩ : ∃ q : Nat, ((p : Int) * 7 + 3) % (n : Int) = q ∧ q < n := ⟨(p * 7 + 3) % n, by rw [Int.natCast_emod]; simp, Nat.mod_lt _ (by omega)⟩
        obtain ⟨dd, hdd, hdl⟩ : ∃ q : Nat, (p : Int) / (n : Int) = q ∧ q ≤ p := ⟨p / n, (Int.natCast_ediv p n).symm, Nat.div_le_self _ _⟩
        obtain ⟨z1, hz1, hzc1⟩ := hb q1 hql1
        obtain ⟨z2, hz2, hzc2⟩ := hb q2 hql2
        clear hb
        have w1 : IntKind.i64.wrap ((p : Int) * 7) = (p : Int) * 7 := IntWalk.i64_in _ ⟨by omega, by omega⟩
        have w2 : IntKind.i64.wrap ((p : Int) * 7 + 3) = (p : Int) * 7 + 3 := IntWalk.i64_in _ ⟨by omega, by omega⟩
        have w3 : IntKind.i64.wrap ((z1 : Int) * 131) = (z1 : Int) * 131 := IntWalk.i64_in _ ⟨by omega, by omega⟩
        have w4 : IntKind.i64.wrap ((z2 : Int) * 1117) = (z2 : Int) * 1117 := IntWalk.i64_in _ ⟨by omega, by omega⟩
        have w5 : IntKind.i64.wrap ((z1 : Int) * 131 + (z2 : Int) * 1117) = (z1 : Int) * 131 + (z2 : Int) * 1117 := IntWalk.i64_in _ ⟨by omega, by omega⟩
        have w6 : IntKind.i64.wrap ((p : Int) * 29) = (p : Int) * 29 := IntWalk.i64_in _ ⟨by omega, by omega⟩
        have w7 : IntKind.i64.wrap ((z1 : Int) * 131 + (z2 : Int) * 1117 + (p : Int) * 29) = (z1 : Int) * 131 + (z2 : Int) * 1117 + (p : Int) * 29 := IntWalk.i64_in _ ⟨by omega, by omega⟩
        have w8 : IntKind.i64.wrap ((dd : Int) * 53) = (dd : Int) * 53 := IntWalk.i64_in _ ⟨by omega, by omega⟩
        have w9 : IntKind.i64.wrap ((z1 : Int) * 131 + (z2 : Int) * 1117 + (p : Int) * 29 + (dd : Int) * 53) = (z1 : Int) * 131 + (z2 : Int) * 1117 + (p : Int) * 29 + (dd : Int) * 53 := IntWalk.i64_in _ ⟨by omega, by omega⟩
        go_enter Try.func57, Try.ntmps57
        go_wp2
        go_quiet (fail)
        obtain ⟨X, hX⟩ : ∃ X : Nat, (z1 : Int) * 131 + (z2 : Int) * 1117 + (p : Int) * 29 + (dd : Int) * 53 = X := ⟨z1 * 131 + z2 * 1117 + p * 29 + dd * 53, by omega⟩
        have hx : bits .xor .i64 (X : Int) ((X : Int) / 64) = ((X ^^^ X / 64 : Nat) : Int) := by
          rw [show ((X : Int) / 64) = ((X / 64 : Nat) : Int) by omega]
          exact xor_i64_nat _ _ (by omega) (by omega)
        obtain ⟨y, hy⟩ : ∃ y : Nat, bits .xor .i64 (X : Int) ((X : Int) / 64) = y := ⟨_, hx⟩
        clear hx
        go_wp2
        go_ret
        exact ⟨y % M, rfl, .inl (by have := Nat.mod_lt y hM1; omega), grown_drewN HG.out nq, HS.out.later (since_drewN (World.Since.refl _ _) nq)⟩

end Go.Proofs.Ytbedkjpbdkgjpaa
end

section
/- Steps of the walks through the drawing functions. -/
namespace Go.Proofs.Ytbedkjpbdkgjpaa
open Go.RowKit Go.Deep

theorem grown_new {a b c : World} {G : Nat} {row : Option Nat} (h : a.grownBy b (some G)) (k : b.grownBy c row) (hr : ∀ i, row = some i → a.heap.size ≤ i) : a.grownBy c (some G) :=
  ⟨k.os.trans h.os, k.tape.trans h.tape, k.output.trans h.output, Nat.le_trans h.size k.size, fun i hi hn => (k.block i (Nat.lt_of_lt_of_le hi h.size) (fun e => by have := hr i e.symm; omega)).trans (h.block i hi hn)⟩
theorem grown_alloc {a b : World} {G : Nat} (h : a.grownBy b (some G)) (o : Obj) : a.grownBy (b.alloc o) (some G) := grown_new h (World.grownBy_alloc b o none) (fun i e => by cases e)
theorem grown_set {a b : World} {G : Nat} (h : a.grownBy b (some G)) {g k : Nat} (hg : a.heap.size ≤ g) (v : Value) : a.grownBy (b.setCell ⟨g, k, none⟩ v) (some G) :=
  grown_new h (row := some g) ⟨rfl, rfl, rfl, by simp, fun i _ hi => Below.heap_setCell _ _ _ _ (fun e => hi (by rw [e]))⟩ (fun i e => by cases e; exact hg)
theorem cell_grown {a b : World} {G : Nat} {p : Addr} {v : Value} (h : a.cell? p = some v) (hg : a.grownBy b (some G)) (hp : p.block ≠ G) : b.cell? p = some v := hg.cell h (fun e => hp (by injection e))
theorem cell_set_far {w : World} {g j : Nat} {v : Value} {p : Addr} {u : Value} (h : w.cell? p = some u) (hne : p.block ≠ g) : (w.setCell ⟨g, j, none⟩ v).cell? p = some u := by
  rw [World.cell?_setCell_other _ _ _ _ (fun e => hne (by rw [← e]))]; exact h

/-- append(row, y). -/
theorem wpList_append_int {P : Program} (w : World) {ops : Array Oper} {rest : List Oper} {o : Oper} {a : Act} {Q : Exit → Act → World → Prop} (hgd : o.guard = none) (s x : Operand) (t : TypeId)
    (ho : o.op = .call { callee := .builtin .append, args := #[s, x], argTypes := #[t, t] }) (B : Nat) (i : TypeInfo) (ht : P.underlying t = some (.slice 3)) (hi : P.info? 3 = some i) (hz : i.zero = some (.int .i64 0)) (hsz : i.size = 1) (hby : i.bytes = 8)
    (v : Value) (xs : List Int) (hs : a.eval s = v) (h : RW B w v xs) (y : Int) (hx : a.eval x = .slice (some ⟨w.heap.size, 0, none⟩) 1 1) (hlen : xs.length ≤ 1000) (hB : B ≤ w.heap.size)
    (hK : ∀ v' w', RW B w' v' (xs ++ [y]) → w.grownBy w' v.ownBlock → wpList P ops Q rest (a.put o.dst v') w') : wpList P ops Q (o :: rest) a (w.alloc (.cells #[.int .i64 y] 3)) := by
  refine wpList_append_own _ hgd s x t ho B 3 i (.int .i64 0) 1 8 ht hi hz hsz hby rfl (by decide) v xs.length (xs.map (Value.int .i64)) hs (World.ownsRow.alloc h _) ⟨w.heap.size, 0, none⟩ 1 1 [.int .i64 y] hx rfl (cell_one_at _ _ _ rfl) (fun u hu => by simp at hu; subst hu; rfl) (by unfold maxLen; omega) (by omega) (by simp; omega) ?_
  intro v' w' hown hg _
  refine hK v' w' ?_ ⟨hg.os, hg.tape, hg.output, by have := hg.size; simp at this; omega, fun j hj hn => (hg.block j (by simp; omega) hn).trans (Below.heap_alloc _ _ _ hj)⟩
  unfold RW
  rw [List.length_append, List.map_append]
  exact hown

/-- append(out, row). -/
theorem wpList_append_row {P : Program} (w : World) {ops : Array Oper} {rest : List Oper} {o : Oper} {a : Act} {Q : Exit → Act → World → Prop} (hgd : o.guard = none) (s x : Operand) (t : TypeId)
    (ho : o.op = .call { callee := .builtin .append, args := #[s, x], argTypes := #[t, t] }) (B B' : Nat) (i : TypeInfo) (ht : P.underlying t = some (.slice 22)) (hi : P.info? 22 = some i) (hz : i.zero = some (.slice none 0 0)) (hsz : i.size = 1) (hby : i.bytes = 24)
    (v : Value) (l : List (List Int)) (A : Nat → Option Addr) (C : Nat → Nat) (hs : a.eval s = v) (h : BD B w v l A C) (g cp m : Nat) (y : List Int) (hy : y.length = m) (h0 : 0 < m) (hr : RW B' w (.slice (some ⟨g, 0, none⟩) m cp) y) (hfresh : ∀ r, r < l.length → A r ≠ some ⟨g, 0, none⟩)
    (hBB : B ≤ B') (hx : a.eval x = .slice (some ⟨w.heap.size, 0, none⟩) 1 1) (hlen : l.length ≤ 1000) (hB : B ≤ w.heap.size)
    (hK : ∀ v' w' A' C', BD B w' v' (l ++ [y]) A' C' → w.grownBy w' v.ownBlock → wpList P ops Q rest (a.put o.dst v') w') : wpList P ops Q (o :: rest) a (w.alloc (.cells #[.slice (some ⟨g, 0, none⟩) m cp] 22)) := by
  subst hy
  refine wpList_append_own _ hgd s x t ho B 22 i (.slice none 0 0) 1 24 ht hi hz hsz hby rfl (by decide) v l.length _ hs (h.own.alloc _) ⟨w.heap.size, 0, none⟩ 1 1 [.slice (some ⟨g, 0, none⟩) y.length cp] hx rfl (cell_one_at _ _ _ rfl) (fun u hu => by simp at hu; subst hu; rfl) (by unfold maxLen; omega) (by omega) (by simp; omega) ?_
  intro v' w' hown hg _
  refine hK v' w' _ _ (h.push h0 (hr.base hBB) hfresh hown hg) ⟨hg.os, hg.tape, hg.output, by have := hg.size; simp at this; omega, fun j hj hn => (hg.block j (by simp; omega) hn).trans (Below.heap_alloc _ _ _ hj)⟩

end Go.Proofs.Ytbedkjpbdkgjpaa
end

section
/- The contract of spec.l91Table. -/
namespace Go.Proofs.Ytbedkjpbdkgjpaa
open Go.RowKit Go.Deep

theorem RW.set' {B : Nat} {w : World} {g cap k m : Nat} {x : List Int} (hm : x.length = m) (h : RW B w (.slice (some ⟨g, 0, none⟩) m cap) x) (hk : k < m) (y : Int) : RW B (w.setCell ⟨g, k, none⟩ (.int .i64 y)) (.slice (some ⟨g, 0, none⟩) m cap) (x.set k y) := by
  subst hm; exact h.set hk y
theorem RW.rowB {B : Nat} {w : World} {g k cap : Nat} {x : List Int} (h : RW B w (.slice (some ⟨g, 0, none⟩) k cap) x) (h0 : 0 < x.length) : B ≤ g ∧ RowB w g x := by
  obtain ⟨g', cap', e, h1, h2⟩ := h.form h0
  injection e with e
  injection e with e
  injection e with e
  subst e
  exact ⟨h1, h2⟩
theorem grown_set_any (w : World) (g k : Nat) (v : Value) : w.grownBy (w.setCell ⟨g, k, none⟩ v) (some g) := ⟨rfl, rfl, rfl, by simp, fun i _ hi => Below.heap_setCell _ _ _ _ (fun e => hi (by rw [e]))⟩
theorem grown_undrew' {W w' : World} {row : Option Nat} (h : W.drew.grownBy w' row) : W.grownBy w' row := ⟨h.os, h.tape, h.output, h.size, h.block⟩
theorem lens_snoc {l : List (List Int)} {x : List Int} {r m : Nat} (hl : l.length = r) (h : ∀ j, j < r → (l.getD j []).length = m) (hx : x.length = m) : ∀ j, j < r + 1 → ((l ++ [x]).getD j []).length = m := by
  intro j hj
  by_cases e : j = r
  · subst e; subst hl; simpa [List.getD] using hx
  · rw [show (l ++ [x]).getD j [] = l.getD j [] by simp [List.getD, List.getElem?_append_left (show j < l.length by omega)]]
    exact h j (by omega)

set_option maxRecDepth 100000 in
set_option maxHeartbeats 8000000 in
theorem l91Table_any (w0 w : World) (G nb c p n m : Nat) (a : Option Addr) (h : RD w0 w G a nb c 62 p) (hn : n ≤ 10) (hm1 : 1 ≤ m) (hm : m ≤ 10) (hp : p ≤ 50000) :
    Calls Try.prog 80 #[.pointer (some ⟨G, 0, none⟩), .int .i64 n, .int .i64 m] w fun e w' => ∃ v l A C p', e = .returned v ∧ l.length = n ∧ (∀ j, j < n → (l.getD j []).length = m) ∧ w.grownBy w' (some G) ∧ RD w0 w' G a nb c 62 p' ∧ p' ≤ p + 500 ∧ BD w.heap.size w' v l A C := by
  obtain ⟨i42, hi42⟩ := info42_parts
  obtain ⟨i3, hi3⟩ := info3_parts
  have HI := Lib.hid hi42
  have HJ := Lib.hid hi3
  have hG := h.lt
  have HRD := Lib.hid h
  clear h hi42 hi3
  go_enter Try.func80, Try.ntmps80
  go_wp2_with fail
  refine (pick_any w0 _ G nb c _ a _ (HRD.out.grown (World.grownBy_alloc w _ none) (fun k e => by cases e)) (by omega)).mono ?_
  rintro e w1 ⟨κ, rfl, hκ, hg, hd⟩
  have hk : κ = 0 ∨ κ = 1 ∨ κ = 2 ∨ κ = 3 := by omega
  have HST := Lib.hid ((BD.start w (fun _ => none) (fun _ => 0) (Nat.le_refl _)).kept hg hG)
  have HG1 := Lib.hid (grown_trans (World.grownBy_alloc w _ _) hg)
  have HD1 := Lib.hid hd
  clear hg hd hκ HRD
  go_wp2
  go_loopg [7, 9, 10, 11, 12, 13] n (fun g v i _ _ _ _ wr => ∃ r A C p' l, r ≤ n ∧ g = n - r ∧ i = .int .i64 (r : Nat) ∧ List.length l = r ∧ (∀ j, j < r → (List.getD l j []).length = m) ∧ w.grownBy wr (some G) ∧ RD w0 wr G a nb c 62 p' ∧ p' ≤ p + 1 + 40 * r ∧ BD w.heap.size wr v l A C)
  case atStart => exact ⟨0, _, _, _, [], Nat.zero_le _, rfl, rfl, rfl, fun j hj => by omega, HG1.out, HD1.out, by omega, HST.out⟩
  case round =>
    obtain ⟨r, A, C, p', l, hr, rfl, rfl, hl, hlm, hgw, hd, hp', hB⟩ := hrel
    clear HST HG1 HD1
    by_cases hlt : r < n
    · have HB := Lib.hid hB
      have HGW := Lib.hid hgw
      have HD := Lib.hid hd
      have hzw := hgw.size
      obtain ⟨wo, hwo⟩ : ∃ wo : World, wo = wr := ⟨_, rfl⟩
      clear hB hgw hd
      go_wp2
      subst hwo
      go_loopg [10, 11, 12] m (fun g v k _ wi => ∃ q x p'', q ≤ m ∧ g = m - q ∧ k = .int .i64 (q : Nat) ∧ List.length x = q ∧ wo.grownBy wi (some G) ∧ RD w0 wi G a nb c 62 p'' ∧ p'' ≤ p' + 2 * q ∧ RW wo.heap.size wi v x)
      case atStart => exact ⟨0, [], p', Nat.zero_le _, rfl, rfl, rfl, World.grownBy_alloc _ _ _, HD.out.grown (World.grownBy_alloc _ _ none) (fun k e => by cases e), by omega, World.ownsRow_made wo #[] 0 (Nat.le_refl _) (Nat.zero_le _) rfl⟩
      case round =>
        obtain ⟨q, x, p'', hq, rfl, rfl, hxl, hgi, hdi, hp'', hW⟩ := hrel
        clear HD
        have HD := Lib.hid hdi
        have HG := Lib.hid hgi
        have HW := Lib.hid hW
        have hz1 := hgi.size
        clear hdi hgi hW
        by_cases hlq : q < m
        · rcases hk with rfl | rfl | rfl | rfl
          all_goals
            go_wp2_with (first
              | (go_at_call 57; refine (pick_any w0 _ G nb c _ a _ HD.out (by omega)).mono ?_; rintro e w2 ⟨y, rfl, _, hg, hd⟩; have HW := Lib.hid (HW.out.kept hg (by omega)); have HG := Lib.hid (grown_trans HG.out hg); have HD := Lib.hid hd; have hz2 := HG.out.size; clear hd hg)
              | (at_builtin; (refine wpList_append_int _ rfl (.tmp 42) (.tmp 44) 22 rfl wo.heap.size i3 Try.underlying22 HJ.out.1 HJ.out.2.1 HJ.out.2.2.1 HJ.out.2.2.2 _ x rfl HW.out _ rfl (by omega) (by omega) ?_); intro v' w3 hrw hgr; have hge := fun i e => (World.ownsRow.lt HW.out i e).1; have HD := Lib.hid (HD.out.grown hgr (fun i e => by have := hge i e; omega)); have HG := Lib.hid (grown_new HG.out hgr hge); have HW := Lib.hid hrw; clear hgr hrw hge))
            go_roundg (m - (q + 1))
            case measure => omega
            case rel => exact ⟨q + 1, x ++ [_], _, by omega, rfl, by go_num, by rw [List.length_append, hxl]; rfl, HG.out, HD.out, by omega, HW.out⟩
        · have hqm : m = q := by omega
          subst hqm
          obtain ⟨g1, cp1, hv, hge, hrb⟩ := HW.out.form (by omega)
          rw [hxl] at hv
          subst hv
          clear hrb
          rcases hk with rfl | rfl | rfl | rfl
          · go_wp2_with (first
              | (at_builtin; (refine wpList_append_row _ rfl (.tmp 77) (.tmp 79) 36 rfl w.heap.size wo.heap.size i42 Try.underlying36 HI.out.1 HI.out.2.1 HI.out.2.2.1 HI.out.2.2.2 _ l A C rfl (HB.out.kept HG.out hG) g1 cp1 m x hxl (by omega) HW.out (HB.out.fresh rfl hge) hzw rfl (by omega) (by omega) ?_); intro v' w3 A' C' hbd hgr; have hbge := fun i e => (World.ownsRow.lt (HB.out.kept HG.out hG).own i e).1; have HD := Lib.hid (HD.out.grown hgr (fun i e => by have := hbge i e; omega)); have HGG := Lib.hid (grown_new (grown_trans HGW.out HG.out) hgr hbge); have HBD := Lib.hid hbd; clear hgr hbd hbge))
            go_roundg (n - (r + 1))
            case measure => omega
            case rel => exact ⟨r + 1, A', C', _, l ++ [x], by omega, rfl, by go_num, by rw [List.length_append, hl]; rfl, lens_snoc hl hlm hxl, HGG.out, HD.out, by omega, HBD.out⟩
          · go_wp2_with (first
              | (at_builtin; (refine wpList_append_row _ rfl (.tmp 77) (.tmp 79) 36 rfl w.heap.size wo.heap.size i42 Try.underlying36 HI.out.1 HI.out.2.1 HI.out.2.2.1 HI.out.2.2.2 _ l A C rfl (HB.out.kept HG.out hG) g1 cp1 m x hxl (by omega) HW.out (HB.out.fresh rfl hge) hzw rfl (by omega) (by omega) ?_); intro v' w3 A' C' hbd hgr; have hbge := fun i e => (World.ownsRow.lt (HB.out.kept HG.out hG).own i e).1; have HD := Lib.hid (HD.out.grown hgr (fun i e => by have := hbge i e; omega)); have HGG := Lib.hid (grown_new (grown_trans HGW.out HG.out) hgr hbge); have HBD := Lib.hid hbd; clear hgr hbd hbge))
            go_roundg (n - (r + 1))
            case measure => omega
            case rel => exact ⟨r + 1, A', C', _, l ++ [x], by omega, rfl, by go_num, by rw [List.length_append, hl]; rfl, lens_snoc hl hlm hxl, HGG.out, HD.out, by omega, HBD.out⟩
          · go_wp2_with (first
              | (at_builtin; (refine wpList_append_row _ rfl (.tmp 77) (.tmp 79) 36 rfl w.heap.size wo.heap.size i42 Try.underlying36 HI.out.1 HI.out.2.1 HI.out.2.2.1 HI.out.2.2.2 _ l A C rfl (HB.out.kept HG.out hG) g1 cp1 m x hxl (by omega) HW.out (HB.out.fresh rfl hge) hzw rfl (by omega) (by omega) ?_); intro v' w3 A' C' hbd hgr; have hbge := fun i e => (World.ownsRow.lt (HB.out.kept HG.out hG).own i e).1; have HD := Lib.hid (HD.out.grown hgr (fun i e => by have := hbge i e; omega)); have HGG := Lib.hid (grown_new (grown_trans HGW.out HG.out) hgr hbge); have HBD := Lib.hid hbd; clear hgr hbd hbge))
            go_roundg (n - (r + 1))
            case measure => omega
            case rel => exact ⟨r + 1, A', C', _, l ++ [x], by omega, rfl, by go_num, by rw [List.length_append, hl]; rfl, lens_snoc hl hlm hxl, HGG.out, HD.out, by omega, HBD.out⟩
          · by_cases hr0 : r = 0
            · have hr0' : decide ((0 : Int) < (r : Int)) = false := by simp; omega
              go_wp2_with (first
                | (at_builtin; (refine wpList_append_row _ rfl (.tmp 77) (.tmp 79) 36 rfl w.heap.size wo.heap.size i42 Try.underlying36 HI.out.1 HI.out.2.1 HI.out.2.2.1 HI.out.2.2.2 _ l A C rfl (HB.out.kept HG.out hG) g1 cp1 m x hxl (by omega) HW.out (HB.out.fresh rfl hge) hzw rfl (by omega) (by omega) ?_); intro v' w3 A' C' hbd hgr; have hbge := fun i e => (World.ownsRow.lt (HB.out.kept HG.out hG).own i e).1; have HD := Lib.hid (HD.out.grown hgr (fun i e => by have := hbge i e; omega)); have HGG := Lib.hid (grown_new (grown_trans HGW.out HG.out) hgr hbge); have HBD := Lib.hid hbd; clear hgr hbd hbge))
              go_roundg (n - (r + 1))
              case measure => omega
              case rel => exact ⟨r + 1, A', C', _, l ++ [x], by omega, rfl, by go_num, by rw [List.length_append, hl]; rfl, lens_snoc hl hlm hxl, HGG.out, HD.out, by omega, HBD.out⟩
            · have hr0' : decide ((0 : Int) < (r : Int)) = true := by simp; omega
              go_wp2_with fail
              refine (pick_any w0 _ G nb c _ a _ HD.out (by omega)).mono ?_
              rintro e w2 ⟨y, rfl, hy3, hg, hd⟩
              have HW := Lib.hid (HW.out.kept hg (by omega))
              have HG := Lib.hid (grown_trans HG.out hg)
              have HD := Lib.hid hd
              have hz2 := HG.out.size
              clear hd hg
              by_cases hy0 : y = 0
              · subst hy0
                obtain ⟨s, hs⟩ : ∃ s, r = s + 1 := ⟨r - 1, by omega⟩
                have hr1 : IntKind.i64.wrap ((r : Int) - 1) = (s : Int) := by rw [show (r : Int) - 1 = s by omega]; exact IntWalk.i64_in _ ⟨by omega, by omega⟩
                have hsr : s < r := by omega
                have HSS := Lib.hid hs
                clear hs
                obtain ⟨bb, cpp, cur, hv, hbb, hcur, hc⟩ := HB.out.top (by omega)
                rw [hl] at hv
                subst hv
                have ct := hc s (by omega)
                obtain ⟨g2, hA, hg2, hrb⟩ := HB.out.row (r := s) (by omega)
                rw [hlm s hsr, hA] at ct
                have t1 : wo.cell? ⟨bb, s, none⟩ = some (.slice (some ⟨g2, 0, none⟩) m (C s)) := by simp [World.cell?, hcur, ct]
                have lb : bb < wo.heap.size := (Array.getElem?_eq_some_iff.1 hcur).1
                have lg : g2 < wo.heap.size := hrb.lt
                have HT1 := Lib.hid t1
                have HRB := Lib.hid hrb
                have HA := Lib.hid hA
                have hls := hlm s hsr
                clear t1 hcur hc ct hrb hA
                go_wp2
                go_loopg [13] m (fun g k wi => ∃ q x p'', q ≤ m ∧ g = m - q ∧ k = .int .i64 (q : Nat) ∧ List.length x = m ∧ wo.grownBy wi (some G) ∧ RD w0 wi G a nb c 62 p'' ∧ p'' ≤ p' + 2 * m + 1 + q ∧ RW wo.heap.size wi (.slice (some ⟨g1, 0, none⟩) m cp1) x)
                case atStart => exact ⟨0, x, _, Nat.zero_le _, rfl, rfl, hxl, HG.out, HD.out, by omega, HW.out⟩
                case round =>
                  obtain ⟨q, x, p'', hq, rfl, rfl, hxl, hgi, hdi, hp'', hW⟩ := hrel
                  clear HD HG HW
                  have HD := Lib.hid hdi
                  have HG := Lib.hid hgi
                  have HW := Lib.hid hW
                  have hz1 := hgi.size
                  clear hdi hgi hW
                  by_cases hlq : q < m
                  · obtain ⟨z, hz⟩ : ∃ z, z = (l.getD s []).getD q 0 := ⟨_, rfl⟩
                    have q2 := HRB.out.cell (i := q) (by rw [hls]; exact hlq)
                    rw [← hz] at q2
                    have d1 := cell_grown HT1.out HG.out (show bb ≠ G by omega)
                    have d0 := cell_grown q2 HG.out (show g2 ≠ G by omega)
                    obtain ⟨hge2, hrw⟩ := HW.out.rowB (by omega)
                    have s1 := hrw.cell (i := q) (by omega)
                    have s2 := hrw.frozen q
                    clear q2 hz hrw
                    go_wp2
                    go_region_held3 (fun w' => w'.cell? ⟨bb, s, none⟩ = some (.slice (some ⟨g2, 0, none⟩) m (C s)) ∧ w'.cell? ⟨g2, q, none⟩ = some (.int .i64 z))
                      (first | exact ⟨d1, d0⟩ | exact ⟨q1, q0⟩ | exact ⟨cell_set_far q1 (by show bb ≠ g1; omega), cell_set_far q0 (by show g2 ≠ g1; omega)⟩)
                      (first
                        | (go_at_call 57; refine (pick_any w0 _ G nb c _ a _ (HD.out.later (World.Since.refl _ _).drew) (by omega)).mono ?_; rintro e w3 ⟨y3, rfl, _, hg, hd⟩; have hg := grown_undrew' hg; have HW := Lib.hid (HW.out.kept hg (by omega)); have HG := Lib.hid (grown_trans HG.out hg); have HD := Lib.hid hd; have q1 := cell_grown d1 hg (show bb ≠ G by omega); have q0 := cell_grown d0 hg (show g2 ≠ G by omega); have k1 := cell_grown s1 hg (show g1 ≠ G by omega); have k2 : w3.frozen? ⟨g1, q, none⟩ = false := (World.frozen?_of_block (hg.block g1 (World.block_lt_of_cell? _ _ s1) (fun e => by injection e with e; omega))).trans s2; clear hg hd))
                    clear d1 d0 q1 q0 k1 k2 s1 s2
                    go_wp2
                    go_roundg (m - (q + 1))
                    case measure => omega
                    case rel => exact ⟨q + 1, x.set q _, _, by omega, rfl, by go_num, by rw [List.length_set]; exact hxl, grown_set HG.out hge2 _, HD.out.grown (row := some g1) (grown_set_any _ _ _ _) (fun i e => by cases e; omega), by omega, RW.set' hxl HW.out hlq _⟩
                  · have hqm : m = q := by omega
                    subst hqm
                    go_wp2_with (first
                      | (at_builtin; (refine wpList_append_row _ rfl (.tmp 77) (.tmp 79) 36 rfl w.heap.size wo.heap.size i42 Try.underlying36 HI.out.1 HI.out.2.1 HI.out.2.2.1 HI.out.2.2.2 _ l A C rfl (HB.out.kept HG.out hG) g1 cp1 m x hxl (by omega) HW.out (HB.out.fresh rfl hge) hzw rfl (by omega) (by omega) ?_); intro v' w3 A' C' hbd hgr; have hbge := fun i e => (World.ownsRow.lt (HB.out.kept HG.out hG).own i e).1; have HD := Lib.hid (HD.out.grown hgr (fun i e => by have := hbge i e; omega)); have HGG := Lib.hid (grown_new (grown_trans HGW.out HG.out) hgr hbge); have HBD := Lib.hid hbd; clear hgr hbd hbge))
                    go_roundg (n - (r + 1))
                    case measure => omega
                    case rel => exact ⟨r + 1, A', C', _, l ++ [x], by omega, rfl, by go_num, by rw [List.length_append, hl]; rfl, lens_snoc hl hlm hxl, HGG.out, HD.out, by omega, HBD.out⟩
              · have hy0' : ((y : Int) == 0) = false := by simp; omega
                go_wp2_with (first
                  | (at_builtin; (refine wpList_append_row _ rfl (.tmp 77) (.tmp 79) 36 rfl w.heap.size wo.heap.size i42 Try.underlying36 HI.out.1 HI.out.2.1 HI.out.2.2.1 HI.out.2.2.2 _ l A C rfl (HB.out.kept HG.out hG) g1 cp1 m x hxl (by omega) HW.out (HB.out.fresh rfl hge) hzw rfl (by omega) (by omega) ?_); intro v' w3 A' C' hbd hgr; have hbge := fun i e => (World.ownsRow.lt (HB.out.kept HG.out hG).own i e).1; have HD := Lib.hid (HD.out.grown hgr (fun i e => by have := hbge i e; omega)); have HGG := Lib.hid (grown_new (grown_trans HGW.out HG.out) hgr hbge); have HBD := Lib.hid hbd; clear hgr hbd hbge))
                go_roundg (n - (r + 1))
                case measure => omega
                case rel => exact ⟨r + 1, A', C', _, l ++ [x], by omega, rfl, by go_num, by rw [List.length_append, hl]; rfl, lens_snoc hl hlm hxl, HGG.out, HD.out, by omega, HBD.out⟩
    · have : r = n := by omega
      subst this
      go_wp2
      go_ret
      exact ⟨_, l, A, C, p', rfl, hl, hlm, hgw, hd, by omega, hB⟩

end Go.Proofs.Ytbedkjpbdkgjpaa
end

section
/- A drawn table: how it is read, and how one of its cells or rows is replaced. -/
namespace Go.Proofs.Ytbedkjpbdkgjpaa
open Go.RowKit Go.Deep

theorem BD.inT {B : Nat} {w : World} {v : Value} {l : List (List Int)} {A : Nat → Option Addr} {C : Nat → Nat} (h : BD B w v l A C) : ∃ a cap, v = .slice a l.length cap ∧ InT B w.heap.size w a l := by
  by_cases h0 : 0 < l.length
  · obtain ⟨b, cap, cur, e, hb, hg, hc⟩ := h.top h0
    refine ⟨_, cap, e, fun _ => ⟨b, 0, A, fun r => ((A r).getD default).block, fun _ => 0, C, rfl, ⟨hb, (Array.getElem?_eq_some_iff.1 hg).1⟩, fun r hr => ⟨?_, fun h1 => ?_⟩⟩⟩
    · rw [Nat.zero_add]; simp [World.cell?, hg, hc r hr]
    · obtain ⟨g, e, hB, hw⟩ := h.row hr
      have e' : ((A r).getD default).block = g := by rw [e]; rfl
      dsimp only
      rw [e']
      exact ⟨e, ⟨hB, hw.lt⟩, fun i hi => by rw [Nat.zero_add]; exact hw.cell hi⟩
  · rcases h.own.2 with ⟨hv, hn⟩ | ⟨g, cap, cur, e, _⟩
    · exact ⟨none, 0, by rw [hv, hn], fun h => absurd h h0⟩
    · exact ⟨_, cap, e, fun h => absurd h h0⟩

theorem BD.row_ne {B : Nat} {w : World} {l : List (List Int)} {A : Nat → Option Addr} {C : Nat → Nat} {b cap n : Nat} (h : BD B w (.slice (some ⟨b, 0, none⟩) n cap) l A C) {g : Nat} {x : List Int} (hw : RowB w g x) : g ≠ b := by
  rintro rfl
  obtain ⟨cs, hc, _⟩ := hw
  rcases h.own.2 with ⟨e, _⟩ | ⟨g', cap', cur, e, _, hgg, _⟩
  · cases e
  · injection e with e
    injection e with e
    injection e with e
    rw [← e, hc] at hgg
    injection hgg with hgg
    injection hgg with _ e2 _
    exact absurd e2 (by decide)

theorem BD.addr_ne {B : Nat} {w : World} {v : Value} {l : List (List Int)} {A : Nat → Option Addr} {C : Nat → Nat} (h : BD B w v l A C) {r j g g' : Nat} (hr : r < l.length) (hj : j < l.length) (hA : A r = some ⟨g, 0, none⟩) (hA' : A j = some ⟨g', 0, none⟩) (hne : j ≠ r) : g' ≠ g := by
  rintro rfl
  exact hne (h.apart j r hj hr (by rw [hA, hA']))

theorem BD.cellTop {B : Nat} {w : World} {l : List (List Int)} {A : Nat → Option Addr} {C : Nat → Nat} {b cap n : Nat} (h : BD B w (.slice (some ⟨b, 0, none⟩) n cap) l A C) {r : Nat} (hr : r < l.length) :
    w.cell? ⟨b, r, none⟩ = some (.slice (A r) (l.getD r []).length (C r)) ∧ w.frozen? ⟨b, r, none⟩ = false ∧ b < w.heap.size := by
  obtain ⟨b', cp', cur, hv, _, hcur, hc⟩ := h.top (by omega)
  injection hv with hv _ _
  injection hv with hv
  injection hv with hv
  subst hv
  exact ⟨by simp [World.cell?, hcur, hc r hr], by simp [World.frozen?, hcur], (Array.getElem?_eq_some_iff.1 hcur).1⟩

/-- A row is replaced. -/
theorem BD.setRow {B : Nat} {w w5 : World} {l : List (List Int)} {A : Nat → Option Addr} {C : Nat → Nat} {b cap n : Nat} (h : BD B w (.slice (some ⟨b, 0, none⟩) n cap) l A C) {r g : Nat} (hr : r < l.length) (hA : A r = some ⟨g, 0, none⟩) (hg : w.grownBy w5 (some g)) {g2 cp k : Nat} {y : List Int}
    (hy : RW B w5 (.slice (some ⟨g2, 0, none⟩) k cp) y) (hk : y.length = k) (h0 : 0 < k) : InT B w5.heap.size (w5.setCell ⟨b, r, none⟩ (.slice (some ⟨g2, 0, none⟩) k cp)) (some ⟨b, 0, none⟩) (l.set r y) := by
  subst hk
  obtain ⟨b', cap', cur, e, hb, hcur, hc⟩ := h.top (by omega)
  injection e with e en _
  injection e with e
  injection e with e
  subst e
  obtain ⟨g', hA', hBg, hrb⟩ := h.row hr
  rw [hA] at hA'
  injection hA' with hA'
  injection hA' with hA'
  subst hA'
  have hgb := h.row_ne hrb
  have hbl : b < w.heap.size := (Array.getElem?_eq_some_iff.1 hcur).1
  have hcur5 : w5.heap[b]? = some (.cells cur 22 (0, 0)) := (hg.block b hbl (fun e => by injection e with e; omega)).trans hcur
  obtain ⟨hB2, hrb2⟩ := hy.rowB h0
  have hg2b : g2 ≠ b := by
    rintro rfl
    obtain ⟨cs, h1, _⟩ := hrb2
    rw [h1] at hcur5
    injection hcur5 with h2
    injection h2 with _ h2 _
    exact absurd h2 (by decide)
  have hbl5 : b < w5.heap.size := (Array.getElem?_eq_some_iff.1 hcur5).1
  intro _
  refine ⟨b, 0, fun j => if j = r then some ⟨g2, 0, none⟩ else A j, fun j => if j = r then g2 else ((A j).getD default).block, fun _ => 0, fun j => if j = r then cp else C j, rfl, ⟨hb, hbl5⟩, fun j hj => ?_⟩
  rw [List.length_set] at hj
  show (w5.setCell ⟨b, r, none⟩ _).cell? ⟨b, 0 + j, none⟩ = _ ∧ _
  rw [Nat.zero_add]
  by_cases ej : j = r
  · subst ej
    have e1 : (l.set j y).getD j [] = y := by simp [List.getD, hj]
    rw [e1]
    simp only [↓reduceIte]
    refine ⟨World.cell?_setCell_same' _ _ _ (by simp [World.cell?, hcur5, hc j hj]), fun _ => ⟨trivial, ⟨hB2, hrb2.lt⟩, fun i hi => ?_⟩⟩
    rw [Nat.zero_add]
    exact cell_set_far (hrb2.cell hi) hg2b
  · have e1 : (l.set r y).getD j [] = l.getD j [] := by simp [List.getD, List.getElem?_set_ne (Ne.symm ej)]
    rw [e1]
    simp only [if_neg ej]
    obtain ⟨gj, hAj, hBj, hrbj⟩ := h.row hj
    have hgj := h.addr_ne hr hj hA hAj ej
    have hrb5 : RowB w5 gj (l.getD j []) := hrbj.of_block (hg.block gj hrbj.lt (fun e => by injection e with e; omega))
    have hgjb := h.row_ne hrbj
    refine ⟨?_, fun _ => ?_⟩
    · rw [World.cell?_setCell_other _ _ _ _ (fun e => ej (by injection e with _ e; exact e.symm))]
      simp [World.cell?, hcur5, hc j hj]
    · have e' : ((A j).getD default).block = gj := by rw [hAj]; rfl
      rw [e']
      exact ⟨hAj, ⟨hBj, hrb5.lt⟩, fun i hi => by rw [Nat.zero_add]; exact cell_set_far (hrb5.cell hi) hgjb⟩

/-- A number is replaced. -/
theorem BD.setNum {B : Nat} {w : World} {l : List (List Int)} {A : Nat → Option Addr} {C : Nat → Nat} {b cap n : Nat} (h : BD B w (.slice (some ⟨b, 0, none⟩) n cap) l A C) {r g k : Nat} (hr : r < l.length) (hA : A r = some ⟨g, 0, none⟩) (hk : k < (l.getD r []).length) (z : Int) :
    InT B w.heap.size (w.setCell ⟨g, k, none⟩ (.int .i64 z)) (some ⟨b, 0, none⟩) (l.set r ((l.getD r []).set k z)) := by
  obtain ⟨b', cap', cur, e, hb, hcur, hc⟩ := h.top (by omega)
  injection e with e en _
  injection e with e
  injection e with e
  subst e
  obtain ⟨g', hA', hBg, hrb⟩ := h.row hr
  rw [hA] at hA'
  injection hA' with hA'
  injection hA' with hA'
  subst hA'
  have hgb := h.row_ne hrb
  intro _
  refine ⟨b, 0, A, fun j => ((A j).getD default).block, fun _ => 0, C, rfl, ⟨hb, (Array.getElem?_eq_some_iff.1 hcur).1⟩, fun j hj => ?_⟩
  rw [List.length_set] at hj
  show (w.setCell ⟨g, k, none⟩ _).cell? ⟨b, 0 + j, none⟩ = _ ∧ _
  rw [Nat.zero_add]
  have hlen : ((l.set r ((l.getD r []).set k z)).getD j []).length = (l.getD j []).length := by
    by_cases ej : j = r
    · subst ej; simp [List.getD, hj]
    · simp [List.getD, List.getElem?_set_ne (Ne.symm ej)]
  rw [hlen]
  refine ⟨cell_set_far (by simp [World.cell?, hcur, hc j hj]) (Ne.symm hgb), fun _ => ?_⟩
  obtain ⟨gj, hAj, hBj, hrbj⟩ := h.row hj
  have e' : ((A j).getD default).block = gj := by rw [hAj]; rfl
  dsimp only
  rw [e']
  refine ⟨hAj, ⟨hBj, hrbj.lt⟩, fun i hi => ?_⟩
  rw [Nat.zero_add]
  by_cases ej : j = r
  · subst ej
    rw [hA] at hAj
    injection hAj with hAj
    injection hAj with hAj
    subst hAj
    have e1 : (l.set j ((l.getD j []).set k z)).getD j [] = (l.getD j []).set k z := by simp [List.getD, hj]
    rw [e1]
    by_cases ei : i = k
    · subst ei
      rw [World.cell?_setCell_same' _ _ _ (by rw [hrbj.cell hi]; rfl)]
      simp [List.getD] at hi ⊢
      simp [hi]
    · rw [World.cell?_setCell_other _ _ _ _ (fun e => ei (by injection e with _ e; exact e.symm)), hrbj.cell hi]
      simp [List.getD, List.getElem?_set_ne (Ne.symm ei)]
  · have hgj := h.addr_ne hr hj hA hAj ej
    have e1 : (l.set r ((l.getD r []).set k z)).getD j [] = l.getD j [] := by simp [List.getD, List.getElem?_set_ne (Ne.symm ej)]
    rw [e1]
    exact cell_set_far (hrbj.cell hi) hgj

/-- What the reader does leaves a drawn table. -/
theorem InT.kept {lo hi : Nat} {w w' : World} {a : Option Addr} {l : List (List Int)} {G : Nat} (h : InT lo hi w a l) (hg : w.grownBy w' (some G)) (hG : G < lo) : InT lo hi w' a l :=
  h.frame (lo' := G) (hi' := G + 1) ⟨hg.os, hg.tape, hg.output, hg.size, fun k hk ho => hg.block k hk (fun e => by injection e with e; omega)⟩ (.inr (by omega))

end Go.Proofs.Ytbedkjpbdkgjpaa
end

section
/- The contract of spec.l91Some. -/
namespace Go.Proofs.Ytbedkjpbdkgjpaa
open Go.RowKit Go.Deep

/-- A table that a call has drawn: at least one row, no row empty. -/
def Drawn0 (w w' : World) (R K : Nat) (a : Option Addr) (l : List (List Int)) : Prop :=
  1 ≤ l.length ∧ l.length ≤ R ∧ (∀ j, j < l.length → 1 ≤ (l.getD j []).length ∧ (l.getD j []).length ≤ K + 1) ∧ InT w.heap.size w'.heap.size w' a l

theorem lens_set {l : List (List Int)} {r : Nat} {y : List Int} {n m K : Nat} (hl : l.length = n) (h : ∀ j, j < n → (l.getD j []).length = m) (hm : 1 ≤ m ∧ m ≤ K) (hy : 1 ≤ y.length ∧ y.length ≤ K + 1) : ∀ j, j < (l.set r y).length → 1 ≤ ((l.set r y).getD j []).length ∧ ((l.set r y).getD j []).length ≤ K + 1 := by
  intro j hj
  rw [List.length_set] at hj
  by_cases e : j = r
  · subst e
    rw [show (l.set j y).getD j [] = y by simp [List.getD, hj]]
    exact hy
  · rw [show (l.set r y).getD j [] = l.getD j [] by simp [List.getD, List.getElem?_set_ne (Ne.symm e)], h j (by omega)]
    omega

end Go.Proofs.Ytbedkjpbdkgjpaa
end

section
/- The contract of spec.l6Open, and of what draws one table. -/
namespace Go.Proofs.Ytbedkjpbdkgjpaa
open Go.RowKit Go.Deep

set_option maxHeartbeats 1000000 in
theorem l6Open_any (a : Option Addr) (nb cb : Nat) (w : World) (hc : nb ≤ cb) (h63 : cb ≤ 9223372036854775807) (hb : BytR w a nb) :
    Calls Try.prog 56 #[.slice a nb cb] w fun e w' => ∃ n' c', e = .returned (.pointer (some ⟨w.heap.size, 0, none⟩)) ∧ w.Since w.heap.size w' ∧ w'.heap.size = w.heap.size + 1 ∧ RD w w' w.heap.size a n' c' 62 0 := by
  by_cases hl : 2000 < nb
  · have hl' : decide ((2000 : Int) < (nb : Int)) = true := by simp; omega
    have h2 : (2000 : Int) ≤ (cb : Int) := by omega
    obtain ⟨b, o, rfl, hcell⟩ := hb (by omega)
    go_enter Try.func56, Try.ntmps56
    go_wp2
    go_ret
    exact ⟨_, _, rfl, (World.Since.refl _ _).alloc (Nat.le_refl _) _, by simp, ⟨heap_alloc_new _ _, Nat.le_refl _, (World.Since.refl _ _).alloc (Nat.le_refl _) _, fun _ => ⟨b, o, rfl, fun i hi => hcell i (by omega)⟩, by omega⟩⟩
  · have hl' : decide ((2000 : Int) < (nb : Int)) = false := by simp; omega
    go_enter Try.func56, Try.ntmps56
    go_wp2
    go_ret
    exact ⟨_, _, rfl, (World.Since.refl _ _).alloc (Nat.le_refl _) _, by simp, ⟨heap_alloc_new _ _, Nat.le_refl _, (World.Since.refl _ _).alloc (Nat.le_refl _) _, hb, by omega⟩⟩

/-- A call has drawn a table. -/
def DrawnT (w w' : World) (R K : Nat) (a : Option Addr) (l : List (List Int)) : Prop :=
  1 ≤ l.length ∧ l.length ≤ R ∧ (∀ j, j < l.length → 1 ≤ (l.getD j []).length ∧ (l.getD j []).length ≤ K + 1) ∧ InT w.heap.size w'.heap.size w' a l

end Go.Proofs.Ytbedkjpbdkgjpaa
end

section
/- The contracts of the functions that draw a square. -/
namespace Go.Proofs.Ytbedkjpbdkgjpaa
open Go.RowKit Go.Deep






end Go.Proofs.Ytbedkjpbdkgjpaa
end

section
/- The contract of the function that draws for ValueSolve. -/
namespace Go.Proofs.Ytbedkjpbdkgjpaa
open Go.RowKit Go.Deep

theorem RW.rowR {B : Nat} {w : World} {v : Value} {x : List Int} {j : Nat} (h : RW B w v x) (hx : x.length = j) : ∃ ax cx, v = .slice ax j cx ∧ RowR w ax x := by
  by_cases h0 : 0 < x.length
  · obtain ⟨g, cp, e, hge, hrb⟩ := h.form h0
    rw [hx] at e
    exact ⟨_, cp, e, fun _ => ⟨g, 0, rfl, fun i hi => by rw [Nat.zero_add]; exact hrb.cell hi⟩⟩
  · rcases h.2 with ⟨e, _⟩ | ⟨g, cp, cur, e, _⟩
    · exact ⟨none, 0, by rw [e]; congr 1; omega, fun h => absurd h h0⟩
    · rw [hx] at e
      exact ⟨_, cp, e, fun h => absurd h h0⟩

end Go.Proofs.Ytbedkjpbdkgjpaa
end

section
/- The contracts of laws.sameInts and laws.sameRows. -/
namespace Go.Proofs.Ytbedkjpbdkgjpaa
open Go.RowKit Go.Deep

set_option maxHeartbeats 1000000 in
/-- Two slices that read as one list are equal. -/
theorem sameInts_same (a b : Option Addr) (ca cb n : Nat) (l : List Int) (w : World) (hn : l.length = n) (h63 : n ≤ 9223372036854775807) (ha : RowR w a l) (hb : RowR w b l) :
    Calls Try.prog 32 #[.slice a n ca, .slice b n cb] w fun e w' => e = .returned (.bool true) ∧ Drawn w w' := by
  have H := Lib.hid hn; clear hn
  go_enter Try.func32, Try.ntmps32
  go_wp2
  go_loopg [5] n (fun g i wr => ∃ k : Nat, k ≤ n ∧ g = n - k ∧ i = .int .i64 k ∧ Drawn w wr)
  case atStart => exact ⟨0, Nat.zero_le _, rfl, rfl, Drawn.refl w⟩
  case round =>
    obtain ⟨k, hk, rfl, rfl, hD⟩ := hrel
    by_cases hlt : k < n
    · obtain ⟨b1, o1, rfl, hc1⟩ := ha (by rw [H.out]; omega)
      obtain ⟨b2, o2, rfl, hc2⟩ := hb (by rw [H.out]; omega)
      have c1 := hc1 k (by rw [H.out]; exact hlt)
      have c2 := hc2 k (by rw [H.out]; exact hlt)
      obtain ⟨x, hx⟩ : ∃ x, x = l.getD k 0 := ⟨_, rfl⟩
      rw [← hx] at c1 c2
      rw [← hD.cell] at c1 c2
      clear hx hc1 hc2 ha hb
      go_wp2
      go_quiet (fail)
      go_wp2
      go_roundg (n - (k + 1))
      case measure => omega
      case rel => exact ⟨k + 1, by omega, rfl, by go_num, hD.trans (Drawn.mk _ _)⟩
    · go_wp2
      go_ret
      exact ⟨rfl, hD⟩

end Go.Proofs.Ytbedkjpbdkgjpaa
end

section
/- The walk of laws.FnTurn. -/
namespace Go.Proofs.Ytbedkjpbdkgjpaa
open Go.RowKit Go.Deep

theorem szL_of {l : List (List Int)} {n k : Nat} (h1 : l.length ≤ n) (h2 : ∀ j, j < l.length → (l.getD j []).length ≤ k) (hnk : n * k + n ≤ 1048576) : szL l ≤ 1048576 := by
  have h3 := sumTo_le_mul l k h2 l.length (Nat.le_refl _)
  have h4 : l.length * k ≤ n * k := Nat.mul_le_mul_right _ h1
  have h5 : k * l.length = l.length * k := Nat.mul_comm _ _
  unfold szL
  omega
theorem rows_le {l : List (List Int)} (h : szL l ≤ 1048576) : ∀ r, r < l.length → (l.getD r []).length ≤ 9223372036854775807 := fun r hr => by
  have := row_le l hr
  unfold szL at h
  omega

theorem tab_self {l : List (List Int)} {n m : Nat} (hn : l.length = n) (hm : ∀ r, r < n → (l.getD r []).length = m) : tabF n m (at2 l) = l := by
  refine List.ext_getElem (by rw [tabF_length, hn]) fun r h1 h2 => ?_
  have hr : r < n := by rw [tabF_length] at h1; exact h1
  have e1 : (tabF n m (at2 l))[r] = (tabF n m (at2 l)).getD r [] := by simp [List.getD, h1]
  have e2 : l[r] = l.getD r [] := by simp [List.getD, h2]
  rw [e1, e2, tabF_get _ _ _ _ hr]
  refine List.ext_getElem (by rw [List.length_map, List.length_range, hm r hr]) fun k h3 h4 => ?_
  rw [List.getElem_map, List.getElem_range]
  unfold at2
  obtain ⟨x, hx⟩ : ∃ x, x = l.getD r [] := ⟨_, rfl⟩
  subst hx
  generalize l.getD r [] = x at *
  simp [List.getD, h4]

theorem turnL_turnL {l : List (List Int)} (hT : TabIn l) : turnL (turnL l) = l := by
  have h1 := hT.1
  have hw := hT.width
  have e0 : ((turnL l).getD 0 []).length = l.length := tabF_len _ _ _ _ hw.1
  have e1 : turnL (turnL l) = tabF l.length (l.getD 0 []).length fun k i => at2 (turnL l) i k := by
    show tabF ((turnL l).getD 0 []).length (turnL l).length _ = _
    rw [e0, turnL_length]
  rw [e1]
  have e2 : tabF l.length (l.getD 0 []).length (fun k i => at2 (turnL l) i k) = tabF l.length (l.getD 0 []).length (at2 l) := by
    unfold tabF
    refine List.map_congr_left fun r hr => List.map_congr_left fun k hk => ?_
    exact tabF_at _ _ _ _ _ (List.mem_range.1 hk) (List.mem_range.1 hr)
  rw [e2]
  exact tab_self rfl (fun r hr => hT.row hr)

end Go.Proofs.Ytbedkjpbdkgjpaa
end

section
/- The contract of spec.l91Places: it draws numbers that may be coordinates. -/
namespace Go.Proofs.Ytbedkjpbdkgjpaa
open Go.RowKit Go.Deep

theorem sets_some : ∀ n : Fin 6, ∀ k : Fin 6, k.val ≤ n.val → 1 ≤ (setsTo k.val (2 ^ n.val)).length := by decide +kernel
theorem plOk_some {l : List (List Int)} (h : plOk l = true) : 1 ≤ (plP l).length ∧ (plP l).length ≤ 32 := by
  unfold plOk at h
  simp only [Bool.and_eq_true] at h
  obtain ⟨k, n, _, _, h1, h2, h5, hl, _⟩ := placeB_of h.2.2
  have e1 := sets_some ⟨n, by omega⟩ ⟨k, by omega⟩ (by show k ≤ n; omega)
  simp only at e1
  have e2 := setsTo_len k (2 ^ n)
  have := pow_le5 h5
  omega
theorem OwnR.set {lo hi g : Nat} {w : World} {x : List Int} {c : Addr} (h : OwnR lo hi w (some ⟨g, 0, none⟩) x) {i : Nat} (hi' : i < x.length) (hc : c = ⟨g, i, none⟩) (y : Int) : OwnR lo hi (w.setCell c (.int .i64 y)) (some ⟨g, 0, none⟩) (x.set i y) := fun h0 => by
  subst hc
  obtain ⟨g', e, hg, hx⟩ := h (by omega)
  cases e
  refine ⟨g, rfl, hg, fun j hj => ?_⟩
  rw [List.length_set] at hj
  refine ⟨?_, (World.frozen?_setCell _ _ _ _).trans (hx j hj).2⟩
  by_cases e : i = j
  · subst e
    rw [World.cell?_setCell_same' _ _ _ (by rw [(hx i hj).1]; rfl)]
    simp [List.getD_eq_getElem?_getD, hj]
  · rw [World.cell?_setCell_other _ _ _ _ (by intro q; injection q with _ q; first | exact e q | exact e q.symm), (hx j hj).1]
    simp [List.getD_eq_getElem?_getD, e]
theorem OwnR.kept {lo hi lo' : Nat} {w w' : World} {a : Option Addr} {x : List Int} {G : Nat} (h : OwnR lo hi w a x) (hg : w.grownBy w' (some G)) (hG : G < lo) (h1 : lo' ≤ lo) (h2 : hi ≤ w.heap.size) : OwnR lo' w'.heap.size w' a x := fun h0 => by
  obtain ⟨g, e, hgl, hx⟩ := h h0
  have hb : w'.heap[g]? = w.heap[g]? := hg.block g (by omega) (fun e => by injection e; omega)
  refine ⟨g, e, ⟨by omega, by have := hg.size; omega⟩, fun j hj => ⟨(World.cell?_of_block (a := ⟨g, j, none⟩) hb).trans (hx j hj).1, (World.frozen?_of_block (a := ⟨g, j, none⟩) hb).trans (hx j hj).2⟩⟩

/-- What the draws of coordinates hand back. -/
def PlD (w : World) (e : Ending) (w' : World) : Prop :=
  ∃ (k n : Nat) (p : List Int) (a : Option Addr) (cap : Nat), e = .returned (.tuple #[.int .i64 k, .int .i64 n, .slice a p.length cap]) ∧ w.Since w.heap.size w' ∧ k ≤ 5 ∧ n ≤ 7 ∧ p.length ≤ 32 ∧ RowR w' a p

set_option maxRecDepth 100000 in
set_option maxHeartbeats 2000000 in
theorem l91Places_any (a : Option Addr) (nb cb : Nat) (w : World) (hc : nb ≤ cb) (h63 : cb ≤ 9223372036854775807) (hb : BytR w a nb) :
    Calls Try.prog 55 #[.slice a nb cb] w (PlD w) := by
  have E := Lib.hid (l6Open_any a nb cb w hc h63 hb)
  clear hb
  go_enter Try.func55, Try.ntmps55
  go_wp2_with fail
  refine (E.out).mono ?_
  rintro e w1 ⟨n', c', rfl, hs, hz, hd⟩
  have HD1 := Lib.hid hd
  have HS1 := Lib.hid hs
  clear hd hs
  go_wp2_with fail
  refine (pick_any w _ w.heap.size n' c' _ a _ HD1.out (by omega)).mono ?_
  rintro e w2 ⟨y2, rfl, hy2, hg2, hd2⟩
  have HD2 := Lib.hid hd2
  have HG2 := Lib.hid hg2
  have hz2 := hg2.size
  obtain ⟨n, hn⟩ : ∃ n, 2 + y2 = n := ⟨_, rfl⟩
  have hn5 : 2 ≤ n ∧ n ≤ 5 := by omega
  have hwn : IntKind.i64.wrap (2 + (y2 : Int)) = (n : Int) := (IntWalk.i64_in _ ⟨by omega, by omega⟩).trans (by omega)
  have hwn1 : IntKind.i64.wrap ((n : Int) - 1) = (n : Int) - 1 := IntWalk.i64_in _ ⟨by omega, by omega⟩
  clear hd2 hg2 HD1 hn hy2
  go_wp2_with fail
  refine (pick_any w _ w.heap.size n' c' _ a _ HD2.out (by omega)).mono ?_
  rintro e w3 ⟨y3, rfl, hy3, hg3, hd3⟩
  have HD3 := Lib.hid hd3
  have HG3 := Lib.hid (grown_trans HG2.out hg3)
  have hz3 := hg3.size
  obtain ⟨k, hk⟩ : ∃ k, 1 + y3 = k := ⟨_, rfl⟩
  have hkn : 1 ≤ k ∧ k ≤ 4 := by omega
  have hwk : IntKind.i64.wrap (1 + (y3 : Int)) = (k : Int) := (IntWalk.i64_in _ ⟨by omega, by omega⟩).trans (by omega)
  clear hd3 hg3 HD2 hk hy3 HG2
  go_wp2_with fail
  refine (l91Table_any w _ w.heap.size n' c' _ k n a HD3.out (by omega) (by omega) (by omega) (by omega)).mono ?_
  rintro e w4 ⟨v, l, A, C, p4, rfl, hl, hlm, hg4, hd4, hp4, hB⟩
  obtain ⟨ta, tc, hv, hmt⟩ := hB.matR
  rw [hl] at hv
  subst hv
  have hsz : szL l ≤ 1048576 := szL_of (n := 4) (k := 5) (by omega) (fun j hj => by rw [hlm j (by omega)]; omega) (by decide)
  have EO := Lib.hid (specPlaceOf_any ta tc k l w4 hl hsz hmt)
  have hps := @plOk_some l
  have HD4 := Lib.hid hd4
  have HG4 := Lib.hid (grown_trans HG3.out hg4)
  have hz4 := hg4.size
  clear hd4 hg4 HD3 HG3 hB hmt hl hlm hsz
  obtain ⟨ok, hok⟩ : ∃ ok, plOk l = ok := ⟨_, rfl⟩
  obtain ⟨p, hp⟩ : ∃ p, plP l = p := ⟨_, rfl⟩
  unfold SOwn at EO
  rw [hok, hp] at EO
  rw [hok, hp] at hps
  have HPS := Lib.hid hps
  clear hok hp hps
  go_wp2_with fail
  refine (EO.out).mono ?_
  rintro e w5 ⟨pa, pc, rfl, hs5, hown⟩
  have HS4 := Lib.hid (HS1.out.trans (since_grown HG4.out (Nat.le_refl _) HS1.out.size))
  have HS5 := Lib.hid (HS4.out.trans (since_mono hs5 HS4.out.size))
  have HD5 := Lib.hid (HD4.out.later hs5)
  have hz5 := hs5.size
  cases ok with
  | false =>
    have HS6 := Lib.hid (HS5.out.alloc HS5.out.size (.cells #[] 3))
    clear hs5 hown EO HPS
    go_wp2
    refine bodyPost_ret (results_tmp3 rfl _ _ _) rfl ?_
    exact ⟨k, n, [], _, _, rfl, HS6.out, by omega, by omega, by simp, fun h => by simp at h⟩
  | true =>
    obtain ⟨hL1, hL2⟩ := HPS.out rfl
    simp only [if_true] at hown ⊢
    obtain ⟨g0, rfl, hgl, hgx⟩ := id hown (by omega)
    obtain ⟨L, hL⟩ : ∃ L, p.length = L := ⟨_, rfl⟩
    rw [hL] at hL1 hL2 hgx ⊢
    have HL := Lib.hid hL
    have HO := Lib.hid hown
    have HGX := Lib.hid hgx
    clear hs5 hown EO HPS hL hgx
    go_wp2_with fail
    refine (pick_any w _ w.heap.size n' c' _ a _ HD5.out (by omega)).mono ?_
    rintro e w6 ⟨y6, rfl, hy6, hg6, hd6⟩
    have HD6 := Lib.hid hd6
    have HS6 := Lib.hid (HS5.out.trans (since_grown hg6 (Nat.le_refl _) HS5.out.size))
    have HO6 := Lib.hid (HO.out.kept hg6 (by omega) (Nat.le_refl _) (Nat.le_refl _))
    have hz6 := hg6.size
    clear hd6 hg6 HD5 HO
    by_cases h0 : y6 = 0
    · subst h0
      go_wp2_with fail
      refine (pick_any w _ w.heap.size n' c' _ a _ HD6.out (by omega)).mono ?_
      rintro e w7 ⟨y7, rfl, hy7, hg7, hd7⟩
      have hyL : y7 < L := by omega
      have HD7 := Lib.hid hd7
      have HS7 := Lib.hid (HS6.out.trans (since_grown hg7 (Nat.le_refl _) HS6.out.size))
      have HO7 := Lib.hid (HO6.out.kept hg7 (by omega) (Nat.le_refl _) (Nat.le_refl _))
      have hz7 := hg7.size
      obtain ⟨g', eg, hgl7, hgx7⟩ := HO7.out (by rw [HL.out]; omega)
      cases eg
      obtain ⟨cy, fy⟩ := hgx7 y7 (by rw [HL.out]; exact hyL)
      obtain ⟨z, hz⟩ : ∃ z, p.getD y7 0 = z := ⟨_, rfl⟩
      rw [hz] at cy
      obtain ⟨z', hz'⟩ : ∃ z', IntKind.i64.wrap (z + 1) = z' := ⟨_, rfl⟩
      have hyL' : ((y7 : Nat) : Int) < (L : Int) := by omega
      have HD8 := Lib.hid (HD7.out.grown (row := some g0) (grown_set_any w7 g0 y7 (.int .i64 z')) (fun i e => by cases e; omega))
      have HS8 := Lib.hid (HS7.out.setCell (a := ⟨g0, y7, none⟩) (by show w.heap.size ≤ g0; omega) (.int .i64 z'))
      have HO8 := Lib.hid (HO7.out.set (c := ⟨g0, y7, none⟩) (by rw [HL.out]; exact hyL) rfl z')
      have hz8 : w7.heap.size ≤ (w7.setCell ⟨g0, y7, none⟩ (.int .i64 z')).heap.size := by simp [World.setCell]
      clear hd7 hg7 hgx7 HD6 HS6 HO6 hz
      go_wp2_with fail
      refine (pick_any w _ w.heap.size n' c' _ a _ HD8.out (by omega)).mono ?_
      rintro e w9 ⟨y9, rfl, hy9, hg9, hd9⟩
      have HS9 := Lib.hid ((HS8.out).trans (since_grown hg9 (Nat.le_refl _) (HS8.out).size))
      have HO9 := Lib.hid ((HO8.out).kept hg9 (by omega) (Nat.le_refl _) hz8)
      have hlx := Lib.hid (show (p.set y7 z').length = L by rw [List.length_set]; exact HL.out)
      clear hd9 hg9
      have hwe : IntKind.i64.wrap ((n : Int) + (y9 : Int) / 39) = ((n + y9 / 39 : Nat) : Int) := (IntWalk.i64_in _ ⟨by omega, by omega⟩).trans (by omega)
      go_wp2
      refine bodyPost_ret (results_tmp3 rfl _ _ _) rfl ?_
      exact ⟨k, n + y9 / 39, p.set y7 z', _, pc, by rw [hlx.out]; first | rfl | simp, HS9.out, by omega, by omega, by rw [hlx.out]; omega, HO9.out.rowR⟩
    · by_cases h1 : y6 = 1
      · subst h1
        have HST := Lib.hid (And.intro HO6.out HL.out)
        go_wp2
        go_loopg [11] L (fun g i wr => ∃ j p' x, j ≤ L ∧ g = L - j ∧ i = .int .i64 (j : Nat) ∧ List.length x = L ∧ w.Since w.heap.size wr ∧ RD w wr w.heap.size a n' c' 62 p' ∧ p' ≤ 1300 + 2 * j ∧ w5.heap.size ≤ wr.heap.size ∧ OwnR w4.heap.size wr.heap.size wr (some ⟨g0, 0, none⟩) x)
        case atStart => exact ⟨0, _, p, Nat.zero_le _, rfl, rfl, HST.out.2, HS6.out, HD6.out, by omega, hz6, HST.out.1⟩
        case round =>
          obtain ⟨j, p', x, hj, rfl, rfl, hxl, hS, hD, hp', hzr, hO⟩ := hrel
          clear HST
          have HXL := Lib.hid hxl
          have HD7 := Lib.hid hD
          have HS7 := Lib.hid hS
          have HO7 := Lib.hid hO
          clear hxl hS hD hO HD6 HS6 HO6
          by_cases hjL : j < L
          · go_wp2_with fail
            refine (pick_any w _ w.heap.size n' c' _ a _ HD7.out (by omega)).mono ?_
            rintro e w8 ⟨y8, rfl, hy8, hg8, hd8⟩
            have HD8 := Lib.hid hd8
            have HS8 := Lib.hid (HS7.out.trans (since_grown hg8 (Nat.le_refl _) HS7.out.size))
            have HO8 := Lib.hid (HO7.out.kept hg8 (by omega) (Nat.le_refl _) (Nat.le_refl _))
            have hz8 := hg8.size
            obtain ⟨g', eg, hgl8, hgx8⟩ := HO8.out (by rw [HXL.out]; omega)
            cases eg
            obtain ⟨cy, fy⟩ := hgx8 j (by rw [HXL.out]; exact hjL)
            obtain ⟨z', hz'⟩ : ∃ z', IntKind.i64.wrap ((y8 : Int) - 1) = z' := ⟨_, rfl⟩
            have hjL' : ((j : Nat) : Int) < (L : Int) := by omega
            have HD9 := Lib.hid (HD8.out.grown (row := some g0) (grown_set_any w8 g0 j (.int .i64 z')) (fun i e => by cases e; omega))
            have HS9 := Lib.hid (HS8.out.setCell (a := ⟨g0, j, none⟩) (by show w.heap.size ≤ g0; omega) (.int .i64 z'))
            have HO9 := Lib.hid (HO8.out.set (c := ⟨g0, j, none⟩) (by rw [HXL.out]; exact hjL) rfl z')
            have hz9 : (w8.setCell ⟨g0, j, none⟩ (.int .i64 z')).heap.size = w8.heap.size := by simp [World.setCell]
            clear hd8 hg8 hgx8
            go_wp2
            go_roundg (L - (j + 1))
            case measure => omega
            case rel => exact ⟨j + 1, _, x.set j z', by omega, rfl, by go_num, by rw [List.length_set]; exact HXL.out, HS9.out, HD9.out, by omega, by omega, by rw [hz9]; exact HO9.out⟩
          · have hjj : j = L := by omega
            subst hjj
            clear hjL
            go_wp2_with fail
            refine (pick_any w _ w.heap.size n' c' _ a _ HD7.out (by omega)).mono ?_
            rintro e w9 ⟨y9, rfl, hy9, hg9, hd9⟩
            have HS9 := Lib.hid ((HS7.out).trans (since_grown hg9 (Nat.le_refl _) (HS7.out).size))
            have HO9 := Lib.hid ((HO7.out).kept hg9 (by omega) (Nat.le_refl _) (Nat.le_refl _))
            have hlx := Lib.hid (HXL.out)
            clear hd9 hg9
            have hwe : IntKind.i64.wrap ((n : Int) + (y9 : Int) / 39) = ((n + y9 / 39 : Nat) : Int) := (IntWalk.i64_in _ ⟨by omega, by omega⟩).trans (by omega)
            go_wp2
            refine bodyPost_ret (results_tmp3 rfl _ _ _) rfl ?_
            exact ⟨k, n + y9 / 39, x, _, pc, by rw [hlx.out]; first | rfl | simp, HS9.out, by omega, by omega, by rw [hlx.out]; omega, HO9.out.rowR⟩
      · have e0 : ((y6 : Int) == 0) = false := by simp; omega
        have e1 : ((y6 : Int) == 1) = false := by simp; omega
        go_wp2_with fail
        refine (pick_any w _ w.heap.size n' c' _ a _ HD6.out (by omega)).mono ?_
        rintro e w9 ⟨y9, rfl, hy9, hg9, hd9⟩
        have HS9 := Lib.hid ((HS6.out).trans (since_grown hg9 (Nat.le_refl _) (HS6.out).size))
        have HO9 := Lib.hid ((HO6.out).kept hg9 (by omega) (Nat.le_refl _) (Nat.le_refl _))
        have hlx := Lib.hid (HL.out)
        clear hd9 hg9
        have hwe : IntKind.i64.wrap ((n : Int) + (y9 : Int) / 39) = ((n + y9 / 39 : Nat) : Int) := (IntWalk.i64_in _ ⟨by omega, by omega⟩).trans (by omega)
        go_wp2
        refine bodyPost_ret (results_tmp3 rfl _ _ _) rfl ?_
        exact ⟨k, n + y9 / 39, p, _, pc, by rw [hlx.out]; first | rfl | simp, HS9.out, by omega, by omega, by rw [hlx.out]; omega, HO9.out.rowR⟩

set_option maxRecDepth 100000 in
set_option maxHeartbeats 1000000 in
theorem drawPlaceIn_any (a : Option Addr) (nb cb : Nat) (w : World) (hc : nb ≤ cb) (h63 : cb ≤ 9223372036854775807) (hb : BytR w a nb) :
    Calls Try.prog 29 #[.slice a nb cb] w (PlD w) := by
  have E := Lib.hid (l91Places_any a nb cb w hc h63 hb)
  clear hb
  go_enter Try.func29, Try.ntmps29
  go_wp2_with fail
  refine (E.out).mono ?_
  rintro e w1 ⟨k, n, p, pa, pc, rfl, h⟩
  have H := Lib.hid h
  clear h
  go_wp2
  refine bodyPost_ret (results_tmp3 rfl _ _ _) rfl ?_
  exact ⟨k, n, p, pa, pc, rfl, H.out⟩

set_option maxRecDepth 100000 in
set_option maxHeartbeats 1000000 in
theorem drawPlaceRelated_any (a : Option Addr) (nb cb : Nat) (w : World) (hc : nb ≤ cb) (h63 : cb ≤ 9223372036854775807) (hb : BytR w a nb) :
    Calls Try.prog 30 #[.slice a nb cb] w (PlD w) := by
  have E := Lib.hid (l91Places_any a nb cb w hc h63 hb)
  clear hb
  go_enter Try.func30, Try.ntmps30
  go_wp2_with fail
  refine (E.out).mono ?_
  rintro e w1 ⟨k, n, p, pa, pc, rfl, h⟩
  have H := Lib.hid h
  clear h
  go_wp2
  refine bodyPost_ret (results_tmp3 rfl _ _ _) rfl ?_
  exact ⟨k, n, p, pa, pc, rfl, H.out⟩

set_option maxRecDepth 100000 in
set_option maxHeartbeats 1000000 in
theorem drawPlaceOther_any (a : Option Addr) (nb cb : Nat) (w : World) (hc : nb ≤ cb) (h63 : cb ≤ 9223372036854775807) (hb : BytR w a nb) :
    Calls Try.prog 31 #[.slice a nb cb] w (PlD w) := by
  have E := Lib.hid (l91Places_any a nb cb w hc h63 hb)
  clear hb
  go_enter Try.func31, Try.ntmps31
  go_wp2_with fail
  refine (E.out).mono ?_
  rintro e w1 ⟨k, n, p, pa, pc, rfl, h⟩
  have H := Lib.hid h
  clear h
  go_wp2
  refine bodyPost_ret (results_tmp3 rfl _ _ _) rfl ?_
  exact ⟨k, n, p, pa, pc, rfl, H.out⟩

set_option maxRecDepth 100000 in
set_option maxHeartbeats 1000000 in
theorem drawPlaceBases_any (a : Option Addr) (nb cb : Nat) (w : World) (hc : nb ≤ cb) (h63 : cb ≤ 9223372036854775807) (hb : BytR w a nb) :
    Calls Try.prog 34 #[.slice a nb cb] w (PlD w) := by
  have E := Lib.hid (l91Places_any a nb cb w hc h63 hb)
  clear hb
  go_enter Try.func34, Try.ntmps34
  go_wp2_with fail
  refine (E.out).mono ?_
  rintro e w1 ⟨k, n, p, pa, pc, rfl, h⟩
  have H := Lib.hid h
  clear h
  go_wp2
  refine bodyPost_ret (results_tmp3 rfl _ _ _) rfl ?_
  exact ⟨k, n, p, pa, pc, rfl, H.out⟩

end Go.Proofs.Ytbedkjpbdkgjpaa
end

section
/- The contract of impl.PlaceRelated: it lies in RelI. -/
namespace Go.Proofs.Ytbedkjpbdkgjpaa
end Go.Proofs.Ytbedkjpbdkgjpaa
end

section
/- The contract of impl.PlaceBases. -/
namespace Go.Proofs.Ytbedkjpbdkgjpaa
open Go.RowKit Go.Deep

/-- The sets below m whose number is not 0. -/
def nzTo (C : Nat → Int) : Nat → List Int
  | 0 => []
  | m + 1 => if C m ≠ 0 then nzTo C m ++ [(m : Int)] else nzTo C m
theorem nzTo_yes {C : Nat → Int} {m : Nat} (h : C m ≠ 0) : nzTo C (m + 1) = nzTo C m ++ [(m : Int)] := by simp [nzTo, h]
theorem nzTo_no {C : Nat → Int} {m : Nat} (h : C m = 0) : nzTo C (m + 1) = nzTo C m := by simp [nzTo, h]
theorem nzTo_le (C : Nat → Int) : ∀ m, (nzTo C m).length ≤ m
  | 0 => by simp [nzTo]
  | m + 1 => by
    have := nzTo_le C m
    by_cases h : C m = 0
    · rw [nzTo_no h]; omega
    · rw [nzTo_yes h]; simp; omega

set_option maxRecDepth 100000 in
set_option maxHeartbeats 2000000 in
theorem bases_any (C : Nat → Int) (w : World) : Calls Try.prog 54 #[.agg (arr C)] w fun e w' => ∃ v, e = .returned v ∧ RB w w' v (nzTo C 32) := by
  obtain ⟨i3, hi3⟩ := info3_parts
  have HJ := Lib.hid hi3
  clear hi3
  go_enter Try.func54, Try.ntmps54
  go_wp2_with (with_reducible (show wpList _ _ _ (Oper.mk _ (Op.load _ _) 48 _ _ _ :: _) _ _); refine wpList_load_arr rfl _ rfl _ rfl C (ArrAt.new _ _) ?_)
  obtain ⟨W, hW⟩ : ∃ W, w.alloc (.cells (arr C) 48) = W := ⟨_, rfl⟩
  have hS : w.Since w.heap.size W := by rw [← hW]; exact (World.Since.refl _ _).alloc (Nat.le_refl _) _
  have HST := Lib.hid (show RB w W (.slice none 0 0) [] from ⟨hS, World.ownsRow_nil _ _ _ _⟩)
  rw [hW]
  clear hS hW
  go_loopg [3, 7] 32 (fun g v i wr => ∃ r : Nat, r ≤ 32 ∧ g = 32 - r ∧ i = .int .i64 r ∧ RB w wr v (nzTo C r))
  case atStart => exact ⟨0, by omega, rfl, rfl, HST.out⟩
  case round =>
    obtain ⟨r, hr, rfl, rfl, hR⟩ := hrel
    clear HST
    by_cases hlt : r < 32
    · have hc := fun W => run_index_arr C hlt W
      obtain ⟨y, hy⟩ : ∃ y, C r = y := ⟨_, rfl⟩
      rw [hy] at hc
      have hle := nzTo_le C r
      have hzi := hR.since.size
      have HR := Lib.hid hR
      clear hR
      by_cases h0 : y = 0
      · subst h0
        have HN := Lib.hid (nzTo_no hy)
        clear hy
        go_wp2
        go_roundg (32 - (r + 1))
        case measure => omega
        case rel => exact ⟨r + 1, by omega, rfl, by go_num, by rw [HN.out]; exact HR.out⟩
      · have HN := Lib.hid (nzTo_yes (show C r ≠ 0 by rw [hy]; exact h0))
        have hy0 : (y != 0) = true := by simpa using h0
        clear hy h0
        go_wp2_with (at_builtin; (refine wpList_append_own _ rfl _ _ 22 rfl w.heap.size 3 i3 (.int .i64 0) 1 8 Try.underlying22 HJ.out.1 HJ.out.2.1 HJ.out.2.2.1 HJ.out.2.2.2 rfl (by decide) _ _ _ rfl (HR.out.own.alloc _) ⟨wr.heap.size, 0, none⟩ 1 1 [.int .i64 (r : Nat)] rfl rfl (cell_one_at _ _ _ rfl) (fun x hx => by simp at hx; subst hx; rfl) (by unfold maxLen; omega) (by omega) (by simp; omega) ?_); intro v' w5 hown' hgrow _)
        have hP := HR.out.push hown' hgrow
        rw [← HN.out] at hP
        have HP := Lib.hid hP
        clear hP hown' hgrow
        go_roundg (32 - (r + 1))
        case measure => omega
        case rel => exact ⟨r + 1, by omega, rfl, by go_num, HP.out⟩
    · obtain rfl : r = 32 := by omega
      have HR := Lib.hid hR
      clear hR
      go_wp2
      go_ret
      exact ⟨_, rfl, HR.out⟩

theorem nz_sets (k n : Nat) (p : List Int) : ∀ m, m ≤ 2 ^ n → nzTo (crd k n p) m = List.map (fun s : Nat => (s : Int)) ((setsTo k m).filter fun s => decide (atP p s ≠ 0))
  | 0, _ => rfl
  | m + 1, h => by
    have ih := nz_sets k n p m (by omega)
    by_cases hk : popcS m = k
    · have hc : crd k n p m = atP p m := by unfold crd; rw [if_pos ⟨by omega, hk⟩]
      rw [setsTo_yes hk, List.filter_append, List.map_append, ← ih]
      by_cases h0 : atP p m = 0
      · rw [nzTo_no (hc.trans h0)]; simp [h0]
      · rw [nzTo_yes (by rw [hc]; exact h0)]; simp [h0]
    · have hc : crd k n p m = 0 := by unfold crd; rw [if_neg (fun e => hk e.2)]
      rw [setsTo_no hk, ← ih, nzTo_no hc]
theorem nz_beyond (k n : Nat) (p : List Int) : ∀ j, nzTo (crd k n p) (2 ^ n + j) = nzTo (crd k n p) (2 ^ n)
  | 0 => rfl
  | j + 1 => by
    rw [← Nat.add_assoc, nzTo_no (by unfold crd; rw [if_neg (fun e => by omega)]), nz_beyond k n p j]
theorem nz_bases {k n : Nat} (hn : n ≤ 5) (p : List Int) : nzTo (crd k n p) 32 = basesP k n p := by
  have := pow_le5 hn
  rw [show 32 = 2 ^ n + (32 - 2 ^ n) by omega, nz_beyond, nz_sets k n p _ (Nat.le_refl _), basesP_eq]

/-- A row of one's own and whether there is one. -/
def POwn (w : World) (ok : Bool) (x : List Int) (e : Ending) (w' : World) : Prop :=
  ∃ a cap, e = .returned (.tuple #[.slice a (if ok = true then x else []).length cap, .bool ok]) ∧ w.Since w.heap.size w' ∧ OwnR w.heap.size w'.heap.size w' a (if ok = true then x else [])
theorem pown_no {w w' : World} {x : List Int} {a : Option Addr} {c : Nat} {e : Ending} (he : e = .returned (.tuple #[.slice a 0 c, .bool false])) (hs : w.Since w.heap.size w') : POwn w false x e w' :=
  ⟨a, c, he, hs, OwnR.nil _ _ _ _⟩
theorem pown_yes {w wr w' : World} {x : List Int} {v : Value} {e : Ending} (h : RB wr w' v x) (hs : w.Since w.heap.size wr) (he : e = .returned (.tuple #[v, .bool true])) : POwn w true x e w' := by
  obtain ⟨a, cp, rfl, hr⟩ := h.slice
  refine ⟨a, cp, he, hs.trans (since_mono h.since hs.size), fun h0 => ?_⟩
  obtain ⟨G, e2, hG, h3⟩ := hr h0
  exact ⟨G, e2, ⟨Nat.le_trans hs.size hG, h3.lt⟩, fun i hi => ⟨h3.cell hi, h3.frozen i⟩⟩

set_option maxRecDepth 100000 in
set_option maxHeartbeats 1000000 in
theorem implPlaceBases_any (k n : Int) (a : Option Addr) (cap m : Nat) (p : List Int) (w : World) (hm : p.length = m) (_hmx : m ≤ 1048576) (hr : RowR w a p) :
    Calls Try.prog 28 #[.int .i64 k, .int .i64 n, .slice a m cap] w (POwn w (placeB k n p) (basesP k.toNat n.toNat p)) := by
  have E := told_any k n a cap m p w hm hr
  unfold ToldP at E
  cases hb : placeB k n p with
  | false =>
    rw [hb] at E
    replace E := Lib.hid E
    clear hb hr hm
    go_enter Try.func28, Try.ntmps28
    go_wp2_with (first
      | (go_at_call 46; refine (E.out).mono ?_; rintro e w2 ⟨C, rfl, hs, _⟩; have HS := Lib.hid hs; clear hs)
      | (with_reducible (show wpList _ _ _ (Oper.mk _ (Op.store 48 _ _) _ _ _ _ :: _) _ _); rw [zero_lit]; refine wpList_store_arr rfl _ _ rfl _ rfl _ _ (ArrAt.new _ _) rfl ?_))
    go_ret2
    exact pown_no rfl (since_setRow (HS.out.alloc HS.out.size _) _ _ HS.out.size)
  | true =>
    obtain ⟨k', n', rfl, rfl, h1, h2, h3, _⟩ := placeB_of hb
    rw [hb] at E
    simp only [Int.toNat_natCast, forall_const] at E ⊢
    have EB := bases_any (crd k' n' p)
    rw [nz_bases h3] at EB
    obtain ⟨D, hD⟩ : ∃ D, crd k' n' p = D := ⟨_, rfl⟩
    rw [hD] at E EB
    replace E := Lib.hid E
    replace EB := Lib.hid EB
    clear hb hr hm hD
    go_enter Try.func28, Try.ntmps28
    go_wp2_with (first
      | (go_at_call 46; refine (E.out).mono ?_; rintro e w2 ⟨C, rfl, hs, rfl⟩; have HS := Lib.hid hs; clear hs)
      | (with_reducible (show wpList _ _ _ (Oper.mk _ (Op.store 48 _ _) _ _ _ _ :: _) _ _); rw [zero_lit]; refine wpList_store_arr rfl _ _ rfl _ rfl _ _ (ArrAt.new _ _) rfl ?_)
      | (with_reducible (show wpList _ _ _ (Oper.mk _ (Op.load _ _) 48 _ _ _ :: _) _ _); refine wpList_load_arr rfl _ rfl _ rfl C (ArrAt.new _ _).row ?_)
      | (go_at_call 54; refine (EB.out _).mono ?_; rintro e w3 ⟨v, rfl, hR⟩; have HRB := Lib.hid hR; clear hR))
    go_ret2
    exact pown_yes HRB.out (since_setRow (HS.out.alloc HS.out.size _) _ _ HS.out.size) rfl

end Go.Proofs.Ytbedkjpbdkgjpaa
end

section
/- The walk of laws.FnBases. -/
namespace Go.Proofs.Ytbedkjpbdkgjpaa
open Go.RowKit Go.Deep

/-- What stands of the bases of related coordinates: the number at each place is a set, and columns can be exchanged. -/
structure BasM (B : List Int) (n : Nat) : Prop where
  at_ : ∀ i, i < B.length → ∃ I : Nat, B.getD i 0 = I ∧ I < 32
  ex : ∀ i j I J a, i < B.length → j < B.length → B.getD i 0 = ((I : Nat) : Int) → B.getD j 0 = ((J : Nat) : Int) → a < n → I.testBit a = true → J.testBit a = false →
    ∃ b, b < n ∧ J.testBit b = true ∧ I.testBit b = false ∧ ∃ m, m < B.length ∧ B.getD m 0 = ((I - 2 ^ a ||| 2 ^ b : Nat) : Int)
theorem basM_of {k n : Nat} {p : List Int} (h : relB k n p = true) : BasM (basesP k n p) n := by
  unfold relB at h
  simp only [Bool.and_eq_true, Int.toNat_natCast] at h
  obtain ⟨h1, h2⟩ := h
  obtain ⟨k', n', e1, e2, hk1, hk2, h5, hl, hp⟩ := placeB_of h1
  obtain rfl : k = k' := by omega
  obtain rfl : n = n' := by omega
  have hpw := pow_le5 h5
  have hr := (relOk_iff hk1).1 h2
  rw [basesP_eq]
  have hmem : ∀ i I, i < (List.map (fun s : Nat => (s : Int)) ((setsTo k (2 ^ n)).filter fun s => decide (atP p s ≠ 0))).length → (List.map (fun s : Nat => (s : Int)) ((setsTo k (2 ^ n)).filter fun s => decide (atP p s ≠ 0))).getD i 0 = ((I : Nat) : Int) → I < 2 ^ n ∧ popcS I = k ∧ atP p I ≠ 0 := fun i I hi e => by
    rw [List.length_map] at hi
    rw [List.getD_eq_getElem?_getD, List.getElem?_map, List.getElem?_eq_getElem hi] at e
    simp only [Option.map_some, Option.getD_some] at e
    have e2 : ((setsTo k (2 ^ n)).filter fun s => decide (atP p s ≠ 0))[i] = I := by omega
    have hm := List.getElem_mem hi
    rw [e2, List.mem_filter] at hm
    obtain ⟨g1, g2⟩ := (setsTo_mem _).1 hm.1
    exact ⟨g1, g2, by simpa using hm.2⟩
  refine ⟨fun i hi => ?_, fun i j I J a hi hj eI eJ ha b1 b2 => ?_⟩
  · have hi' := hi
    rw [List.length_map] at hi'
    refine ⟨((setsTo k (2 ^ n)).filter fun s => decide (atP p s ≠ 0))[i], ?_, ?_⟩
    · rw [List.getD_eq_getElem?_getD, List.getElem?_map, List.getElem?_eq_getElem hi']
      rfl
    · have hm := List.getElem_mem hi'
      rw [List.mem_filter] at hm
      have := ((setsTo_mem _).1 hm.1).1
      omega
  · obtain ⟨i1, i2, i3⟩ := hmem i I hi eI
    obtain ⟨j1, j2, j3⟩ := hmem j J hj eJ
    obtain ⟨b, c1, c2, c3, c4, c5, c6⟩ := rel_bases h5 hr i1 j1 i2 j2 i3 j3 ha b1 b2
    refine ⟨b, c1, c2, c3, ?_⟩
    have hin : (I - 2 ^ a ||| 2 ^ b) ∈ (setsTo k (2 ^ n)).filter fun s => decide (atP p s ≠ 0) := List.mem_filter.2 ⟨(setsTo_mem _).2 ⟨c6, c5⟩, by simpa using c4⟩
    obtain ⟨m, hm, em⟩ := List.mem_iff_getElem.1 hin
    refine ⟨m, by rw [List.length_map]; exact hm, ?_⟩
    rw [List.getD_eq_getElem?_getD, List.getElem?_map, List.getElem?_eq_getElem hm, em]
    rfl

/-- What the loop over b has found. -/
def someB (B : List Int) (I J a b : Nat) (s : Bool) : Prop := ∀ b', b' < b → J.testBit b' = true → I.testBit b' = false → (∃ m, m < B.length ∧ B.getD m 0 = ((I - 2 ^ a ||| 2 ^ b' : Nat) : Int)) → s = true
/-- What the loop over m has found. -/
def someM (B : List Int) (t : Int) (s0 : Bool) (m : Nat) (s : Bool) : Prop := (s0 = true → s = true) ∧ ∀ m', m' < m → B.getD m' 0 = t → s = true

set_option maxRecDepth 100000 in
set_option maxHeartbeats 2000000 in
theorem fnBases (a : Option Addr) (cap n : Nat) (w : World) (hc : n ≤ cap) (h63 : cap ≤ 9223372036854775807) (hb : BytR w a n) :
    Calls Try.prog 12 #[.slice a n cap] w fun e w' => e = .returned (.bool true) ∧ w.Since w.heap.size w' := by
  by_cases hlen : 1048576 < n
  · have hl' : decide ((1048576 : Int) < (n : Int)) = true := by simp; omega
    clear hb
    go_enter Try.func12, Try.ntmps12
    go_wp2
    go_ret
    exact ⟨rfl, World.Since.refl _ _⟩
  · have hl' : decide ((1048576 : Int) < (n : Int)) = false := by simp; omega
    have ED := Lib.hid (drawPlaceBases_any a n cap w hc h63 hb)
    clear hb
    go_enter Try.func12, Try.ntmps12
    go_wp2_with fail
    refine (ED.out).mono ?_
    rintro e w1 ⟨k, m, p, pa, pc, rfl, hs1, hk5, hm7, hp32, hrp⟩
    have hbm := @basM_of k m p
    have hpl : placeB k m p = true → m ≤ 5 := fun h => by obtain ⟨k', n', e1, e2, _, _, h5, _⟩ := placeB_of h; omega
    have hble : (basesP k m p).length ≤ 128 := by
      have e1 := basesTo_le k (2 ^ m) p (setsTo k (2 ^ m)).length
      have e2 := setsTo_len k (2 ^ m)
      have e3 : 2 ^ m ≤ 2 ^ 7 := Nat.pow_le_pow_right (by omega) hm7
      unfold basesP
      omega
    have E1 := fun (W : World) (h : w1.Since w1.heap.size W) => implPlaceBases_any k m pa pc p.length p W rfl (by omega) (hrp.since h)
    have E2 := fun (W : World) (h : w1.Since w1.heap.size W) => (specPlaceBases_any k m pa pc p.length p W rfl (by omega) (hrp.since h)).mono fun _ _ h => h.out
    have E3 := fun (W : World) (h : w1.Since w1.heap.size W) => implPlaceRelated_any k m pa pc p.length p W rfl (by omega) (hrp.since h)
    simp only [Int.toNat_natCast] at E1 E2
    unfold POwn at E1
    obtain ⟨ok, hok⟩ : ∃ ok, placeB k m p = ok := ⟨_, rfl⟩
    obtain ⟨x, hx⟩ : ∃ x, basesP k m p = x := ⟨_, rfl⟩
    obtain ⟨rl, hrl⟩ : ∃ x, relB k m p = x := ⟨_, rfl⟩
    obtain ⟨L, hL⟩ : ∃ L, p.length = L := ⟨_, rfl⟩
    rw [hx] at hble
    rw [hrl, hx] at hbm
    rw [hok] at hpl
    simp only [hok, hx, hL] at E1 E2
    simp only [hrl, hL] at E3
    obtain ⟨M, hM⟩ : ∃ M, (if ok = true then x else []) = M := ⟨_, rfl⟩
    simp only [hM] at E1 E2
    obtain ⟨q, hq⟩ : ∃ q, M.length = q := ⟨_, rfl⟩
    have hq2 : q ≤ 128 := by
      rw [← hq, ← hM]
      cases ok with
      | false => simp
      | true => rw [if_pos rfl]; exact hble
    simp only [hq] at E1 E2
    have HQ := Lib.hid hq
    have HMM := Lib.hid hM
    rw [hL] at hp32 ⊢
    replace E1 := Lib.hid E1
    replace E2 := Lib.hid E2
    replace E3 := Lib.hid E3
    have HBM := Lib.hid hbm
    have HPL := Lib.hid hpl
    have HS1 := Lib.hid hs1
    clear hok hx hrl hL hbm hpl hrp hs1 hq hM hble
    have d1 : w1.Since w1.heap.size w1 := World.Since.refl _ _
    go_wp2_with fail
    refine (E1.out _ d1).mono ?_
    rintro e w2 ⟨xa, xc, rfl, hs2, hx2⟩
    have d2 := d1.trans (since_mono hs2 d1.size)
    have HD2 := Lib.hid d2
    have HX2 := Lib.hid hx2.rowR
    clear hs2 d2 d1 hx2
    go_wp2_with fail
    refine (E2.out _ HD2.out).mono ?_
    rintro e w3 ⟨ya, yc, rfl, hs3, hy3⟩
    have d3 := HD2.out.trans (since_mono hs3 HD2.out.size)
    have HD3 := Lib.hid d3
    have HX3 := Lib.hid (HX2.out.since hs3)
    have HY3 := Lib.hid hy3.rowR
    clear hs3 d3 hy3 HX2
    have ES := Lib.hid (fun (W : World) (h : w3.Since w3.heap.size W) => sameInts_same xa ya xc yc q M W HQ.out (by omega) (HX3.out.since h) (HY3.out.since h))
    go_wp2_with fail
    refine (ES.out _ (World.Since.refl _ _)).mono ?_
    rintro e w4 ⟨rfl, hd4⟩
    have HS4 := Lib.hid (hd4.since w3.heap.size)
    have HD4 := Lib.hid (HD3.out.trans (since_mono (hd4.since w3.heap.size) HD3.out.size))
    have HX4 := Lib.hid (HX3.out.since (hd4.since w3.heap.size))
    clear hd4
    cases ok with
    | false =>
      go_wp2_with fail
      refine (ES.out _ HS4.out).mono ?_
      rintro e w5 ⟨rfl, hd5⟩
      have HD5 := Lib.hid (HD4.out.trans (since_mono (hd5.since w4.heap.size) HD4.out.size))
      clear hd5
      go_wp2
      go_ret
      exact ⟨rfl, HS1.out.trans (since_mono HD5.out HS1.out.size)⟩
    | true =>
      have hm5 := HPL.out rfl
      have hMx : x = M := HMM.out
      subst hMx
      clear ES HY3 HX3 HMM
      go_wp2_with fail
      refine (E3.out _ HD4.out).mono ?_
      rintro e w5 ⟨rfl, hs5⟩
      have HD5 := Lib.hid (HS1.out.trans (since_mono (HD4.out.trans (since_mono hs5 HD4.out.size)) HS1.out.size))
      have HX5 := Lib.hid (HX4.out.since hs5)
      clear hs5 HX4
      cases rl with
      | false =>
        go_wp2
        go_ret
        exact ⟨rfl, HD5.out⟩
      | true =>
        have HB := Lib.hid (HBM.out rfl)
        clear E1 E2 E3 HBM
        go_wp2
        go_loopg [10] q (fun g i wr => ∃ i0 : Nat, i0 ≤ q ∧ g = q - i0 ∧ i = .int .i64 i0 ∧ Drawn w5 wr)
        case atStart => exact ⟨0, Nat.zero_le _, rfl, rfl, Drawn.refl _⟩
        case round =>
          obtain ⟨i0, hi0, rfl, rfl, hD⟩ := hrel
          have HDR := Lib.hid hD
          clear hD
          by_cases hlt : i0 < q
          · obtain ⟨xb, xo, rfl, hcx⟩ := HX5.out (by rw [HQ.out]; omega)
            have HCX := Lib.hid hcx
            obtain ⟨I, eI, hI32⟩ := HB.out.at_ i0 (by rw [HQ.out]; exact hlt)
            have cI := hcx i0 (by rw [HQ.out]; exact hlt)
            rw [eI] at cI
            have CI := Lib.hid cI
            have EI := Lib.hid eI
            have hli : ((i0 : Nat) : Int) < (q : Int) := by omega
            clear hcx eI cI
            go_wp2
            go_loopg [11] q (fun g j wr => ∃ j0 : Nat, j0 ≤ q ∧ g = q - j0 ∧ j = .int .i64 j0 ∧ Drawn w5 wr)
            case atStart => exact ⟨0, Nat.zero_le _, rfl, rfl, HDR.out⟩
            case round =>
              obtain ⟨j0, hj0, rfl, rfl, hD⟩ := hrel
              clear HDR
              have HDR := Lib.hid hD
              clear hD
              by_cases hltj : j0 < q
              · obtain ⟨J, eJ, hJ32⟩ := HB.out.at_ j0 (by rw [HQ.out]; exact hltj)
                have cJ := HCX.out j0 (by rw [HQ.out]; exact hltj)
                rw [eJ] at cJ
                have CJ := Lib.hid cJ
                have EJ := Lib.hid eJ
                have hlj : ((j0 : Nat) : Int) < (q : Int) := by omega
                clear eJ cJ
                go_wp2
                go_loopg [12] m (fun g c wr => ∃ c0 : Nat, c0 ≤ m ∧ g = m - c0 ∧ c = .int .i64 c0 ∧ Drawn w5 wr)
                case atStart => exact ⟨0, Nat.zero_le _, rfl, rfl, HDR.out⟩
                case round =>
                  obtain ⟨c0, hc0, rfl, rfl, hD⟩ := hrel
                  clear HDR
                  by_cases hltc : c0 < m
                  · have cI := CI.out
                    have cJ := CJ.out
                    rw [← hD.cell] at cI cJ
                    have hbI := bit0_any I c0 (by omega) (by omega)
                    have hbJ := bit_any J c0 (by omega) (by omega)
                    have hmq : min c0 64 = c0 := by omega
                    have HDR := Lib.hid hD
                    clear hD
                    cases tI : I.testBit c0 with
                    | false =>
                      rw [tI] at hbI
                      clear tI hbJ
                      go_wp2
                      go_roundg (m - (c0 + 1))
                      case measure => omega
                      case rel => exact ⟨c0 + 1, by omega, rfl, by go_num, HDR.out⟩
                    | true =>
                      rw [tI] at hbI
                      cases tJ : J.testBit c0 with
                      | true =>
                        rw [tJ] at hbJ
                        clear tI tJ
                        go_wp2
                        go_roundg (m - (c0 + 1))
                        case measure => omega
                        case rel => exact ⟨c0 + 1, by omega, rfl, by go_num, HDR.out⟩
                      | false =>
                        rw [tJ] at hbJ
                        have HEX := Lib.hid (HB.out.ex i0 j0 I J c0 (by rw [HQ.out]; exact hlt) (by rw [HQ.out]; exact hltj) EI.out EJ.out hltc tI tJ)
                        have hand := andNotS_fin ⟨I, hI32⟩ ⟨c0, by omega⟩ tI
                        have hpc := pow_in ⟨c0, by omega⟩
                        simp only at hand hpc
                        have hS0 := Lib.hid (show someB x I J c0 0 false from fun b' hb' => absurd hb' (Nat.not_lt_zero _))
                        clear tI tJ
                        go_wp2
                        clear hbI hbJ cI cJ
                        go_loopg [13, 14] m (fun g sv b wr => ∃ (b0 : Nat) (sb : Bool), b0 ≤ m ∧ g = m - b0 ∧ b = .int .i64 b0 ∧ sv = .bool sb ∧ someB x I J c0 b0 sb ∧ Drawn w5 wr)
                        case atStart => exact ⟨0, false, Nat.zero_le _, rfl, rfl, rfl, hS0.out, HDR.out⟩
                        case round =>
                          obtain ⟨b0, sb, hb0, rfl, rfl, rfl, hSB, hD⟩ := hrel
                          clear HDR hS0
                          have HSB := Lib.hid hSB
                          have HDR := Lib.hid hD
                          clear hSB hD
                          by_cases hltb : b0 < m
                          · have cI := CI.out
                            have cJ := CJ.out
                            rw [← HDR.out.cell] at cI cJ
                            have hbI := bit_any I b0 (by omega) (by omega)
                            have hbJ := bit0_any J b0 (by omega) (by omega)
                            have hmq2 : min b0 64 = b0 := by omega
                            cases tJ : J.testBit b0 with
                            | false =>
                              rw [tJ] at hbJ
                              have HN := Lib.hid (show someB x I J c0 (b0 + 1) sb from fun b' hb' g1 g2 g3 => by
                                by_cases e : b' = b0
                                · subst e; rw [tJ] at g1; cases g1
                                · exact HSB.out b' (by omega) g1 g2 g3)
                              clear tJ hbI
                              go_wp2
                              go_roundg (m - (b0 + 1))
                              case measure => omega
                              case rel => exact ⟨b0 + 1, sb, by omega, rfl, by go_num, rfl, HN.out, HDR.out⟩
                            | true =>
                              rw [tJ] at hbJ
                              cases tI : I.testBit b0 with
                              | true =>
                                rw [tI] at hbI
                                have HN := Lib.hid (show someB x I J c0 (b0 + 1) sb from fun b' hb' g1 g2 g3 => by
                                  by_cases e : b' = b0
                                  · subst e; rw [tI] at g2; cases g2
                                  · exact HSB.out b' (by omega) g1 g2 g3)
                                clear tI tJ
                                go_wp2
                                go_roundg (m - (b0 + 1))
                                case measure => omega
                                case rel => exact ⟨b0 + 1, sb, by omega, rfl, by go_num, rfl, HN.out, HDR.out⟩
                              | false =>
                                rw [tI] at hbI
                                have horr := orS_fin ⟨I - 2 ^ c0, Nat.lt_of_le_of_lt (Nat.sub_le _ _) (by omega)⟩ ⟨b0, by omega⟩
                                have hpb := pow_in ⟨b0, by omega⟩
                                simp only at horr hpb
                                obtain ⟨t, ht⟩ : ∃ t, (I - 2 ^ c0 ||| 2 ^ b0) = t := ⟨_, rfl⟩
                                rw [ht] at horr
                                have HT := Lib.hid ht
                                have HM0 := Lib.hid (show someM x t sb 0 sb from ⟨fun h => h, fun m' hm' => absurd hm' (Nat.not_lt_zero _)⟩)
                                clear tI tJ ht
                                go_wp2
                                clear hbI hbJ cI cJ
                                go_loopg [13, 15] q (fun g sv mm wr => ∃ (m0 : Nat) (sm : Bool), m0 ≤ q ∧ g = q - m0 ∧ mm = .int .i64 m0 ∧ sv = .bool sm ∧ someM x t sb m0 sm ∧ Drawn w5 wr)
                                case atStart => exact ⟨0, sb, Nat.zero_le _, rfl, rfl, rfl, HM0.out, HDR.out⟩
                                case round =>
                                  obtain ⟨m0, sm, hm0, rfl, rfl, rfl, hSM, hD⟩ := hrel
                                  clear HDR HM0
                                  have HSM := Lib.hid hSM
                                  have HDR := Lib.hid hD
                                  clear hSM hD
                                  by_cases hltm : m0 < q
                                  · have hlm : ((m0 : Nat) : Int) < (q : Int) := by omega
                                    cases sm with
                                    | true =>
                                      have HN := Lib.hid (show someM x t sb (m0 + 1) true from ⟨fun _ => rfl, fun _ _ _ => rfl⟩)
                                      go_wp2
                                      go_quiet (fail)
                                      go_wp2
                                      go_roundg (q - (m0 + 1))
                                      case measure => omega
                                      case rel => exact ⟨m0 + 1, true, by omega, rfl, by go_num, rfl, HN.out, HDR.out.trans (Drawn.mk _ _)⟩
                                    | false =>
                                      have cm := HCX.out m0 (by rw [HQ.out]; exact hltm)
                                      obtain ⟨z, hz⟩ : ∃ z, x.getD m0 0 = z := ⟨_, rfl⟩
                                      rw [hz] at cm
                                      have cI := CI.out
                                      rw [← HDR.out.cell] at cm cI
                                      have HN := Lib.hid (show someM x t sb (m0 + 1) (z == (t : Int)) from ⟨fun h => (by have := HSM.out.1 h; cases this), fun m' hm' e => by
                                        by_cases e2 : m' = m0
                                        · subst e2; rw [hz] at e; simp [e]
                                        · have := HSM.out.2 m' (by omega) e; cases this⟩)
                                      clear hz
                                      go_wp2
                                      go_quiet (fail)
                                      go_wp2
                                      go_roundg (q - (m0 + 1))
                                      case measure => omega
                                      case rel => exact ⟨m0 + 1, _, by omega, rfl, by go_num, rfl, HN.out, HDR.out.trans (Drawn.mk _ _)⟩
                                  · have hmq3 : m0 = q := by omega
                                    have HN := Lib.hid (show someB x I J c0 (b0 + 1) sm from fun b' hb' g1 g2 g3 => by
                                      by_cases e : b' = b0
                                      · subst e
                                        obtain ⟨m', hm', e3⟩ := g3
                                        rw [HT.out] at e3
                                        exact HSM.out.2 m' (by rw [hmq3]; rw [HQ.out] at hm'; exact hm') e3
                                      · exact HSM.out.1 (HSB.out b' (by omega) g1 g2 g3))
                                    subst hmq3
                                    go_wp2
                                    go_roundg (m - (b0 + 1))
                                    case measure => omega
                                    case rel => exact ⟨b0 + 1, sm, by omega, rfl, by go_num, rfl, HN.out, HDR.out⟩
                          · have hbm : b0 = m := by omega
                            have hst : sb = true := by
                              obtain ⟨b, c1, c2, c3, c4⟩ := HEX.out
                              exact HSB.out b (by omega) c2 c3 c4
                            subst hbm
                            subst hst
                            go_wp2
                            go_roundg (b0 - (c0 + 1))
                            case measure => omega
                            case rel => exact ⟨c0 + 1, by omega, rfl, by go_num, HDR.out⟩
                  · have hcm : c0 = m := by omega
                    subst hcm
                    have HDR := Lib.hid hD
                    clear hD
                    go_wp2
                    go_roundg (q - (j0 + 1))
                    case measure => omega
                    case rel => exact ⟨j0 + 1, by omega, rfl, by go_num, HDR.out⟩
              · have hjq : j0 = q := by omega
                subst hjq
                go_wp2
                go_roundg (j0 - (i0 + 1))
                case measure => omega
                case rel => exact ⟨i0 + 1, by omega, rfl, by go_num, HDR.out⟩
          · have hiq : i0 = q := by omega
            subst hiq
            have HF := Lib.hid (HD5.out.trans (since_mono (HDR.out.since w5.heap.size) HD5.out.size))
            go_wp2
            go_ret
            exact ⟨rfl, HF.out⟩

end Go.Proofs.Ytbedkjpbdkgjpaa
end

section
/- What an argument reads as, in the words of the walks; the last step of a row. -/
namespace Go.Proofs.Ytbedkjpbdkgjpaa
open Go.ChangeShapes Go.WideShapes Go.ChangeAt Go.RowKit Go.Deep

theorem below_since' {B : Nat} {w w' : World} (h : Below B w w') : w.Since B w' := ⟨h.os, h.tape, h.output, h.size, h.block⟩
theorem since_below' {B : Nat} {w w' : World} (h : w.Since B w') : Below B w w' := ⟨h.os, h.tape, h.output, h.size, h.block⟩

section
variable {H : Type} {enc : TypeId × Value → H} {P : Program}
theorem post_of_below {f : Func} {s : ChangeSpec} {apart fresh handsOn again : Bool} {W W' : World} {args : Array Value} {v : Value} {ds gs : List (DataW H)} {before pa pv : List MemPlace}
    (hW : DataW.Whole enc P f.params.toList s.vars apart W args.toList ds gs before)
    (hres : ∀ (b : Nat) (sp : Nat → Bool) (hd : Bool), DataW.TrodAll enc P W' b sp hd f.resultTypes.toList (v.resultList f.resultTypes.size) (s.fn H (ds ++ gs)).results [])
    (hargs : ∀ sp : Nat → Bool, (∀ p ∈ before, sp p.block = true) → DataW.TrodAll enc P W' 0 sp true f.params.toList args.toList (s.fn H (ds ++ gs)).args pa)
    (hvars : ∀ sp : Nat → Bool, (∀ p ∈ before, sp p.block = true) → DataW.TrodVars enc P W' sp s.vars (s.fn H (ds ++ gs)).vars pv)
    (hps : before = pa ++ pv) (hb : Below W.heap.size W W') (hag : again = false) :
    s.post enc P f apart fresh handsOn again W args v W' := by
  have hlt : ∀ p ∈ before, p.block < W.heap.size := fun p hp => hW.lt p hp
  have hold : ∀ p ∈ before, (fun b => decide (b < W.heap.size)) p.block = true := fun p hp => by simpa using hlt p hp
  refine ⟨ds, gs, before, [], pa, pv, hW, hres _ _ _, hargs _ hold, hvars _ hold, World.keptBut_mono (fun p hp => ⟨hp, ?_⟩) (hb.frame (· ∈ before)), fun h => ?_⟩
  · rw [hps, List.mem_append] at hp
    exact Or.inr hp
  · rw [hag] at h; cases h

/-- An argument of slices of integers reads as a list of lists. -/
theorem open_mat {W : World} {t e q : TypeId} {a : Option Addr} {n cap : Nat} {d : DataW H} {p : List MemPlace} (ht : P.underlying t = some (.slice e)) (he : P.underlying e = some (.slice q)) (hq : P.underlying q = some (.int .i64))
    (ce : P.cellsOf e = 1) (cq : P.cellsOf q = 1) (h : DataW.Trod enc P W 0 (fun _ => true) true t (.slice a n cap) d p) :
    ∃ l : List (List Int), l.length = n ∧ MatR W a l ∧ n ≤ 9223372036854775807 ∧ ∀ r, r < l.length → (l.getD r []).length ≤ 9223372036854775807 := by
  obtain ⟨fuel, hf⟩ := h
  rcases open_int_rows ht he hq ce cq hf with ⟨hcs, _⟩ | ⟨a', len', cap', A, L, C, Z, hcs, _, hl, hm, _, hrows⟩
  · simp [Value.cells] at hcs
    obtain ⟨rfl, rfl, rfl⟩ := hcs
    exact ⟨[], rfl, (fun h => by simp at h), by omega, fun r hr => by simp at hr⟩
  · simp [Value.cells] at hcs
    obtain ⟨rfl, rfl, rfl⟩ := hcs
    have hmx : maxLen = 9223372036854775807 := rfl
    have hlen : ∀ r, r < n → ((Z r).take (L r)).length = L r := fun r hr => by
      obtain ⟨_, h1, _, h2, _⟩ := hrows r (by omega)
      rw [List.length_take]; omega
    have hget : ∀ r, r < n → ((List.range n).map fun r => (Z r).take (L r)).getD r [] = (Z r).take (L r) := fun r hr => by simp [List.getD, hr]
    refine ⟨(List.range n).map fun r => (Z r).take (L r), by simp, fun h => ?_, by omega, fun r hr => ?_⟩
    · obtain ⟨b, o, spot⟩ := a'
      simp at h
      have hspot : spot = none := by simpa [Addr.add] using World.cell?_spot (hrows 0 (by omega)).1
      subst hspot
      refine ⟨b, o, A, C, rfl, fun r hr => ?_⟩
      simp at hr
      rw [hget r hr, hlen r hr]
      obtain ⟨g1, g2, g3, g4, g5, g6, g7⟩ := hrows r (by omega)
      refine ⟨by rw [← add_plain]; exact g1, fun h0 => ?_⟩
      rw [hlen r hr] at h0
      cases hA : A r with
      | none => have := g6 hA; omega
      | some a'' =>
        obtain ⟨_, hcell⟩ := g7 a'' hA
        obtain ⟨b', o', sp⟩ := a''
        have hs : sp = none := by simpa [Addr.add] using World.cell?_spot (hcell 0 (by omega))
        subst hs
        refine ⟨b', o', rfl, fun i hi => ?_⟩
        rw [hlen r hr] at hi
        rw [← add_plain, hcell i (by omega)]
        congr 2
        simp [List.getD, hi]
    · simp at hr
      rw [hget r hr, hlen r hr]
      obtain ⟨_, h1, h2, _⟩ := hrows r (by omega)
      omega
end

theorem Try.own : ownKnob Try.prog.godebug = none := by kernel_rfl
theorem Try.laidOut : laidOutB Try.prog = true := by kernel_rfl
theorem Try.cellsR : Try.prog.cellsOf 22 = 1 := by kernel_rfl
theorem Try.cellsI : Try.prog.cellsOf 3 = 1 := by kernel_rfl

end Go.Proofs.Ytbedkjpbdkgjpaa
end

section
/- An argument of bytes reads as bytes. -/
namespace Go.Proofs.Ytbedkjpbdkgjpaa
open Go.ChangeShapes Go.WideShapes Go.ChangeAt Go.RowKit Go.Deep

theorem wf_u8_of {n : Int} (h : (Lit.int .u8 n).wf = true) : 0 ≤ n ∧ n ≤ 255 := by
  have h2 : (0 : Int) ≤ n ∧ n ≤ 255 := by simpa [Lit.wf, IntKind.min, IntKind.max, IntKind.signed, IntKind.bits] using h
  exact h2

theorem open_bytes {H : Type} {enc : TypeId × Value → H} {P : Program} {W : World} {t e : TypeId} {a : Option Addr} {n cap : Nat} {d : DataW H} {p : List MemPlace} (ht : P.underlying t = some (.slice e)) (he : P.underlying e = some (.int .u8)) (ce : P.cellsOf e = 1)
    (h : DataW.Trod enc P W 0 (fun _ => true) true t (.slice a n cap) d p) : BytR W a n ∧ n ≤ cap ∧ cap ≤ 9223372036854775807 := by
  obtain ⟨fuel, hf⟩ := h
  rcases open_ints ht he ce hf with ⟨hcs, _⟩ | ⟨a', len, cap', zs, hcs, _, hl, hm, hlen, _, hcell, hwf⟩
  · simp [Value.cells] at hcs
    obtain ⟨rfl, rfl, rfl⟩ := hcs
    exact ⟨fun h => absurd h (by omega), by omega, by omega⟩
  · simp [Value.cells] at hcs
    obtain ⟨rfl, rfl, rfl⟩ := hcs
    have hmx : maxLen = 9223372036854775807 := rfl
    have hzl : zs.length = cap := by simpa using hlen
    refine ⟨fun h0 => ?_, by omega, by omega⟩
    obtain ⟨b, o, spot⟩ := a'
    have hspot : spot = none := by simpa [Addr.add] using World.cell?_spot (hcell 0 (by omega))
    subst hspot
    refine ⟨b, o, rfl, fun i hi => ?_⟩
    have hi' : i < zs.length := by omega
    have hw := wf_u8_of (hwf (zs.getD i 0) (by simp [List.getD, hi']))
    obtain ⟨z, hz⟩ := Int.eq_ofNat_of_zero_le hw.1
    refine ⟨z, by omega, ?_⟩
    rw [← add_plain, hcell i hi', hz]

theorem Try.cellsB : Try.prog.cellsOf 5 = 1 := by kernel_rfl

end Go.Proofs.Ytbedkjpbdkgjpaa
end

section
/- The statement FnBases, proved: for every input the law returns true and the argument reads as before. No conditions. -/
namespace Go.Proofs.Ytbedkjpbdkgjpaa
open Go.ChangeShapes Go.WideShapes Go.ChangeAt Go.RowKit Go.Deep

set_option maxRecDepth 100000 in
theorem lifted_FnBases (os : Os) (started : os.Started) (H : Type) (enc : TypeId × Value → H) :
    ReturnsInHanded {} Try.checked os 12 .any (Rows.fnBasesSpec.pre6 enc Try.prog Try.f12 Rows.fnBasesRow.domain false) (Rows.fnBasesSpec.post enc Try.prog Try.f12 false true false false) := by
  refine returnsInHanded_of_change (C := Try.checked) Try.own started (by kernel_rfl) Try.func12
    (ChangeSpec.witness6 (enc := enc) (C := Try.checked) false ⟨#[], #[.slice none 0 0], []⟩ 8 (by kernel_rfl) (by kernel_rfl) (by kernel_rfl) (by kernel_rfl)) ?_
  intro W base args ds gs before hval0 hW _ _
  have hval : ∀ (j : Nat) t v, Try.f12.params[j]? = some t → args[j]? = some v → Value.okWide Try.prog W .any base t v := hval0
  have hW' := hW
  obtain ⟨p, q, hA0, hV, rfl, hfz, hnd⟩ := hW
  have hA : DataW.TrodAll enc Try.prog W 0 (fun _ => true) true Try.f12.params.toList args.toList ds p := hA0
  rw [Try.params12] at hA hval
  obtain ⟨v0, d0, rfl, rfl, h0⟩ := trodAll_one hA
  obtain ⟨p0, hp0⟩ : ∃ p0, p0 = p := ⟨_, rfl⟩
  subst hp0
  obtain ⟨rfl, rfl⟩ := trodVars_none hV
  obtain ⟨a0, n0, cap0, rfl⟩ := okWide_slice Try.underlying30 (hval 0 30 v0 rfl rfl)
  obtain ⟨hb0, hc0, h630⟩ := open_bytes Try.underlying30 Try.underlying5 Try.cellsB h0
  clear hA0 hval0
  simp only [List.append_nil] at hW'
  have hlt0 : ∀ x ∈ p0, x.block < W.heap.size := fun x hx => hW'.lt x (by simp [hx])
  refine (fnBases a0 cap0 n0 W hc0 h630 hb0).mono fun e W' ⟨he, hs⟩ => ?_
  subst he
  have hb := since_below' hs
  have ht0 : ∀ sp : Nat → Bool, (∀ x ∈ p0, sp x.block = true) → DataW.Trod enc Try.prog W' 0 sp true 30 (.slice a0 n0 cap0) d0 p0 := fun sp hsp =>
    WideElems.Trod_stays Try.laidOut (by kernel_rfl) (of_decide_eq_true (by kernel_rfl)) h0 (fun x hx => hb.same (hlt0 x hx)) hsp
  have hargs : ∀ sp : Nat → Bool, (∀ x ∈ (p0), sp x.block = true) → DataW.TrodAll enc Try.prog W' 0 sp true [30] [.slice a0 n0 cap0] [d0] (p0) := fun sp hsp => by
    have := trodAll_mk1 (enc := enc) (P := Try.prog) (w := W') (base := 0) (spare := sp) (held := true) (ht0 sp (fun x hx => hsp x (by simp [hx])))
    simpa using this
  exact ⟨_, rfl, post_of_below (pa := p0) (pv := []) hW' (fun _ _ _ => trodAll_mk1 (shut_bool Try.underlying4 true)) (fun sp hsp => hargs sp (fun x hx => hsp x (by simpa using hx))) (fun _ _ => rfl) (by simp) hb rfl⟩

theorem FnBases_holds : Rows.FnBasesSaid :=
  OpenClaim.holds_of_wide 12 Try.f12 rfl rfl rfl rfl rfl rfl rfl ⟨rfl, rfl, rfl, rfl, rfl⟩ rfl rfl rfl rfl rfl (by kernel_rfl) Try.func12 (by kernel_rfl)
    (of_decide_eq_true (by kernel_rfl)) (by unfold Func.isWrapper; first | (rw [if_pos (by decide +kernel)]; kernel_rfl) | (rw [if_neg (by decide +kernel)]; exact ⟨rfl, rfl⟩))
    (fun os started H enc _ => lifted_FnBases os started H enc)

end Go.Proofs.Ytbedkjpbdkgjpaa
end
