/- The contract of spec.PlaceBases. -/
import Derived.Test.YtbedkjpbdkgjpaaPlaceR
import Derived.Test.YtbedkjpbdkgjpaaOwnR
import Derived.Maps.AppendAt
namespace Go.Proofs.Ytbedkjpbdkgjpaa
open Go.RowKit Go.Deep

/-- A row and whether there is one. -/
def PRes (w : World) (ok : Bool) (x : List Int) (e : Ending) (w' : World) : Prop :=
  ∃ a c, e = .returned (.tuple #[.slice a (if ok = true then x.length else 0) c, .bool ok]) ∧ w.Since w.heap.size w' ∧ InR w.heap.size w'.heap.size w' a (if ok = true then x else [])
theorem pres_no {w w' : World} {x : List Int} {a : Option Addr} {c : Nat} {e : Ending} (he : e = .returned (.tuple #[.slice a 0 c, .bool false])) (hs : w.Since w.heap.size w') : PRes w false x e w' :=
  ⟨a, c, he, hs, fun h => absurd h (by simp)⟩
theorem pres_yes {w wr w' : World} {x : List Int} {v : Value} {e : Ending} (h : RB wr w' v x) (hs : w.Since w.heap.size wr) (he : e = .returned (.tuple #[v, .bool true])) : PRes w true x e w' := by
  obtain ⟨a, cp, rfl, hr⟩ := h.slice
  refine ⟨a, cp, he, hs.trans (since_mono h.since hs.size), fun h0 => ?_⟩
  obtain ⟨G, e2, hG, h3⟩ := hr h0
  exact ⟨G, 0, e2, ⟨Nat.le_trans hs.size hG, h3.lt⟩, fun i hi => by rw [Nat.zero_add]; exact h3.cell hi⟩
/-- .. in the form that the laws' walks take. -/
theorem PRes.out {w w' : World} {ok : Bool} {x : List Int} {e : Ending} (h : PRes w ok x e w') :
    ∃ a cap, e = .returned (.tuple #[.slice a (if ok = true then x else []).length cap, .bool ok]) ∧ w.Since w.heap.size w' ∧ InR w.heap.size w'.heap.size w' a (if ok = true then x else []) := by
  obtain ⟨a, c, he, hs, hr⟩ := h
  cases ok
  · exact ⟨a, c, he, hs, hr⟩
  · exact ⟨a, c, he, hs, hr⟩

theorem apart_push {wr w1 : World} {v v' : Value} {c : Obj} {G : Nat} {x : List Int} (h : v.ownBlock ≠ some G) (hr : RowB wr G x) (hg : (wr.alloc c).grownBy w1 v.ownBlock) (hat : v'.ownBlock = v.ownBlock ∨ v'.ownBlock = some (wr.alloc c).heap.size) :
    v'.ownBlock ≠ some G ∧ RowB w1 G x := by
  have hlt := hr.lt
  have e1 : (wr.alloc c).heap[G]? = wr.heap[G]? := Below.heap_alloc wr _ G hlt
  refine ⟨fun e => ?_, hr.of_block ((hg.block G (by simp; omega) (fun e => h e.symm)).trans e1)⟩
  rcases hat with q | q
  · exact h (q.symm.trans e)
  · rw [e] at q
    have : G = (wr.alloc c).heap.size := by injection q
    simp at this
    omega

/-- The bases among the first i sets. -/
def basesTo (k M : Nat) (p : List Int) (i : Nat) : List Int := List.map (fun s : Nat => (s : Int)) (((setsTo k M).take i).filter fun s => decide (atP p s ≠ 0))
theorem basesTo_yes {k M i s : Nat} {p : List Int} (h : (setsTo k M)[i]? = some s) (hy : atP p s ≠ 0) : basesTo k M p (i + 1) = basesTo k M p i ++ [(s : Int)] := by
  unfold basesTo
  rw [List.take_add_one, h, List.filter_append, List.map_append]
  simp [hy]
theorem basesTo_no {k M i s : Nat} {p : List Int} (h : (setsTo k M)[i]? = some s) (hy : atP p s = 0) : basesTo k M p (i + 1) = basesTo k M p i := by
  unfold basesTo
  rw [List.take_add_one, h, List.filter_append, List.map_append]
  simp [hy]
theorem basesTo_le (k M : Nat) (p : List Int) (i : Nat) : (basesTo k M p i).length ≤ i := by
  unfold basesTo
  rw [List.length_map]
  exact Nat.le_trans (List.length_filter_le _ _) (by rw [List.length_take]; omega)
/-- All bases. -/
def basesP (k n : Nat) (p : List Int) : List Int := basesTo k (2 ^ n) p (setsTo k (2 ^ n)).length
theorem basesP_eq (k n : Nat) (p : List Int) : basesP k n p = List.map (fun s : Nat => (s : Int)) ((setsTo k (2 ^ n)).filter fun s => decide (atP p s ≠ 0)) := by
  unfold basesP basesTo; rw [List.take_length]
theorem placeBases_short (k n : Int) (p : List Int) : (if placeB k n p = true then basesP k.toNat n.toNat p else []).length ≤ 1000 := by
  split
  · rename_i h
    obtain ⟨k, n, rfl, rfl, _, _, h5, _, _⟩ := placeB_of h
    have := basesTo_le k (2 ^ n) p (setsTo k (2 ^ n)).length
    have h2 := setsTo_len k (2 ^ n)
    have := pow_le5 h5
    show (basesTo k (2 ^ n) p (setsTo k (2 ^ n)).length).length ≤ 1000
    omega
  · simp
theorem atP_at {k M i s : Nat} {p : List Int} (h : (setsTo k M)[i]? = some s) : p.getD i 0 = atP p s := by
  obtain ⟨h1, h2, _⟩ := setsTo_idx k M h
  unfold atP
  rw [h2, h1]

set_option maxRecDepth 100000 in
set_option maxHeartbeats 2000000 in
theorem specPlaceBases_any (k n : Int) (a : Option Addr) (cap m : Nat) (p : List Int) (w : World) (hm : p.length = m) (hmx : m ≤ 1048576) (hr : RowR w a p) :
    Calls Try.prog 27 #[.int .i64 k, .int .i64 n, .slice a m cap] w (PRes w (placeB k n p) (basesP k.toNat n.toNat p)) := by
  obtain ⟨i3, hi3⟩ := info3_parts
  have HJ := Lib.hid hi3
  have HRB := Lib.hid (rb_start w #[] rfl)
  have HS1 := Lib.hid ((World.Since.refl w.heap.size w).alloc (Nat.le_refl _) (.cells #[] 3))
  have E1 := fun (W : World) (hd : w.Since w.heap.size W) => specPlaceIn_any k n a cap m p W hm hmx (hr.since hd)
  clear hi3
  cases h1 : placeB k n p with
  | false =>
    rw [h1] at E1
    replace E1 := Lib.hid E1
    clear hr h1 hm
    go_enter Try.func27, Try.ntmps27
    go_wp2_with fail
    refine (E1.out _ HS1.out).mono ?_
    rintro e w2 ⟨rfl, hs⟩
    have hs2 := Lib.hid (HS1.out.trans (since_mono hs HS1.out.size))
    clear hs
    go_wp2
    go_ret2
    exact pres_no rfl hs2.out
  | true =>
  rw [h1] at E1
  obtain ⟨k, n, rfl, rfl, hk1, hkn, h5, hl, hp⟩ := placeB_of h1
  simp only [Int.toNat_natCast]
  have hpw := pow_le5 h5
  have ES := Lib.hid (fun (W : World) => l3Sets_any n k (by omega) W)
  have HG := Lib.hid (fun (i : Nat) => @setsI_get k (2 ^ n) i)
  have HAT := Lib.hid (fun (i s : Nat) => @atP_at k (2 ^ n) i s p)
  have HY := Lib.hid (fun (i s : Nat) => @basesTo_yes k (2 ^ n) i s p)
  have HN := Lib.hid (fun (i s : Nat) => @basesTo_no k (2 ^ n) i s p)
  have hle := basesTo_le k (2 ^ n) p
  have hlen := setsI_length k (2 ^ n)
  have hle2 := setsTo_len k (2 ^ n)
  have hR := fun (W : World) (hd : w.Since w.heap.size W) => hr.since hd
  have hst : basesTo k (2 ^ n) p 0 = [] := rfl
  unfold basesP
  obtain ⟨M, hM⟩ : ∃ x, 2 ^ n = x := ⟨_, rfl⟩
  simp only [hM] at ES HG HAT HY HN hle hlen hle2 hpw hl hst ⊢
  rw [hm] at hl
  rw [← hl] at hlen hle2 ⊢
  simp only [← hl] at HG
  have HM := Lib.hid hm
  have HL := Lib.hid hlen
  have HST := Lib.hid hst
  have HR := Lib.hid hR
  have HLE := Lib.hid hle
  replace E1 := Lib.hid E1
  clear hr h1 hm hl hp hM hlen hle hR hst
  go_enter Try.func27, Try.ntmps27
  go_wp2_with fail
  refine (E1.out _ HS1.out).mono ?_
  rintro e w2 ⟨rfl, hs⟩
  have HS2 := Lib.hid (HS1.out.trans (since_mono hs HS1.out.size))
  have HRB2 := Lib.hid (HRB.out.later hs)
  have hs0 := hs.size
  clear hs HRB
  go_wp2_with fail
  refine (ES.out w2).mono ?_
  rintro e w3 ⟨vs, rfl, hRS⟩
  obtain ⟨a3, c3, rfl, hsl⟩ := hRS.slice
  rw [HL.out] at hsl ⊢
  have HS3 := Lib.hid (HS2.out.trans (since_mono hRS.since HS2.out.size))
  have HRB3 := Lib.hid (HRB2.out.later hRS.since)
  have HRS := Lib.hid hsl
  have HZ := Lib.hid (show w.heap.size < w2.heap.size from Nat.lt_of_lt_of_le (by simp) hs0)
  clear hRS hsl HRB2
  have hrb0 : RB w w3 (.slice (some ⟨w.heap.size, 0, none⟩) 0 0) (basesTo k M p 0) := by rw [HST.out]; exact HRB3.out
  have hap0 : 0 < m → ∃ G, a3 = some ⟨G, 0, none⟩ ∧ (Value.slice (some ⟨w.heap.size, 0, none⟩) 0 0).ownBlock ≠ some G ∧ RowB w3 G (setsI k M) := fun h => by
    obtain ⟨G, e, h2, h3⟩ := HRS.out h
    refine ⟨G, e, fun q => ?_, h3⟩
    have : w.heap.size = G := by simpa [Value.ownBlock] using q
    have := HZ.out
    omega
  have HRB4 := Lib.hid (And.intro hrb0 hap0)
  clear hrb0 hap0 HRB3 HRS
  go_wp2
  go_loopg [8, 10] m (fun g v i wr => ∃ i0 : Nat, i0 ≤ m ∧ g = m - i0 ∧ i = .int .i64 i0 ∧ RB w wr v (basesTo k M p i0) ∧ (0 < m → ∃ G, a3 = some ⟨G, 0, none⟩ ∧ v.ownBlock ≠ some G ∧ RowB wr G (setsI k M)))
  case atStart => exact ⟨0, Nat.zero_le _, rfl, rfl, HRB4.out.1, HRB4.out.2⟩
  case round =>
    obtain ⟨i0, hi0, rfl, rfl, hI, hA⟩ := hrel
    clear HRB4
    have hzi := hI.since.size
    have hle := HLE.out i0
    by_cases hlt : i0 < m
    · obtain ⟨G, rfl, hv, hrow⟩ := hA (by omega)
      obtain ⟨s, es, is, hsM, _⟩ := HG.out i0 hlt
      have cs0 := hrow.cell (i := i0) (by rw [HL.out]; exact hlt)
      rw [es] at cs0
      obtain ⟨b, o, rfl, hc⟩ := HR.out _ hI.since (by rw [HM.out]; omega)
      have cp0 := hc i0 (by rw [HM.out]; exact hlt)
      have hat := HAT.out i0 s is
      have HII := Lib.hid hI
      have HAP := Lib.hid (And.intro hv hrow)
      obtain ⟨y, hy⟩ : ∃ y, p.getD i0 0 = y := ⟨_, rfl⟩
      rw [hy] at cp0 hat
      clear hI hA hv hrow es hc hy
      by_cases h0 : y = 0
      · have HN2 := Lib.hid (HN.out i0 s is (by rw [← hat]; exact h0))
        have hz : (y != 0) = false := by simp [h0]
        clear h0 hat is
        go_wp2
        go_roundg (m - (i0 + 1))
        case measure => omega
        case rel => exact ⟨i0 + 1, by omega, rfl, by go_num, by rw [HN2.out]; exact HII.out, fun _ => ⟨G, rfl, HAP.out.1, HAP.out.2⟩⟩
      · have HY2 := Lib.hid (HY.out i0 s is (by rw [← hat]; exact h0))
        have hz : (y != 0) = true := by simp [h0]
        clear h0 hat is
        go_wp2_with (at_builtin; (refine wpList_append_own_at _ rfl _ _ 22 rfl w.heap.size 3 i3 (.int .i64 0) 1 8 Try.underlying22 HJ.out.1 HJ.out.2.1 HJ.out.2.2.1 HJ.out.2.2.2 rfl (by decide) _ _ _ rfl (HII.out.own.alloc _) ⟨wr.heap.size, 0, none⟩ 1 1 [.int .i64 (s : Nat)] rfl rfl (cell_one_at _ _ _ rfl) (fun x hx => by simp at hx; subst hx; rfl) (by unfold maxLen; omega) (by omega) (by simp; omega) ?_); intro v' w5 hown' hgrow _ hat')
        have hP := HII.out.push hown' hgrow
        have hQ := apart_push HAP.out.1 HAP.out.2 hgrow hat'
        rw [← HY2.out] at hP
        have HP := Lib.hid (And.intro hP hQ)
        clear hP hQ hown' hgrow hat'
        go_roundg (m - (i0 + 1))
        case measure => omega
        case rel => exact ⟨i0 + 1, by omega, rfl, by go_num, HP.out.1, fun _ => ⟨G, rfl, HP.out.2.1, HP.out.2.2⟩⟩
    · have him : i0 = m := by omega
      subst him
      have HII := Lib.hid hI
      clear hI hA
      go_wp2
      go_ret2
      exact pres_yes HII.out (World.Since.refl _ _) rfl

end Go.Proofs.Ytbedkjpbdkgjpaa
