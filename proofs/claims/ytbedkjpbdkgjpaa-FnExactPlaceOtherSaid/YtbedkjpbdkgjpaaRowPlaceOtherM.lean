import Derived.Test.YtbedkjpbdkgjpaaUnitSpec
import Derived.Test.YtbedkjpbdkgjpaaOwnR
import Derived.Test.YtbedkjpbdkgjpaaPlaceR
import Derived.Maps.AppendAt
import Derived.Test.YtbedkjpbdkgjpaaTold
import Derived.Test.YtbedkjpbdkgjpaaOthI
import Derived.WalkHide
import Derived.Test.YtbedkjpbdkgjpaaRows
import Derived.Test.YtbedkjpbdkgjpaaData
import Derived.ProofKit
import Derived.Deep.Matrix

section
/- The walk of laws.FnExactPlaceOther, over the contracts of spec.PlaceOther and impl.PlaceOther. -/
namespace Go.Proofs.Ytbedkjpbdkgjpaa
open Go.RowKit Go.Deep

set_option maxRecDepth 100000 in
set_option maxHeartbeats 1000000 in
theorem lawPlaceOther_aux (k n : Int) (a0 : Option Addr) (cap0 n0 : Nat) (l0 : List Int) (ok : Bool) (M : List Int) (w : World) (hn0 : l0.length = n0) (h630 : n0 ≤ 9223372036854775807) (hm0 : RowR w a0 l0) (hM : M.length ≤ 1000)
    (hspec : n0 ≤ 1048576 → ∀ (W : World) (b0 : Option Addr) (c0 : Nat), RowR W b0 l0 → Calls Try.prog 21 #[.int .i64 k, .int .i64 n, .slice b0 n0 c0] W (fun e w' => ∃ a cap, e = .returned (.tuple #[.slice a M.length cap, .bool ok]) ∧ W.Since W.heap.size w' ∧ InR W.heap.size w'.heap.size w' a M))
    (himpl : n0 ≤ 1048576 → ∀ (W : World) (b0 : Option Addr) (c0 : Nat), RowR W b0 l0 → Calls Try.prog 22 #[.int .i64 k, .int .i64 n, .slice b0 n0 c0] W (fun e w' => ∃ a cap, e = .returned (.tuple #[.slice a M.length cap, .bool ok]) ∧ W.Since W.heap.size w' ∧ OwnR W.heap.size w'.heap.size w' a M)) :
    Calls Try.prog 5 #[.int .i64 k, .int .i64 n, .slice a0 n0 cap0] w fun e w' => e = .returned (.bool true) ∧ w.Since w.heap.size w' := by
  have HN0 := Lib.hid hn0
  have HM0 := Lib.hid hm0
  obtain ⟨q, hq⟩ : ∃ q, M.length = q := ⟨_, rfl⟩
  rw [hq] at hspec himpl hM
  have HQ := Lib.hid hq
  clear hq
  have HSPEC := Lib.hid hspec
  have HIMPL := Lib.hid himpl
  clear hspec himpl hn0 hm0
  by_cases hbig0 : 1048576 < n0
  · have hb0 : decide ((1048576 : Int) < (n0 : Int)) = true := by simp; omega
    go_enter Try.func5, Try.ntmps5
    go_wp2
    go_ret
    exact ⟨rfl, World.Since.refl _ _⟩
  have hb0 : decide ((1048576 : Int) < (n0 : Int)) = false := by simp; omega
  have hm0 : n0 ≤ 1048576 := by omega
  have HCP0 := Lib.hid (fun (W : World) (hs : w.Since w.heap.size W) => toIntR_any a0 cap0 n0 l0 W HN0.out hm0 (HM0.out.since hs))
  have s0 : w.Since w.heap.size w := World.Since.refl _ _
  cases ok
  all_goals
    go_enter Try.func5, Try.ntmps5
    go_wp2_with fail
    refine (HCP0.out _ s0).mono ?_
    rintro e w1 ⟨rfl, t1, o1⟩
    have s1 : w.Since w.heap.size w1 := s0.trans (since_mono t1 s0.size)
    have z1 := t1.size
    go_wp2_with fail
    refine (HSPEC.out hm0 _ _ _ o1.rowR).mono ?_
    rintro e w2 ⟨vgw, cpgw, rfl, t2, gw⟩
    have s2 : w.Since w.heap.size w2 := s1.trans (since_mono t2 s1.size)
    have z2 := t2.size
    replace o1 := o1.since t2
    clear o1
    go_wp2_with fail
    refine (HCP0.out _ s2).mono ?_
    rintro e w3 ⟨rfl, t3, gx0⟩
    have s3 : w.Since w.heap.size w3 := s2.trans (since_mono t3 s2.size)
    have z3 := t3.size
    replace gw := gw.since t3
    go_wp2_with fail
    refine (HIMPL.out hm0 _ _ _ gx0.rowR).mono ?_
    rintro e w4 ⟨vgg, cpgg, rfl, t4, gg⟩
    have s4 : w.Since w.heap.size w4 := s3.trans (since_mono t4 s3.size)
    have z4 := t4.size
    replace gw := gw.since t4
    replace gx0 := gx0.since t4
    have h63q : q ≤ 9223372036854775807 := by omega
    go_wp2_with fail
    refine (eqIntS_same _ _ _ _ _ M _ HQ.out h63q gg.rowR gw.rowR).mono ?_
    rintro e w5 ⟨rfl, d5⟩
    have t5 := d5.since w4.heap.size
    clear d5
    have s5 : w.Since w.heap.size w5 := s4.trans (since_mono t5 s4.size)
    have z5 := t5.size
    replace gw := gw.since t5
    replace gx0 := gx0.since t5
    replace gg := gg.since t5
    go_wp2_with fail
    refine (HCP0.out _ s5).mono ?_
    rintro e w6 ⟨rfl, t6, o6⟩
    have s6 : w.Since w.heap.size w6 := s5.trans (since_mono t6 s5.size)
    have z6 := t6.size
    replace gw := gw.since t6
    replace gx0 := gx0.since t6
    replace gg := gg.since t6
    go_wp2_with fail
    refine (eqIntS_same _ _ _ _ _ l0 _ HN0.out h630 gx0.rowR o6.rowR).mono ?_
    rintro e w7 ⟨rfl, d7⟩
    have t7 := d7.since w6.heap.size
    clear d7
    have s7 : w.Since w.heap.size w7 := s6.trans (since_mono t7 s6.size)
    have z7 := t7.size
    replace gw := gw.since t7
    replace gx0 := gx0.since t7
    replace gg := gg.since t7
    replace o6 := o6.since t7
    clear o6
    go_wp2_with fail
    refine (markR_any _ w2.heap.size w3.heap.size _ _ _ l0 _ HN0.out (by omega) (by omega) gx0).mono ?_
    rintro e w8 ⟨rfl, m8, f8, zz⟩
    clear zz
    clear gx0
    have gx0 := m8
    clear m8
    have s8 : w.Since w.heap.size w8 := s7.trans (f8.since (by omega) (by omega))
    have z8 := f8.size
    replace gw := gw.frame f8 (by omega)
    replace gg := gg.frame f8 (by omega)
    go_wp2_with fail
    refine (eqIntS_same _ _ _ _ _ M _ HQ.out h63q gg.rowR gw.rowR).mono ?_
    rintro e w9 ⟨rfl, d9⟩
    have t9 := d9.since w8.heap.size
    clear d9
    have s9 : w.Since w.heap.size w9 := s8.trans (since_mono t9 s8.size)
    have z9 := t9.size
    replace gw := gw.since t9
    replace gx0 := gx0.since t9
    replace gg := gg.since t9
    clear gx0
    go_wp2_with fail
    refine (markR_any _ w3.heap.size w4.heap.size _ _ _ M _ HQ.out (by omega) (by omega) gg).mono ?_
    rintro e w10 ⟨rfl, m10, f10, zz⟩
    clear zz
    clear gg
    have gg := m10
    clear m10
    have s10 : w.Since w.heap.size w10 := s9.trans (f10.since (by omega) (by omega))
    have z10 := f10.size
    replace gw := gw.frame f10 (by omega)
    go_wp2_with fail
    refine (heldIntS_any _ _ _ 1 _ (by omega) (by omega) gg.rowR).mono ?_
    rintro e w11 ⟨rfl, rfl⟩
    go_wp2_with fail
    refine (HCP0.out _ s10).mono ?_
    rintro e w11 ⟨rfl, t11, o11⟩
    have s11 : w.Since w.heap.size w11 := s10.trans (since_mono t11 s10.size)
    have z11 := t11.size
    replace gw := gw.since t11
    replace gg := gg.since t11
    go_wp2_with fail
    refine (HIMPL.out hm0 _ _ _ o11.rowR).mono ?_
    rintro e w12 ⟨vgh, cpgh, rfl, t12, gh⟩
    have s12 : w.Since w.heap.size w12 := s11.trans (since_mono t12 s11.size)
    have z12 := t12.size
    replace gw := gw.since t12
    replace gg := gg.since t12
    replace o11 := o11.since t12
    clear o11
    go_wp2_with fail
    refine (eqIntS_same _ _ _ _ _ M _ HQ.out h63q gh.rowR gw.rowR).mono ?_
    rintro e w13 ⟨rfl, d13⟩
    have t13 := d13.since w12.heap.size
    clear d13
    have s13 : w.Since w.heap.size w13 := s12.trans (since_mono t13 s12.size)
    have z13 := t13.size
    replace gw := gw.since t13
    replace gg := gg.since t13
    replace gh := gh.since t13
    go_wp2_with fail
    refine (heldIntS_any _ _ _ 1 _ (by omega) (by omega) gg.rowR).mono ?_
    rintro e w14 ⟨rfl, rfl⟩
    go_wp2
    go_ret
    exact ⟨rfl, s13⟩

end Go.Proofs.Ytbedkjpbdkgjpaa
end

section
/- The contract of spec.PlaceBases. -/
namespace Go.Proofs.Ytbedkjpbdkgjpaa
open Go.RowKit Go.Deep

/-- A row and whether there is one. -/
def PRes (w : World) (ok : Bool) (x : List Int) (e : Ending) (w' : World) : Prop :=
  ∃ a c, e = .returned (.tuple #[.slice a (if ok = true then x.length else 0) c, .bool ok]) ∧ w.Since w.heap.size w' ∧ InR w.heap.size w'.heap.size w' a (if ok = true then x else [])
theorem pres_no {w w' : World} {x : List Int} {a : Option Addr} {c : Nat} {e : Ending} (he : e = .returned (.tuple #[.slice a 0 c, .bool false])) (hs : w.Since w.heap.size w') : PRes w false x e w' :=
  ⟨a, c, he, hs, fun h => absurd h (by simp)⟩
theorem pres_yes {w wr w' : World} {x : List Int} {v : Value} {e : Ending} (h : RB wr w' v x) (hs : w.Since w.heap.size wr) (he : e = .returned (.tuple #[v, .bool true])) : PRes w true x e w' := by
  obtain ⟨a, cp, rfl, hr⟩ := h.slice
  refine ⟨a, cp, he, hs.trans (since_mono h.since hs.size), fun h0 => ?_⟩
  obtain ⟨G, e2, hG, h3⟩ := hr h0
  exact ⟨G, 0, e2, ⟨Nat.le_trans hs.size hG, h3.lt⟩, fun i hi => by rw [Nat.zero_add]; exact h3.cell hi⟩
/-- .. in the form that the laws' walks take. -/
theorem PRes.out {w w' : World} {ok : Bool} {x : List Int} {e : Ending} (h : PRes w ok x e w') :
    ∃ a cap, e = .returned (.tuple #[.slice a (if ok = true then x else []).length cap, .bool ok]) ∧ w.Since w.heap.size w' ∧ InR w.heap.size w'.heap.size w' a (if ok = true then x else []) := by
  obtain ⟨a, c, he, hs, hr⟩ := h
  cases ok
  · exact ⟨a, c, he, hs, hr⟩
  · exact ⟨a, c, he, hs, hr⟩

theorem apart_push {wr w1 : World} {v v' : Value} {c : Obj} {G : Nat} {x : List Int} (h : v.ownBlock ≠ some G) (hr : RowB wr G x) (hg : (wr.alloc c).grownBy w1 v.ownBlock) (hat : v'.ownBlock = v.ownBlock ∨ v'.ownBlock = some (wr.alloc c).heap.size) :
    v'.ownBlock ≠ some G ∧ RowB w1 G x := by
  have hlt := hr.lt
  have e1 : (wr.alloc c).heap[G]? = wr.heap[G]? := Below.heap_alloc wr _ G hlt
  refine ⟨fun e => ?_, hr.of_block ((hg.block G (by simp; omega) (fun e => h e.symm)).trans e1)⟩
  rcases hat with q | q
  · exact h (q.symm.trans e)
  · rw [e] at q
    have : G = (wr.alloc c).heap.size := by injection q
    simp at this
    omega

/-- The bases among the first i sets. -/
def basesTo (k M : Nat) (p : List Int) (i : Nat) : List Int := List.map (fun s : Nat => (s : Int)) (((setsTo k M).take i).filter fun s => decide (atP p s ≠ 0))
theorem basesTo_yes {k M i s : Nat} {p : List Int} (h : (setsTo k M)[i]? = some s) (hy : atP p s ≠ 0) : basesTo k M p (i + 1) = basesTo k M p i ++ [(s : Int)] := by
  unfold basesTo
  rw [List.take_add_one, h, List.filter_append, List.map_append]
  simp [hy]
theorem basesTo_no {k M i s : Nat} {p : List Int} (h : (setsTo k M)[i]? = some s) (hy : atP p s = 0) : basesTo k M p (i + 1) = basesTo k M p i := by
  unfold basesTo
  rw [List.take_add_one, h, List.filter_append, List.map_append]
  simp [hy]
theorem basesTo_le (k M : Nat) (p : List Int) (i : Nat) : (basesTo k M p i).length ≤ i := by
  unfold basesTo
  rw [List.length_map]
  exact Nat.le_trans (List.length_filter_le _ _) (by rw [List.length_take]; omega)
/-- All bases. -/
def basesP (k n : Nat) (p : List Int) : List Int := basesTo k (2 ^ n) p (setsTo k (2 ^ n)).length
theorem basesP_eq (k n : Nat) (p : List Int) : basesP k n p = List.map (fun s : Nat => (s : Int)) ((setsTo k (2 ^ n)).filter fun s => decide (atP p s ≠ 0)) := by
  unfold basesP basesTo; rw [List.take_length]
theorem placeBases_short (k n : Int) (p : List Int) : (if placeB k n p = true then basesP k.toNat n.toNat p else []).length ≤ 1000 := by
  split
  · rename_i h
    obtain ⟨k, n, rfl, rfl, _, _, h5, _, _⟩ := placeB_of h
    have := basesTo_le k (2 ^ n) p (setsTo k (2 ^ n)).length
    have h2 := setsTo_len k (2 ^ n)
    have := pow_le5 h5
    show (basesTo k (2 ^ n) p (setsTo k (2 ^ n)).length).length ≤ 1000
    omega
  · simp
theorem atP_at {k M i s : Nat} {p : List Int} (h : (setsTo k M)[i]? = some s) : p.getD i 0 = atP p s := by
  obtain ⟨h1, h2, _⟩ := setsTo_idx k M h
  unfold atP
  rw [h2, h1]

set_option maxRecDepth 100000 in
set_option maxHeartbeats 2000000 in
theorem specPlaceBases_any (k n : Int) (a : Option Addr) (cap m : Nat) (p : List Int) (w : World) (hm : p.length = m) (hmx : m ≤ 1048576) (hr : RowR w a p) :
    Calls Try.prog 27 #[.int .i64 k, .int .i64 n, .slice a m cap] w (PRes w (placeB k n p) (basesP k.toNat n.toNat p)) := by
  obtain ⟨i3, hi3⟩ := info3_parts
  have HJ := Lib.hid hi3
  have HRB := Lib.hid (rb_start w #[] rfl)
  have HS1 := Lib.hid ((World.Since.refl w.heap.size w).alloc (Nat.le_refl _) (.cells #[] 3))
  have E1 := fun (W : World) (hd : w.Since w.heap.size W) => specPlaceIn_any k n a cap m p W hm hmx (hr.since hd)
  clear hi3
  cases h1 : placeB k n p with
  | false =>
    rw [h1] at E1
    replace E1 := Lib.hid E1
    clear hr h1 hm
    go_enter Try.func27, Try.ntmps27
    go_wp2_with fail
    refine (E1.out _ HS1.out).mono ?_
    rintro e w2 ⟨rfl, hs⟩
    have hs2 := Lib.hid (HS1.out.trans (since_mono hs HS1.out.size))
    clear hs
    go_wp2
    go_ret2
    exact pres_no rfl hs2.out
  | true =>
  rw [h1] at E1
  obtain ⟨k, n, rfl, rfl, hk1, hkn, h5, hl, hp⟩ := placeB_of h1
  simp only [Int.toNat_natCast]
  have hpw := pow_le5 h5
  have ES := Lib.hid (fun (W : World) => l3Sets_any n k (by omega) W)
  have HG := Lib.hid (fun (i : Nat) => @setsI_get k (2 ^ n) i)
  have HAT := Lib.hid (fun (i s : Nat) => @atP_at k (2 ^ n) i s p)
  have HY := Lib.hid (fun (i s : Nat) => @basesTo_yes k (2 ^ n) i s p)
  have HN := Lib.hid (fun (i s : Nat) => @basesTo_no k (2 ^ n) i s p)
  have hle := basesTo_le k (2 ^ n) p
  have hlen := setsI_length k (2 ^ n)
  have hle2 := setsTo_len k (2 ^ n)
  have hR := fun (W : World) (hd : w.Since w.heap.size W) => hr.since hd
  have hst : basesTo k (2 ^ n) p 0 = [] := rfl
  unfold basesP
  obtain ⟨M, hM⟩ : ∃ x, 2 ^ n = x := ⟨_, rfl⟩
  simp only [hM] at ES HG HAT HY HN hle hlen hle2 hpw hl hst ⊢
  rw [hm] at hl
  rw [← hl] at hlen hle2 ⊢
  simp only [← hl] at HG
  have HM := Lib.hid hm
  have HL := Lib.hid hlen
  have HST := Lib.hid hst
  have HR := Lib.hid hR
  have HLE := Lib.hid hle
  replace E1 := Lib.hid E1
  clear hr h1 hm hl hp hM hlen hle hR hst
  go_enter Try.func27, Try.ntmps27
  go_wp2_with fail
  refine (E1.out _ HS1.out).mono ?_
  rintro e w2 ⟨rfl, hs⟩
  have HS2 := Lib.hid (HS1.out.trans (since_mono hs HS1.out.size))
  have HRB2 := Lib.hid (HRB.out.later hs)
  have hs0 := hs.size
  clear hs HRB
  go_wp2_with fail
  refine (ES.out w2).mono ?_
  rintro e w3 ⟨vs, rfl, hRS⟩
  obtain ⟨a3, c3, rfl, hsl⟩ := hRS.slice
  rw [HL.out] at hsl ⊢
  have HS3 := Lib.hid (HS2.out.trans (since_mono hRS.since HS2.out.size))
  have HRB3 := Lib.hid (HRB2.out.later hRS.since)
  have HRS := Lib.hid hsl
  have HZ := Lib.hid (show w.heap.size < w2.heap.size from Nat.lt_of_lt_of_le (by simp) hs0)
  clear hRS hsl HRB2
  have hrb0 : RB w w3 (.slice (some ⟨w.heap.size, 0, none⟩) 0 0) (basesTo k M p 0) := by rw [HST.out]; exact HRB3.out
  have hap0 : 0 < m → ∃ G, a3 = some ⟨G, 0, none⟩ ∧ (Value.slice (some ⟨w.heap.size, 0, none⟩) 0 0).ownBlock ≠ some G ∧ RowB w3 G (setsI k M) := fun h => by
    obtain ⟨G, e, h2, h3⟩ := HRS.out h
    refine ⟨G, e, fun q => ?_, h3⟩
    have : w.heap.size = G := by simpa [Value.ownBlock] using q
    have := HZ.out
    omega
  have HRB4 := Lib.hid (And.intro hrb0 hap0)
  clear hrb0 hap0 HRB3 HRS
  go_wp2
  go_loopg [8, 10] m (fun g v i wr => ∃ i0 : Nat, i0 ≤ m ∧ g = m - i0 ∧ i = .int .i64 i0 ∧ RB w wr v (basesTo k M p i0) ∧ (0 < m → ∃ G, a3 = some ⟨G, 0, none⟩ ∧ v.ownBlock ≠ some G ∧ RowB wr G (setsI k M)))
  case atStart => exact ⟨0, Nat.zero_le _, rfl, rfl, HRB4.out.1, HRB4.out.2⟩
  case round =>
    obtain ⟨i0, hi0, rfl, rfl, hI, hA⟩ := hrel
    clear HRB4
    have hzi := hI.since.size
    have hle := HLE.out i0
    by_cases hlt : i0 < m
    · obtain ⟨G, rfl, hv, hrow⟩ := hA (by omega)
      obtain ⟨s, es, is, hsM, _⟩ := HG.out i0 hlt
      have cs0 := hrow.cell (i := i0) (by rw [HL.out]; exact hlt)
      rw [es] at cs0
      obtain ⟨b, o, rfl, hc⟩ := HR.out _ hI.since (by rw [HM.out]; omega)
      have cp0 := hc i0 (by rw [HM.out]; exact hlt)
      have hat := HAT.out i0 s is
      have HII := Lib.hid hI
      have HAP := Lib.hid (And.intro hv hrow)
      obtain ⟨y, hy⟩ : ∃ y, p.getD i0 0 = y := ⟨_, rfl⟩
      rw [hy] at cp0 hat
      clear hI hA hv hrow es hc hy
      by_cases h0 : y = 0
      · have HN2 := Lib.hid (HN.out i0 s is (by rw [← hat]; exact h0))
        have hz : (y != 0) = false := by simp [h0]
        clear h0 hat is
        go_wp2
        go_roundg (m - (i0 + 1))
        case measure => omega
        case rel => exact ⟨i0 + 1, by omega, rfl, by go_num, by rw [HN2.out]; exact HII.out, fun _ => ⟨G, rfl, HAP.out.1, HAP.out.2⟩⟩
      · have HY2 := Lib.hid (HY.out i0 s is (by rw [← hat]; exact h0))
        have hz : (y != 0) = true := by simp [h0]
        clear h0 hat is
        go_wp2_with (at_builtin; (refine wpList_append_own_at _ rfl _ _ 22 rfl w.heap.size 3 i3 (.int .i64 0) 1 8 Try.underlying22 HJ.out.1 HJ.out.2.1 HJ.out.2.2.1 HJ.out.2.2.2 rfl (by decide) _ _ _ rfl (HII.out.own.alloc _) ⟨wr.heap.size, 0, none⟩ 1 1 [.int .i64 (s : Nat)] rfl rfl (cell_one_at _ _ _ rfl) (fun x hx => by simp at hx; subst hx; rfl) (by unfold maxLen; omega) (by omega) (by simp; omega) ?_); intro v' w5 hown' hgrow _ hat')
        have hP := HII.out.push hown' hgrow
        have hQ := apart_push HAP.out.1 HAP.out.2 hgrow hat'
        rw [← HY2.out] at hP
        have HP := Lib.hid (And.intro hP hQ)
        clear hP hQ hown' hgrow hat'
        go_roundg (m - (i0 + 1))
        case measure => omega
        case rel => exact ⟨i0 + 1, by omega, rfl, by go_num, HP.out.1, fun _ => ⟨G, rfl, HP.out.2.1, HP.out.2.2⟩⟩
    · have him : i0 = m := by omega
      subst him
      have HII := Lib.hid hI
      clear hI hA
      go_wp2
      go_ret2
      exact pres_yes HII.out (World.Since.refl _ _) rfl

end Go.Proofs.Ytbedkjpbdkgjpaa
end

section
/- The contract of spec.PlaceOther. -/
namespace Go.Proofs.Ytbedkjpbdkgjpaa
open Go.RowKit Go.Deep

/-- The other coordinate of a set. -/
def othV (k n : Nat) (p : List Int) (s : Nat) : Int := sg (bitS s n + (n - k) * (n - k - 1) / 2) (atP p (2 ^ n - 1 - s))
/-- .. of the first i sets. -/
def othTo (k n : Nat) (p : List Int) (i : Nat) : List Int := ((setsTo (n - k) (2 ^ n)).take i).map (othV k n p)
theorem othTo_succ {k n i s : Nat} {p : List Int} (h : (setsTo (n - k) (2 ^ n))[i]? = some s) : othTo k n p (i + 1) = othTo k n p i ++ [othV k n p s] := by
  unfold othTo
  rw [List.take_add_one, h, List.map_append]
  rfl
theorem othTo_all (k n : Nat) (p : List Int) : othTo k n p (setsTo (n - k) (2 ^ n)).length = otherP k n p := by
  unfold othTo; rw [List.take_length]; rfl
theorem othTo_le (k n : Nat) (p : List Int) (i : Nat) : (othTo k n p i).length ≤ i := by
  unfold othTo
  rw [List.length_map, List.length_take]; omega
theorem placeOther_short (k n : Int) (p : List Int) : (if placeB k n p = true then otherP k.toNat n.toNat p else []).length ≤ 1000 := by
  split
  · rename_i h
    obtain ⟨k, n, rfl, rfl, _, _, h5, _, _⟩ := placeB_of h
    have h2 := setsTo_len (n - k) (2 ^ n)
    have := pow_le5 h5
    show (otherP k n p).length ≤ 1000
    unfold otherP
    rw [List.length_map]
    omega
  · simp
theorem bitA_fin : ∀ s : Fin 32, ∀ c : Fin 5, bits BinOp.and IntKind.i64 ((s.val : Int) / 2 ^ c.val) 1 = ((s.val / 2 ^ c.val % 2 : Nat) : Int) := by decide +kernel
theorem bitS_bd (s : Nat) : ∀ c, c ≤ 5 → bitS s c ≤ 5 * c
  | 0, _ => Nat.zero_le _
  | c + 1, h => by
    have ih := bitS_bd s c (by omega)
    have h2 : s / 2 ^ c % 2 ≤ 1 := by omega
    have h3 : s / 2 ^ c % 2 * c ≤ 1 * c := Nat.mul_le_mul_right _ h2
    show bitS s c + s / 2 ^ c % 2 * c ≤ _
    omega
theorem andNotM_fin : ∀ n : Fin 6, ∀ s : Fin 32, s.val < 2 ^ n.val → bits BinOp.andNot IntKind.i64 ((2 ^ n.val - 1 : Nat) : Int) (s.val : Int) = ((2 ^ n.val - 1 - s.val : Nat) : Int) := by decide +kernel
theorem powM_fin : ∀ n : Fin 6, IntKind.i64.wrap ((2 : Int) ^ n.val - 1) = ((2 ^ n.val - 1 : Nat) : Int) := by decide +kernel
theorem tri_fin : ∀ d : Fin 6, 1 ≤ d.val → IntKind.i64.wrap ((d.val : Int) * ((d.val : Int) - 1)) = (d.val : Int) * ((d.val : Int) - 1) ∧ (d.val : Int) * ((d.val : Int) - 1) / 2 = ((d.val * (d.val - 1) / 2 : Nat) : Int) ∧ d.val * (d.val - 1) / 2 ≤ 10 := by decide +kernel
/-- What the walk wants of a set of n - k. -/
theorem oth_facts {k n : Nat} {p : List Int} (h2 : k < n) (h5 : n ≤ 5) (hl : p.length = (setsTo k (2 ^ n)).length) (hp : NumsC p p.length) {s : Nat} (hs : s < 2 ^ n) (hk : popcS s = n - k) :
    (2 ^ n - 1 - s ≤ 63 ∧ (setsTo (popcS (2 ^ n - 1 - s)) (2 ^ n - 1 - s)).length < p.length) ∧ -100000 ≤ atP p (2 ^ n - 1 - s) ∧ atP p (2 ^ n - 1 - s) ≤ 100000 := by
  have hpw := pow_le5 h5
  have e := comp_fin ⟨n, by omega⟩ ⟨s, by omega⟩ hs
  simp only at e
  rw [← pcQ_of (s := s) (by omega), ← pcQ_of (s := 2 ^ n - 1 - s) (by omega)] at e
  have hk2 : popcS (2 ^ n - 1 - s) = k := by omega
  refine ⟨⟨by omega, ?_⟩, atP_bd hl hp (by omega) hk2⟩
  rw [hl, hk2]
  exact (List.getElem?_eq_some_iff.mp (setsTo_pos k (2 ^ n) (by omega) hk2)).1

set_option maxRecDepth 100000 in
set_option maxHeartbeats 2000000 in
theorem specPlaceOther_any (k n : Int) (a : Option Addr) (cap m : Nat) (p : List Int) (w : World) (hm : p.length = m) (hmx : m ≤ 1048576) (hr : RowR w a p) :
    Calls Try.prog 21 #[.int .i64 k, .int .i64 n, .slice a m cap] w (PRes w (placeB k n p) (otherP k.toNat n.toNat p)) := by
  obtain ⟨i3, hi3⟩ := info3_parts
  have HJ := Lib.hid hi3
  have HRB := Lib.hid (rb_start w #[] rfl)
  have HS1 := Lib.hid ((World.Since.refl w.heap.size w).alloc (Nat.le_refl _) (.cells #[] 3))
  have E1 := fun (W : World) (hd : w.Since w.heap.size W) => specPlaceIn_any k n a cap m p W hm hmx (hr.since hd)
  clear hi3
  cases h1 : placeB k n p with
  | false =>
    rw [h1] at E1
    replace E1 := Lib.hid E1
    clear hr h1 hm
    go_enter Try.func21, Try.ntmps21
    go_wp2_with fail
    refine (E1.out _ HS1.out).mono ?_
    rintro e w2 ⟨rfl, hs⟩
    have hs2 := Lib.hid (HS1.out.trans (since_mono hs HS1.out.size))
    clear hs
    go_wp2
    go_ret2
    exact pres_no rfl hs2.out
  | true =>
  rw [h1] at E1
  obtain ⟨k, n, rfl, rfl, hk1, hkn, h5, hl, hp⟩ := placeB_of h1
  simp only [Int.toNat_natCast]
  have hpw := pow_le5 h5
  have hd1 : 1 ≤ n - k := by omega
  have ES := Lib.hid (fun (W : World) => l3Sets_any n (n - k) (by omega) W)
  have HG := Lib.hid (fun (i : Nat) => @setsI_get (n - k) (2 ^ n) i)
  have HF := Lib.hid (fun (s : Nat) => @oth_facts k n p hkn h5 hl hp s)
  have HY := Lib.hid (fun (i s : Nat) => @othTo_succ k n i s p)
  have HAT := Lib.hid (fun (s : Nat) (hs : s ≤ 63) (hi : (setsTo (popcS s) s).length < p.length) (W : World) (hd : w.Since w.heap.size W) => l4At_any (n : Nat) a cap m s p W hm hs (hr.since hd) (by omega))
  have HN := Lib.hid (fun (s : Nat) (h : s < 2 ^ n) => andNotM_fin ⟨n, by omega⟩ ⟨s, by omega⟩ h)
  have htri := tri_fin ⟨n - k, by omega⟩ hd1
  simp only at htri
  have hle := othTo_le k n p
  have hlen := setsI_length (n - k) (2 ^ n)
  have hle2 := setsTo_len (n - k) (2 ^ n)
  have hR := fun (W : World) (hd : w.Since w.heap.size W) => hr.since hd
  have hst : othTo k n p 0 = [] := rfl
  have HPW := Lib.hid (powM_fin ⟨n, by omega⟩)
  rw [← othTo_all]
  have hov : ∀ s, othV k n p s = sg (bitS s n + (n - k) * (n - k - 1) / 2) (atP p (2 ^ n - 1 - s)) := fun _ => rfl
  have hdd : (n : Int) - (k : Int) = ((n - k : Nat) : Int) := by omega
  obtain ⟨d, hd⟩ : ∃ x, n - k = x := ⟨_, rfl⟩
  obtain ⟨M, hM⟩ : ∃ x, 2 ^ n = x := ⟨_, rfl⟩
  simp only [hd] at hd1 ES HG HF HY hlen hle2 hov hdd htri ⊢
  obtain ⟨C, hC⟩ : ∃ x, d * (d - 1) / 2 = x := ⟨_, rfl⟩
  simp only [hC] at hov htri
  simp only [hM] at ES HG HF HY HN hlen hle2 hpw hov HPW ⊢
  obtain ⟨mb, hmb⟩ : ∃ x, (setsTo d M).length = x := ⟨_, rfl⟩
  simp only [hmb] at HG hlen hle2 ⊢
  have hwd : IntKind.i64.wrap ((n : Int) - (k : Int)) = (d : Int) := by rw [hdd]; exact IntWalk.i64_in _ ⟨by omega, by omega⟩
  have hwd1 : IntKind.i64.wrap ((d : Int) - 1) = (d : Int) - 1 := IntWalk.i64_in _ ⟨by omega, by omega⟩
  obtain ⟨ht1, ht2, ht3⟩ := htri
  have HM := Lib.hid hm
  have HL := Lib.hid hlen
  have HST := Lib.hid hst
  have HR := Lib.hid hR
  have HLE := Lib.hid hle
  have HOV := Lib.hid hov
  replace E1 := Lib.hid E1
  clear hr h1 hm hl hp hM hlen hle hR hst hd hC hmb hov hdd
  go_enter Try.func21, Try.ntmps21
  go_wp2_with fail
  refine (E1.out _ HS1.out).mono ?_
  rintro e w2 ⟨rfl, hs⟩
  have HS2 := Lib.hid (HS1.out.trans (since_mono hs HS1.out.size))
  have HRB2 := Lib.hid (HRB.out.later hs)
  have hs0 := hs.size
  clear hs HRB
  go_wp2_with fail
  refine (ES.out w2).mono ?_
  rintro e w3 ⟨vs, rfl, hRS⟩
  obtain ⟨a3, c3, rfl, hsl⟩ := hRS.slice
  rw [HL.out] at hsl ⊢
  have HS3 := Lib.hid (HS2.out.trans (since_mono hRS.since HS2.out.size))
  have HRB3 := Lib.hid (HRB2.out.later hRS.since)
  have HRS := Lib.hid hsl
  have HZ := Lib.hid (show w.heap.size < w2.heap.size from Nat.lt_of_lt_of_le (by simp) hs0)
  clear hRS hsl HRB2
  have hrb0 : RB w w3 (.slice (some ⟨w.heap.size, 0, none⟩) 0 0) (othTo k n p 0) := by rw [HST.out]; exact HRB3.out
  have hap0 : 0 < mb → ∃ G, a3 = some ⟨G, 0, none⟩ ∧ (Value.slice (some ⟨w.heap.size, 0, none⟩) 0 0).ownBlock ≠ some G ∧ RowB w3 G (setsI d M) := fun h => by
    obtain ⟨G, e, h2, h3⟩ := HRS.out h
    refine ⟨G, e, fun q => ?_, h3⟩
    have : w.heap.size = G := by simpa [Value.ownBlock] using q
    have := HZ.out
    omega
  have HRB4 := Lib.hid (And.intro hrb0 hap0)
  clear hrb0 hap0 HRB3 HRS
  go_wp2
  go_loopg [8, 10] mb (fun g v i wr => ∃ i0 : Nat, i0 ≤ mb ∧ g = mb - i0 ∧ i = .int .i64 i0 ∧ RB w wr v (othTo k n p i0) ∧ (0 < mb → ∃ G, a3 = some ⟨G, 0, none⟩ ∧ v.ownBlock ≠ some G ∧ RowB wr G (setsI d M)))
  case atStart => exact ⟨0, Nat.zero_le _, rfl, rfl, HRB4.out.1, HRB4.out.2⟩
  case round =>
    obtain ⟨i0, hi0, rfl, rfl, hI, hA⟩ := hrel
    clear HRB4
    have hzi := hI.since.size
    have hle := HLE.out i0
    by_cases hlt : i0 < mb
    · obtain ⟨G, rfl, hv, hrow⟩ := hA (by omega)
      obtain ⟨s, es, is, hsM, hsk⟩ := HG.out i0 hlt
      have cs0 := hrow.cell (i := i0) (by rw [HL.out]; exact hlt)
      rw [es] at cs0
      have HII := Lib.hid hI
      have HAP := Lib.hid (And.intro hv hrow)
      have HY2 := Lib.hid (HY.out i0 s is)
      have hf := HF.out s hsM hsk
      have hand := HN.out s hsM
      have HCS := Lib.hid cs0
      have hbs := bitS_bd s n h5
      clear hI hA hv hrow es is hsk
      obtain ⟨wq, hwq⟩ : ∃ x : World, x = wr := ⟨_, rfl⟩
      have HS4 := Lib.hid (show w.Since w.heap.size wr from HII.out.since)
      go_wp2
      go_loopg [11, 12] n (fun g u c wi => ∃ c0 : Nat, c0 ≤ n ∧ g = n - c0 ∧ c = .int .i64 c0 ∧ u = .int .i64 (bitS s c0 : Nat) ∧ wq = wi)
      case atStart => exact ⟨0, Nat.zero_le _, rfl, rfl, rfl, hwq⟩
      case round =>
        obtain ⟨c0, hc0, rfl, rfl, rfl, rfl⟩ := hrel
        subst hwq
        by_cases hltc : c0 < n
        · have cs0 := HCS.out
          have hb := bitA_fin ⟨s, by omega⟩ ⟨c0, by omega⟩
          have hst : bitS s (c0 + 1) = bitS s c0 + s / 2 ^ c0 % 2 * c0 := rfl
          have hbd := bitS_bd s c0 (by omega)
          have hq1 : s / 2 ^ c0 % 2 ≤ 1 := by omega
          have hq2 : s / 2 ^ c0 % 2 * c0 ≤ 1 * c0 := Nat.mul_le_mul_right _ hq1
          simp only at hb
          obtain ⟨q, hq⟩ : ∃ x, s / 2 ^ c0 % 2 = x := ⟨_, rfl⟩
          rw [hq] at hb hst hq1 hq2
          obtain ⟨z, hz⟩ : ∃ x, q * c0 = x := ⟨_, rfl⟩
          rw [hz] at hst hq2
          have hzi : (q : Int) * (c0 : Int) = (z : Int) := by rw [← hz]; simp
          have hw1 : IntKind.i64.wrap ((q : Int) * (c0 : Int)) = (z : Int) := by rw [hzi]; exact IntWalk.i64_in _ ⟨by omega, by omega⟩
          obtain ⟨U, hU⟩ : ∃ x, bitS s c0 = x := ⟨_, rfl⟩
          rw [hU] at hst hbd ⊢
          have hw2 : IntKind.i64.wrap ((U : Int) + (z : Int)) = (U : Int) + (z : Int) := IntWalk.i64_in _ ⟨by omega, by omega⟩
          have HX := Lib.hid hst
          clear hst hq hz hzi hU
          go_wp2
          go_roundg (n - (c0 + 1))
          case measure => omega
          case rel => exact ⟨c0 + 1, by omega, rfl, by go_num, by rw [HX.out]; go_num, rfl⟩
        · have hcn : c0 = n := by omega
          rw [hcn]
          rw [hcn] at hltc hc0
          clear hcn
          have cs0 := HCS.out
          have hov := HOV.out s
          obtain ⟨⟨g1, g2⟩, g3, g4⟩ := hf
          have EA := fun (q : Nat) => (HAT.out _ g1 g2 (wq.drewN q) (HS4.out.trans ((Drawn.mk _ _).since w.heap.size))).mono fun _ _ h => And.intro h.1 h.2.symm
          obtain ⟨U, hU⟩ : ∃ x, bitS s n = x := ⟨_, rfl⟩
          obtain ⟨v, hv⟩ : ∃ x, M - 1 - s = x := ⟨_, rfl⟩
          rw [hU] at hov hbs ⊢
          simp only [hv] at hov g3 g4 EA hand
          obtain ⟨x, hx⟩ : ∃ y, atP p v = y := ⟨_, rfl⟩
          simp only [hx] at hov g3 g4 EA
          have HO := Lib.hid hov
          have EAH := Lib.hid EA
          clear hov hU hv hx EA g1 g2
          have hnn : min n 64 = n := by omega
          have hn1 := pow_in ⟨n, by omega⟩
          have hn2 : IntKind.i64.wrap ((2 : Int) ^ n - 1) = ((M - 1 : Nat) : Int) := HPW.out
          simp only at hn1
          go_wp2
          go_quiet ((go_at_call 48; exact Calls.quiet_of_same (EAH.out _)))
          have hs6 : wq.Since wq.heap.size (wq.drewN nq) := (Drawn.mk wq nq).since _
          obtain ⟨w6, hw6⟩ : ∃ y, wq.drewN nq = y := ⟨_, rfl⟩
          rw [hw6] at hs6 ⊢
          have HII6 := Lib.hid (HII.out.later hs6)
          have HAP6 := Lib.hid (And.intro HAP.out.1 (HAP.out.2.of_block (hs6.block G HAP.out.2.lt)))
          have hz6 := hs6.size
          clear hs6 hw6 HII HAP
          have hwc : IntKind.i64.wrap ((U : Int) + (C : Int)) = (U : Int) + (C : Int) := IntWalk.i64_in _ ⟨by omega, by omega⟩
          by_cases hodd : (U + C) % 2 = 1
          · have ho : (((U : Int) + (C : Int)) % 2 == 1) = true := by simp; omega
            have e0 : sg (U + C) x = -x := by unfold sg; rw [if_pos hodd]
            have w1' : IntKind.i64.wrap (0 - x) = -x := (IntWalk.i64_in _ ⟨by omega, by omega⟩).trans (by omega)
            have w2' : IntKind.i64.wrap (-x) = -x := IntWalk.i64_in _ ⟨by omega, by omega⟩
            have HE0 := Lib.hid e0
            clear e0
            have HVV := Lib.hid (show othV k n p s = -x by rw [HO.out, HE0.out])
            go_wp2_with (at_builtin; (refine wpList_append_own_at _ rfl _ _ 22 rfl w.heap.size 3 i3 (.int .i64 0) 1 8 Try.underlying22 HJ.out.1 HJ.out.2.1 HJ.out.2.2.1 HJ.out.2.2.2 rfl (by decide) _ _ _ rfl (HII6.out.own.alloc _) ⟨w6.heap.size, 0, none⟩ 1 1 [.int .i64 (-x)] rfl rfl (cell_one_at _ _ _ rfl) (fun x hx => by simp at hx; subst hx; rfl) (by unfold maxLen; omega) (by omega) (by simp; omega) ?_); intro v' w5 hown' hgrow _ hat')
            have hP := HII6.out.push hown' hgrow
            have hQ := apart_push HAP6.out.1 HAP6.out.2 hgrow hat'
            rw [← HVV.out, ← HY2.out] at hP
            have HP := Lib.hid (And.intro hP hQ)
            clear hP hQ hown' hgrow hat'
            go_roundg (mb - (i0 + 1))
            case measure => omega
            case rel => exact ⟨i0 + 1, by omega, rfl, by go_num, HP.out.1, fun _ => ⟨G, rfl, HP.out.2.1, HP.out.2.2⟩⟩
          · have ho : (((U : Int) + (C : Int)) % 2 == 1) = false := by simp; omega
            have e0 : sg (U + C) x = x := by unfold sg; rw [if_neg hodd]
            have HE0 := Lib.hid e0
            clear e0
            have HVV := Lib.hid (show othV k n p s = x by rw [HO.out, HE0.out])
            go_wp2_with (at_builtin; (refine wpList_append_own_at _ rfl _ _ 22 rfl w.heap.size 3 i3 (.int .i64 0) 1 8 Try.underlying22 HJ.out.1 HJ.out.2.1 HJ.out.2.2.1 HJ.out.2.2.2 rfl (by decide) _ _ _ rfl (HII6.out.own.alloc _) ⟨w6.heap.size, 0, none⟩ 1 1 [.int .i64 (x)] rfl rfl (cell_one_at _ _ _ rfl) (fun x hx => by simp at hx; subst hx; rfl) (by unfold maxLen; omega) (by omega) (by simp; omega) ?_); intro v' w5 hown' hgrow _ hat')
            have hP := HII6.out.push hown' hgrow
            have hQ := apart_push HAP6.out.1 HAP6.out.2 hgrow hat'
            rw [← HVV.out, ← HY2.out] at hP
            have HP := Lib.hid (And.intro hP hQ)
            clear hP hQ hown' hgrow hat'
            go_roundg (mb - (i0 + 1))
            case measure => omega
            case rel => exact ⟨i0 + 1, by omega, rfl, by go_num, HP.out.1, fun _ => ⟨G, rfl, HP.out.2.1, HP.out.2.2⟩⟩
    · have him : i0 = mb := by omega
      subst him
      have HII := Lib.hid hI
      clear hI hA
      go_wp2
      go_ret2
      exact pres_yes HII.out (World.Since.refl _ _) rfl

end Go.Proofs.Ytbedkjpbdkgjpaa
end

section
/- The contract of impl.PlaceBases. -/
namespace Go.Proofs.Ytbedkjpbdkgjpaa
open Go.RowKit Go.Deep

/-- The sets below m whose number is not 0. -/
def nzTo (C : Nat → Int) : Nat → List Int
  | 0 => []
  | m + 1 => if C m ≠ 0 then nzTo C m ++ [(m : Int)] else nzTo C m
theorem nzTo_yes {C : Nat → Int} {m : Nat} (h : C m ≠ 0) : nzTo C (m + 1) = nzTo C m ++ [(m : Int)] := by simp [nzTo, h]
theorem nzTo_no {C : Nat → Int} {m : Nat} (h : C m = 0) : nzTo C (m + 1) = nzTo C m := by simp [nzTo, h]
theorem nzTo_le (C : Nat → Int) : ∀ m, (nzTo C m).length ≤ m
  | 0 => by simp [nzTo]
  | m + 1 => by
    have := nzTo_le C m
    by_cases h : C m = 0
    · rw [nzTo_no h]; omega
    · rw [nzTo_yes h]; simp; omega

set_option maxRecDepth 100000 in
set_option maxHeartbeats 2000000 in
theorem bases_any (C : Nat → Int) (w : World) : Calls Try.prog 54 #[.agg (arr C)] w fun e w' => ∃ v, e = .returned v ∧ RB w w' v (nzTo C 32) := by
  obtain ⟨i3, hi3⟩ := info3_parts
  have HJ := Lib.hid hi3
  clear hi3
  go_enter Try.func54, Try.ntmps54
  go_wp2_with (with_reducible (show wpList _ _ _ (Oper.mk _ (Op.load _ _) 48 _ _ _ :: _) _ _); refine wpList_load_arr rfl _ rfl _ rfl C (ArrAt.new _ _) ?_)
  obtain ⟨W, hW⟩ : ∃ W, w.alloc (.cells (arr C) 48) = W := ⟨_, rfl⟩
  have hS : w.Since w.heap.size W := by rw [← hW]; exact (World.Since.refl _ _).alloc (Nat.le_refl _) _
  have HST := Lib.hid (show RB w W (.slice none 0 0) [] from ⟨hS, World.ownsRow_nil _ _ _ _⟩)
  rw [hW]
  clear hS hW
  go_loopg [3, 7] 32 (fun g v i wr => ∃ r : Nat, r ≤ 32 ∧ g = 32 - r ∧ i = .int .i64 r ∧ RB w wr v (nzTo C r))
  case atStart => exact ⟨0, by omega, rfl, rfl, HST.out⟩
  case round =>
    obtain ⟨r, hr, rfl, rfl, hR⟩ := hrel
    clear HST
    by_cases hlt : r < 32
    · have hc := fun W => run_index_arr C hlt W
      obtain ⟨y, hy⟩ : ∃ y, C r = y := ⟨_, rfl⟩
      rw [hy] at hc
      have hle := nzTo_le C r
      have hzi := hR.since.size
      have HR := Lib.hid hR
      clear hR
      by_cases h0 : y = 0
      · subst h0
        have HN := Lib.hid (nzTo_no hy)
        clear hy
        go_wp2
        go_roundg (32 - (r + 1))
        case measure => omega
        case rel => exact ⟨r + 1, by omega, rfl, by go_num, by rw [HN.out]; exact HR.out⟩
      · have HN := Lib.hid (nzTo_yes (show C r ≠ 0 by rw [hy]; exact h0))
        have hy0 : (y != 0) = true := by simpa using h0
        clear hy h0
        go_wp2_with (at_builtin; (refine wpList_append_own _ rfl _ _ 22 rfl w.heap.size 3 i3 (.int .i64 0) 1 8 Try.underlying22 HJ.out.1 HJ.out.2.1 HJ.out.2.2.1 HJ.out.2.2.2 rfl (by decide) _ _ _ rfl (HR.out.own.alloc _) ⟨wr.heap.size, 0, none⟩ 1 1 [.int .i64 (r : Nat)] rfl rfl (cell_one_at _ _ _ rfl) (fun x hx => by simp at hx; subst hx; rfl) (by unfold maxLen; omega) (by omega) (by simp; omega) ?_); intro v' w5 hown' hgrow _)
        have hP := HR.out.push hown' hgrow
        rw [← HN.out] at hP
        have HP := Lib.hid hP
        clear hP hown' hgrow
        go_roundg (32 - (r + 1))
        case measure => omega
        case rel => exact ⟨r + 1, by omega, rfl, by go_num, HP.out⟩
    · obtain rfl : r = 32 := by omega
      have HR := Lib.hid hR
      clear hR
      go_wp2
      go_ret
      exact ⟨_, rfl, HR.out⟩

theorem nz_sets (k n : Nat) (p : List Int) : ∀ m, m ≤ 2 ^ n → nzTo (crd k n p) m = List.map (fun s : Nat => (s : Int)) ((setsTo k m).filter fun s => decide (atP p s ≠ 0))
  | 0, _ => rfl
  | m + 1, h => by
    have ih := nz_sets k n p m (by omega)
    by_cases hk : popcS m = k
    · have hc : crd k n p m = atP p m := by unfold crd; rw [if_pos ⟨by omega, hk⟩]
      rw [setsTo_yes hk, List.filter_append, List.map_append, ← ih]
      by_cases h0 : atP p m = 0
      · rw [nzTo_no (hc.trans h0)]; simp [h0]
      · rw [nzTo_yes (by rw [hc]; exact h0)]; simp [h0]
    · have hc : crd k n p m = 0 := by unfold crd; rw [if_neg (fun e => hk e.2)]
      rw [setsTo_no hk, ← ih, nzTo_no hc]
theorem nz_beyond (k n : Nat) (p : List Int) : ∀ j, nzTo (crd k n p) (2 ^ n + j) = nzTo (crd k n p) (2 ^ n)
  | 0 => rfl
  | j + 1 => by
    rw [← Nat.add_assoc, nzTo_no (by unfold crd; rw [if_neg (fun e => by omega)]), nz_beyond k n p j]
theorem nz_bases {k n : Nat} (hn : n ≤ 5) (p : List Int) : nzTo (crd k n p) 32 = basesP k n p := by
  have := pow_le5 hn
  rw [show 32 = 2 ^ n + (32 - 2 ^ n) by omega, nz_beyond, nz_sets k n p _ (Nat.le_refl _), basesP_eq]

/-- A row of one's own and whether there is one. -/
def POwn (w : World) (ok : Bool) (x : List Int) (e : Ending) (w' : World) : Prop :=
  ∃ a cap, e = .returned (.tuple #[.slice a (if ok = true then x else []).length cap, .bool ok]) ∧ w.Since w.heap.size w' ∧ OwnR w.heap.size w'.heap.size w' a (if ok = true then x else [])
theorem pown_no {w w' : World} {x : List Int} {a : Option Addr} {c : Nat} {e : Ending} (he : e = .returned (.tuple #[.slice a 0 c, .bool false])) (hs : w.Since w.heap.size w') : POwn w false x e w' :=
  ⟨a, c, he, hs, OwnR.nil _ _ _ _⟩
theorem pown_yes {w wr w' : World} {x : List Int} {v : Value} {e : Ending} (h : RB wr w' v x) (hs : w.Since w.heap.size wr) (he : e = .returned (.tuple #[v, .bool true])) : POwn w true x e w' := by
  obtain ⟨a, cp, rfl, hr⟩ := h.slice
  refine ⟨a, cp, he, hs.trans (since_mono h.since hs.size), fun h0 => ?_⟩
  obtain ⟨G, e2, hG, h3⟩ := hr h0
  exact ⟨G, e2, ⟨Nat.le_trans hs.size hG, h3.lt⟩, fun i hi => ⟨h3.cell hi, h3.frozen i⟩⟩

set_option maxRecDepth 100000 in
set_option maxHeartbeats 1000000 in
theorem implPlaceBases_any (k n : Int) (a : Option Addr) (cap m : Nat) (p : List Int) (w : World) (hm : p.length = m) (_hmx : m ≤ 1048576) (hr : RowR w a p) :
    Calls Try.prog 28 #[.int .i64 k, .int .i64 n, .slice a m cap] w (POwn w (placeB k n p) (basesP k.toNat n.toNat p)) := by
  have E := told_any k n a cap m p w hm hr
  unfold ToldP at E
  cases hb : placeB k n p with
  | false =>
    rw [hb] at E
    replace E := Lib.hid E
    clear hb hr hm
    go_enter Try.func28, Try.ntmps28
    go_wp2_with (first
      | (go_at_call 46; refine (E.out).mono ?_; rintro e w2 ⟨C, rfl, hs, _⟩; have HS := Lib.hid hs; clear hs)
      | (with_reducible (show wpList _ _ _ (Oper.mk _ (Op.store 48 _ _) _ _ _ _ :: _) _ _); rw [zero_lit]; refine wpList_store_arr rfl _ _ rfl _ rfl _ _ (ArrAt.new _ _) rfl ?_))
    go_ret2
    exact pown_no rfl (since_setRow (HS.out.alloc HS.out.size _) _ _ HS.out.size)
  | true =>
    obtain ⟨k', n', rfl, rfl, h1, h2, h3, _⟩ := placeB_of hb
    rw [hb] at E
    simp only [Int.toNat_natCast, forall_const] at E ⊢
    have EB := bases_any (crd k' n' p)
    rw [nz_bases h3] at EB
    obtain ⟨D, hD⟩ : ∃ D, crd k' n' p = D := ⟨_, rfl⟩
    rw [hD] at E EB
    replace E := Lib.hid E
    replace EB := Lib.hid EB
    clear hb hr hm hD
    go_enter Try.func28, Try.ntmps28
    go_wp2_with (first
      | (go_at_call 46; refine (E.out).mono ?_; rintro e w2 ⟨C, rfl, hs, rfl⟩; have HS := Lib.hid hs; clear hs)
      | (with_reducible (show wpList _ _ _ (Oper.mk _ (Op.store 48 _ _) _ _ _ _ :: _) _ _); rw [zero_lit]; refine wpList_store_arr rfl _ _ rfl _ rfl _ _ (ArrAt.new _ _) rfl ?_)
      | (with_reducible (show wpList _ _ _ (Oper.mk _ (Op.load _ _) 48 _ _ _ :: _) _ _); refine wpList_load_arr rfl _ rfl _ rfl C (ArrAt.new _ _).row ?_)
      | (go_at_call 54; refine (EB.out _).mono ?_; rintro e w3 ⟨v, rfl, hR⟩; have HRB := Lib.hid hR; clear hR))
    go_ret2
    exact pown_yes HRB.out (since_setRow (HS.out.alloc HS.out.size _) _ _ HS.out.size) rfl

end Go.Proofs.Ytbedkjpbdkgjpaa
end

section
/- The contracts of the methods list and result of coordinates, and of impl.PlaceOther. -/
namespace Go.Proofs.Ytbedkjpbdkgjpaa
open Go.RowKit Go.Deep Go.Shelf
attribute [local go_sem] Oper.semAt_some

theorem ArrAt.not_row {W : World} {b base size m : Nat} {C : Nat → Int} {v : Value} {xs : List Value} (h : ArrAt W b C) (hr : W.ownsRow base 3 size v m xs) : some b ≠ v.ownBlock := by
  rcases hr.2 with ⟨rfl, _⟩ | ⟨g, cap, cur, rfl, _, hgb, _⟩
  · simp [Value.ownBlock]
  · intro e
    obtain rfl : b = g := by simpa [Value.ownBlock] using e
    have h2 : W.heap[b]? = some (.cells (arr C) 48 (0, 0)) := h
    rw [h2] at hgb
    cases hgb

/-- The numbers at the sets of a list. -/
def numsL (C : Nat → Int) (l : List Nat) : List Int := l.map C

theorem appended_arr {W w1 : World} {n₀ b : Nat} {v v' : Value} {k : Nat} {xs : List Value} {tmp : Obj} {C : Nat → Int} {B : Nat} (h : ArrAt W b C) (hrow : W.ownsRow n₀ 3 1 v k xs) (hgrow : (W.alloc tmp).grownBy w1 v.ownBlock) (hB : b ≠ B) : ArrAt (w1.setCell ⟨B, 0, none⟩ v') b C :=
  ((h.alloc tmp).kept hgrow (h.not_row hrow)).setOther hB _

theorem row_low {W : World} {lo m : Nat} {v : Value} {xs : List Value} (h : W.ownsRow (lo + 4) 3 1 v m xs) : ∀ g, v.ownBlock = some g → lo + 4 ≤ g := fun g e => by
  rcases h.2 with ⟨rfl, _⟩ | ⟨g', cap, cur, rfl, hb, _⟩
  · simp [Value.ownBlock] at e
  · obtain rfl : g' = g := by simpa [Value.ownBlock] using e
    exact hb
/-- Below lo all but one box is as it was. -/
structure BelowBut (lo B : Nat) (V W : World) : Prop where
  os : W.os = V.os
  tape : W.tape = V.tape
  output : W.output = V.output
  size : V.heap.size ≤ W.heap.size
  block : ∀ k, k < lo → k ≠ B → W.heap[k]? = V.heap[k]?
theorem BelowBut.cell {lo B : Nat} {V W : World} {p : Addr} (h : BelowBut lo B V W) (h1 : p.block < lo) (h2 : p.block ≠ B) : W.cell? p = V.cell? p := World.cell?_of_block (h.block _ h1 h2)
theorem list_next {V w1 : World} {lo : Nat} {v v' : Value} {m : Nat} {L : List Int} {ys : List Value} {tmp : Obj} {C : Nat → Int} (hv : Boxed V (lo + 1) 22 v) (hr : V.ownsRow (lo + 4) 3 1 v L.length (L.map (Value.int .i64))) (ha : ArrAt V lo C) (hz : lo + 4 ≤ V.heap.size)
    (hown' : w1.ownsRow (lo + 4) 3 1 v' m ys) (hgrow : (V.alloc tmp).grownBy w1 v.ownBlock) :
    Boxed w1 (lo + 1) 22 v ∧ Boxed (w1.setCell ⟨lo + 1, 0, none⟩ v') (lo + 1) 22 v' ∧ (w1.setCell ⟨lo + 1, 0, none⟩ v').ownsRow (lo + 4) 3 1 v' m ys ∧ KeepsOthers V (w1.setCell ⟨lo + 1, 0, none⟩ v') ∧ BelowBut (lo + 4) (lo + 1) V (w1.setCell ⟨lo + 1, 0, none⟩ v') ∧ ArrAt (w1.setCell ⟨lo + 1, 0, none⟩ v') lo C := by
  have hne := row_low hr
  have hv1 : Boxed w1 (lo + 1) 22 v := (hv.alloc tmp).kept hgrow (fun e => by have := hne _ e.symm; omega)
  have hs := hgrow.size
  refine ⟨hv1, hv1.set v', hown'.kept (grownBy_setCell' w1 (lo + 1) v') (.inr (fun e => by have := row_low hown' _ e; omega)), ?_, ⟨hgrow.os, hgrow.tape, hgrow.output, ?_, fun k h1 h2 => ?_⟩, appended_arr ha hr hgrow (by omega)⟩
  · refine ((KeepsOthers.alloc V tmp).trans (KeepsOthers.of_grownBy hgrow fun j o ej hj => ?_)).trans (KeepsOthers.setCell _ _ _)
    rcases (hr.alloc tmp).2 with ⟨rfl, _⟩ | ⟨g, cap, cur, rfl, _, hgb, _⟩
    · simp [Value.ownBlock] at ej
    · obtain rfl : g = j := by simpa [Value.ownBlock] using ej
      rw [hgb] at hj; cases hj; rfl
  · have : (w1.setCell ⟨lo + 1, 0, none⟩ v').heap.size = w1.heap.size := by simp [World.setCell]
    rw [this]
    have h2 : (V.alloc tmp).heap.size = V.heap.size + 1 := by simp
    omega
  · refine (Below.heap_setCell _ _ _ _ h2).trans ((hgrow.block k (by simp; omega) (fun e => by have := hne _ e.symm; omega)).trans ?_)
    exact Below.heap_alloc V _ k (by omega)
theorem list_since {w W V X : World} {lo B : Nat} (hS : w.Since w.heap.size W) (hk : W.grownBy V none) (hb : BelowBut (w.heap.size + lo) (w.heap.size + B) V X) : w.Since w.heap.size X :=
  ⟨hb.os.trans (hk.os.trans hS.os), hb.tape.trans (hk.tape.trans hS.tape), hb.output.trans (hk.output.trans hS.output), Nat.le_trans hS.size (Nat.le_trans hk.size hb.size),
    fun k hk2 => (hb.block k (by omega) (by omega)).trans ((hk.block k (by have := hS.size; omega) (by simp)).trans (hS.block k hk2))⟩
theorem list_base {W : World} {lo m : Nat} {v : Value} {xs : List Value} (h : W.ownsRow (lo + 4) 3 1 v m xs) : W.ownsRow lo 3 1 v m xs := by
  refine ⟨h.1, ?_⟩
  rcases h.2 with h2 | ⟨g, cap, cur, e, hb, h3⟩
  · exact .inl h2
  · exact .inr ⟨g, cap, cur, e, by omega, h3⟩

theorem wpIn_region_any2 {lp n id : Nat} {P : Program} {ops : Array Oper} {Q : Exit → Act → World → Prop} {a : Act} {w : World} (hm : P.follows .mixedOrders = true) (hd : noDefer ops = true) (hno : ¬ LetsOut Q)
    (h : ∀ V : World, V = w.drew → wpAny P .any ops Q ops.size (Array.replicate ops.size false) a V) : (Code.region id ops true).wpIn (Fence.wide.inRound lp) n P Q a w :=
  wpIn_region_any hm (wpAnyIn_of_wpAny hno (noDefer_of hd) _ _ _ _ (h _ rfl))

set_option maxRecDepth 100000 in
set_option maxHeartbeats 2000000 in
theorem list_any (C : Nat → Int) (k n : Nat) (h5 : n ≤ 5) (w : World) :
    Calls Try.prog 77 #[.agg (arr C), .int .i64 k, .int .i64 n] w fun e w' => ∃ v, e = .returned v ∧ RB w w' v (numsL C (setsTo k (2 ^ n))) := by
  have hM : 2 ^ n ≤ 32 := pow_le5 h5
  obtain ⟨i3, hi3⟩ := info3_parts
  have HJ := Lib.hid hi3
  refine (callsIn_wide (n := 9)).1 ?_
  refine callsIn_of_wp_marks Try.func77 rfl trivial ?_ rfl
  simp only [Try.ntmps77, List.size_toArray, List.length_cons, List.length_nil, Nat.reduceAdd, Nat.reduceSub, Array.replicate_succ, Array.replicate_zero, List.push_toArray, List.append_toArray, List.nil_append, List.cons_append]
  clear hi3
  gi_wp2_with (refine ⟨trivial, ?_⟩; gi_at_call 70; refine (sets_in 8 _ _ _).mono ?_; rintro e w' ⟨rfl, rfl⟩)
  have ba := (ArrAt.new w C).alloc (.cells #[.slice none 0 0] 22)
  have bx := Boxed.new (w.alloc (.cells (arr C) 48)) 22 (.slice none 0 0)
  have hsn : w.Since w.heap.size ((w.alloc (.cells (arr C) 48)).alloc (.cells #[.slice none 0 0] 22)) := ((World.Since.refl _ _).alloc (Nat.le_refl _) _).alloc (by simp) _
  obtain ⟨w5, hw5⟩ : ∃ W, (w.alloc (.cells (arr C) 48)).alloc (.cells #[.slice none 0 0] 22) = W := ⟨_, rfl⟩
  have z5 : w5.heap.size = w.heap.size + 1 + 1 := by rw [← hw5]; simp
  simp only [World.size_alloc] at bx
  rw [hw5] at ba bx hsn ⊢
  clear hw5
  have bN := (Boxed.new w5 3 (.int .i64 n)).alloc (.cells #[.int .i64 k] 3)
  have bK := Boxed.new (w5.alloc (.cells #[.int .i64 n] 3)) 3 (.int .i64 k)
  simp only [World.size_alloc] at bK
  replace ba := (ba.alloc (.cells #[.int .i64 n] 3)).alloc (.cells #[.int .i64 k] 3)
  replace bx := (bx.alloc (.cells #[.int .i64 n] 3)).alloc (.cells #[.int .i64 k] 3)
  replace hsn := (hsn.alloc (by omega) (.cells #[.int .i64 n] 3)).alloc (by simp; omega) (.cells #[.int .i64 k] 3)
  have z7 : ((w5.alloc (.cells #[.int .i64 n] 3)).alloc (.cells #[.int .i64 k] 3)).heap.size = w.heap.size + 4 := by simp [z5]
  rw [z5] at bN bK
  obtain ⟨W0, hW0⟩ : ∃ W, (w5.alloc (.cells #[.int .i64 n] 3)).alloc (.cells #[.int .i64 k] 3) = W := ⟨_, rfl⟩
  rw [hW0] at bN bK ba bx hsn z7 ⊢
  clear hW0 z5
  refine wpIn_rangeFunc_ownF (F := Fence.wide) (n := 9) rfl (by omega) (gf := 87) (lb := #[.pointer (some ⟨w.heap.size + 1 + 1, 0, none⟩), .pointer (some ⟨w.heap.size + 1 + 1 + 1, 0, none⟩)]) rfl trivial (enters_of Try.func87 (by kernel_rfl) rfl)
    (sets_stops 8 (by omega) (w.heap.size + 1 + 1) (w.heap.size + 1 + 1 + 1) n k (2 ^ n) (by omega) rfl W0 (by omega) (by omega) bN.cell bK.cell)
    (fun h k => h.trans k) (kp2_b (by omega) (by omega)) (Below.refl _ _) (fun _ => rfl)
    (fun pre W => ∃ v, ArrAt W w.heap.size C ∧ Boxed W (w.heap.size + 1) 22 v ∧ W.ownsRow (w.heap.size + 4) 3 1 v (numsL C (pre.map (·.1))).length ((numsL C (pre.map (·.1))).map (Value.int .i64)) ∧ w.Since w.heap.size W ∧ w.heap.size + 4 ≤ W.heap.size)
    (fun _ _ _ => False)
    (by
      rintro t X Y row ⟨v, ha, hv, hr, hS, hz⟩ hg hrow
      exact ⟨v, ha.kept hg (fun e => by have := (hrow _ e.symm).1; omega), hv.kept hg (fun e => by have := (hrow _ e.symm).1; omega), own_kept hr hg (fun r e => (hrow r e).2), sinceRow hS (Nat.le_refl _) hg (fun r e => by have := (hrow r e).1; omega), Nat.le_trans hz hg.size⟩)
    (fun c => fun s A B row hs hg hr => hs)
    ⟨_, ba, bx, World.ownsRow_nil _ _ _ _, hsn, by omega⟩
    (fun x => { tmps := #[.agg (arr C), .int .i64 k, .int .i64 n, .pointer (some ⟨w.heap.size, 0, none⟩), undef, undef, .slice none 0 0, .pointer (some ⟨w.heap.size + 1, 0, none⟩), .int .i64 (x.1 : Int), .int .i64 n, .int .i64 k, .func (.func 87) #[] #[.pointer (some ⟨w.heap.size + 1 + 1, 0, none⟩), .pointer (some ⟨w.heap.size + 1 + 1 + 1, 0, none⟩)], .int .i64 (x.1 : Int), undef, undef, undef, undef, undef, undef, undef], defers := [] }) ?assign ?body ?done ?stop
  case assign =>
    intro lp x W K hK
    gi_wp2
    exact hK
  case body =>
    rintro lp pre x W ⟨v, ha, hv, hr, hS, hz⟩ hlen
    have hzb := hv.lt
    have hcv := hv.cell
    have hx32 : x.1 < 32 := by have := x.2.1; omega
    have hL : (numsL C (pre.map (·.1))).length = pre.length := by simp [numsL]
    have hP1 : numsL C ((pre ++ [x]).map (·.1)) = numsL C (pre.map (·.1)) ++ [C x.1] := by simp [numsL]
    have HP1 := Lib.hid hP1
    have HS := Lib.hid hS
    have cC := ha.cell hx32
    obtain ⟨L, hLL⟩ : ∃ L, numsL C (pre.map (·.1)) = L := ⟨_, rfl⟩
    rw [hLL] at hL hr HP1
    obtain ⟨s, es⟩ : ∃ s, x.1 = s := ⟨_, rfl⟩
    rw [es] at cC HP1 hx32 ⊢
    obtain ⟨y, ey⟩ : ∃ y, C s = y := ⟨_, rfl⟩
    rw [ey] at cC HP1
    have hL64 : L.length ≤ 64 := by omega
    have hs' : ((s : Nat) : Int) < 32 := by omega
    have hmix : Try.prog.follows .mixedOrders = true := by kernel_rfl
    clear hP1 hLL hL es ey bN bK ba bx hsn
    gi_wp2
    refine wpIn_region_any2 hmix (by kernel_rfl) (by rintro ⟨a, w, h⟩; exact h) (fun V hV => ?_)
    have hcV : V.cell? ⟨w.heap.size + 1, 0, none⟩ = some v := by rw [hV]; exact hcv
    have cCV : V.cell? ⟨w.heap.size, s, none⟩ = some (.int .i64 y) := by rw [hV]; exact cC
    have haV : ArrAt V w.heap.size C := by rw [hV]; exact ha
    have hvV : Boxed V (w.heap.size + 1) 22 v := by rw [hV]; exact hv
    have hrV : V.ownsRow (w.heap.size + 4) 3 1 v L.length (L.map (Value.int .i64)) := by rw [hV]; exact hr
    have hzV : w.heap.size + 4 ≤ V.heap.size := by rw [hV]; exact hz
    have hkV : W.grownBy V none := by rw [hV]; exact grownDrew0 (World.grownBy.refl W none)
    have hvn : ∀ ob, (V.alloc ob).cell? ⟨w.heap.size + 1, 0, none⟩ = some v := fun ob => cell_alloc_l ob hcV
    have HR := Lib.hid hrV
    have HV := Lib.hid hvV
    have HA := Lib.hid haV
    clear hV hcv cC ha hv hr hrV hvV haV
    refine wpAny_take (i := 1) (v := .int .i64 s) rfl (by kernel_rfl) (by kernel_rfl) (by kernel_rfl) (fun _ _ _ h => h) (Or.inl ⟨by rfl, fun w => by go_simp⟩) ?_
    simp only [Act.put, List.setIfInBounds_toArray]
    refine wpAny_take (i := 2) (v := .pointer (some ⟨w.heap.size, s, none⟩)) rfl (by kernel_rfl) (by kernel_rfl) (by kernel_rfl) (fun _ _ _ h => h) (Or.inl ⟨by rfl, fun w => by go_simp⟩) ?_
    simp only [Act.put]
    refine wpAny_ready (rs := [0, 3]) (by kernel_rfl) (by simp) (AllReady.cons rfl (fun K hK => ?x0) (AllReady.cons rfl (fun K hK => ?x1) AllReady.nil))
    case x0 =>
      go_simp
      refine hK _ _ ?_
      clear hK K
      refine wpAny_ready (rs := [3]) (by kernel_rfl) (by simp) (AllReady.cons rfl (fun K hK => ?_) AllReady.nil)
      go_simp
      refine hK _ _ ?_
      clear hK K
      refine wpAny_ready (rs := [4]) (by kernel_rfl) (by simp) (AllReady.cons rfl (fun K hK => ?_) AllReady.nil)
      go_simp
      refine hK _ _ ?_
      clear hK K
      refine wpAny_ready (rs := [5]) (by kernel_rfl) (by simp) (AllReady.cons rfl (fun K hK => ?_) AllReady.nil)
      rw [if_pos (by rfl)]
      refine wp_append_own _ (.tmp 13) (.tmp 17) 22 rfl (w.heap.size + 4) 3 i3 (.int .i64 0) 1 8 Try.underlying22 HJ.out.1 HJ.out.2.1 HJ.out.2.2.1 HJ.out.2.2.2 rfl (by decide) _ _ _ rfl (HR.out.alloc _) ⟨V.heap.size, 0, none⟩ 1 1 [.int .i64 y] rfl rfl (cell_one_at _ _ _ rfl) (fun x hx => by simp at hx; subst hx; rfl) (by unfold maxLen; omega) (by omega) (by simp; omega) ?_
      intro v' w1 hown' hgrow _
      refine hK _ _ ?_
      clear hK K
      simp only [Act.put, List.setIfInBounds_toArray]
      have hF := list_next HV.out HR.out HA.out hzV hown' hgrow
      have c1 := hF.1.cell
      have f1 := hF.1.frozen
      have HF := Lib.hid hF
      obtain ⟨g, cap, rfl⟩ := ownsRow_succ hown'
      clear hF hown' hgrow
      refine wpAny_ready (rs := [6]) (by kernel_rfl) (by simp) (AllReady.cons rfl (fun K hK => ?_) AllReady.nil)
      go_simp
      refine hK _ _ ?_
      clear hK K
      refine wpAny_done (by kernel_rfl) ?_ _
      obtain ⟨b1, b2, b3, b4, b5, b6⟩ := HF.out
      refine ⟨(KeepsOthers.of_grownBy hkV (fun j o e => by cases e)).trans b4, ?_, _, b6, b2, by rw [HP1.out]; simpa using b3, ?_, ?_⟩
      · exact (Kp2.grown hkV (by omega) (by omega) (by simp) (by simp)).trans ⟨b5.cell (p := ⟨w.heap.size + 1 + 1, 0, none⟩) (by show w.heap.size + 1 + 1 < w.heap.size + 4; omega) (by show w.heap.size + 1 + 1 ≠ w.heap.size + 1; omega), b5.cell (p := ⟨w.heap.size + 1 + 1 + 1, 0, none⟩) (by show w.heap.size + 1 + 1 + 1 < w.heap.size + 4; omega) (by show w.heap.size + 1 + 1 + 1 ≠ w.heap.size + 1; omega)⟩
      · exact list_since HS.out hkV b5
      · exact Nat.le_trans hzV b5.size
    case x1 =>
      go_simp
      refine hK _ _ ?_
      clear hK K
      refine wpAny_ready (rs := [0, 4]) (by kernel_rfl) (by simp) (AllReady.cons rfl (fun K hK => ?y0) (AllReady.cons rfl (fun K hK => ?y1) AllReady.nil))
      case y0 =>
        go_simp
        refine hK _ _ ?_
        clear hK K
        refine wpAny_ready (rs := [4]) (by kernel_rfl) (by simp) (AllReady.cons rfl (fun K hK => ?_) AllReady.nil)
        go_simp
        refine hK _ _ ?_
        clear hK K
        refine wpAny_ready (rs := [5]) (by kernel_rfl) (by simp) (AllReady.cons rfl (fun K hK => ?_) AllReady.nil)
        rw [if_pos (by rfl)]
        refine wp_append_own _ (.tmp 13) (.tmp 17) 22 rfl (w.heap.size + 4) 3 i3 (.int .i64 0) 1 8 Try.underlying22 HJ.out.1 HJ.out.2.1 HJ.out.2.2.1 HJ.out.2.2.2 rfl (by decide) _ _ _ rfl (HR.out.alloc _) ⟨V.heap.size, 0, none⟩ 1 1 [.int .i64 y] rfl rfl (cell_one_at _ _ _ rfl) (fun x hx => by simp at hx; subst hx; rfl) (by unfold maxLen; omega) (by omega) (by simp; omega) ?_
        intro v' w1 hown' hgrow _
        refine hK _ _ ?_
        clear hK K
        simp only [Act.put, List.setIfInBounds_toArray]
        have hF := list_next HV.out HR.out HA.out hzV hown' hgrow
        have c1 := hF.1.cell
        have f1 := hF.1.frozen
        have HF := Lib.hid hF
        obtain ⟨g, cap, rfl⟩ := ownsRow_succ hown'
        clear hF hown' hgrow
        refine wpAny_ready (rs := [6]) (by kernel_rfl) (by simp) (AllReady.cons rfl (fun K hK => ?_) AllReady.nil)
        go_simp
        refine hK _ _ ?_
        clear hK K
        refine wpAny_done (by kernel_rfl) ?_ _
        obtain ⟨b1, b2, b3, b4, b5, b6⟩ := HF.out
        refine ⟨(KeepsOthers.of_grownBy hkV (fun j o e => by cases e)).trans b4, ?_, _, b6, b2, by rw [HP1.out]; simpa using b3, ?_, ?_⟩
        · exact (Kp2.grown hkV (by omega) (by omega) (by simp) (by simp)).trans ⟨b5.cell (p := ⟨w.heap.size + 1 + 1, 0, none⟩) (by show w.heap.size + 1 + 1 < w.heap.size + 4; omega) (by show w.heap.size + 1 + 1 ≠ w.heap.size + 1; omega), b5.cell (p := ⟨w.heap.size + 1 + 1 + 1, 0, none⟩) (by show w.heap.size + 1 + 1 + 1 < w.heap.size + 4; omega) (by show w.heap.size + 1 + 1 + 1 ≠ w.heap.size + 1; omega)⟩
        · exact list_since HS.out hkV b5
        · exact Nat.le_trans hzV b5.size
      case y1 =>
        go_simp
        refine hK _ _ ?_
        clear hK K
        refine wpAny_ready (rs := [0]) (by kernel_rfl) (by simp) (AllReady.cons rfl (fun K hK => ?_) AllReady.nil)
        go_simp
        refine hK _ _ ?_
        clear hK K
        refine wpAny_ready (rs := [5]) (by kernel_rfl) (by simp) (AllReady.cons rfl (fun K hK => ?_) AllReady.nil)
        rw [if_pos (by rfl)]
        refine wp_append_own _ (.tmp 13) (.tmp 17) 22 rfl (w.heap.size + 4) 3 i3 (.int .i64 0) 1 8 Try.underlying22 HJ.out.1 HJ.out.2.1 HJ.out.2.2.1 HJ.out.2.2.2 rfl (by decide) _ _ _ rfl (HR.out.alloc _) ⟨V.heap.size, 0, none⟩ 1 1 [.int .i64 y] rfl rfl (cell_one_at _ _ _ rfl) (fun x hx => by simp at hx; subst hx; rfl) (by unfold maxLen; omega) (by omega) (by simp; omega) ?_
        intro v' w1 hown' hgrow _
        refine hK _ _ ?_
        clear hK K
        simp only [Act.put, List.setIfInBounds_toArray]
        have hF := list_next HV.out HR.out HA.out hzV hown' hgrow
        have c1 := hF.1.cell
        have f1 := hF.1.frozen
        have HF := Lib.hid hF
        obtain ⟨g, cap, rfl⟩ := ownsRow_succ hown'
        clear hF hown' hgrow
        refine wpAny_ready (rs := [6]) (by kernel_rfl) (by simp) (AllReady.cons rfl (fun K hK => ?_) AllReady.nil)
        go_simp
        refine hK _ _ ?_
        clear hK K
        refine wpAny_done (by kernel_rfl) ?_ _
        obtain ⟨b1, b2, b3, b4, b5, b6⟩ := HF.out
        refine ⟨(KeepsOthers.of_grownBy hkV (fun j o e => by cases e)).trans b4, ?_, _, b6, b2, by rw [HP1.out]; simpa using b3, ?_, ?_⟩
        · exact (Kp2.grown hkV (by omega) (by omega) (by simp) (by simp)).trans ⟨b5.cell (p := ⟨w.heap.size + 1 + 1, 0, none⟩) (by show w.heap.size + 1 + 1 < w.heap.size + 4; omega) (by show w.heap.size + 1 + 1 ≠ w.heap.size + 1; omega), b5.cell (p := ⟨w.heap.size + 1 + 1 + 1, 0, none⟩) (by show w.heap.size + 1 + 1 + 1 < w.heap.size + 4; omega) (by show w.heap.size + 1 + 1 + 1 ≠ w.heap.size + 1; omega)⟩
        · exact list_since HS.out hkV b5
        · exact Nat.le_trans hzV b5.size
  case done =>
    rintro D ys W hD hys ⟨v, ha, hv, hr, hS, hz⟩ hK
    have hcv := hv.cell
    have hzb := hv.lt
    rw [hys] at hr
    have HR := Lib.hid (own_kept hr (grownBy_putObj' W D (.deferred none)) (fun r e => by cases e; exact ⟨_, hK, rfl⟩))
    have HS := Lib.hid (sinceRow (row := some D) hS (Nat.le_refl _) (grownBy_putObj' W D (.deferred none)) (fun r e => by cases e; omega))
    clear hr hS hys hv ha
    gi_wp2
    refine ⟨by simp, .inl ⟨_, _, rfl, run_takeDeferred hK, ?_⟩⟩
    refine ⟨v, ?_, v, rfl, HS.out, list_base HR.out⟩
    simp [results, Try.f77, go_sem]
  case stop =>
    rintro D c pre W hD hpre hF hK
    exact hF.elim

end Go.Proofs.Ytbedkjpbdkgjpaa
end

section
/- The contracts of the method result of coordinates and of impl.PlaceOther. -/
namespace Go.Proofs.Ytbedkjpbdkgjpaa
open Go.RowKit Go.Deep Go.Shelf

theorem plS_bit : ∀ n : Fin 6, ∀ s : Fin 32, s.val < 2 ^ n.val → plS s.val = bitS s.val n.val := by decide +kernel
theorem plS_tri : ∀ d : Fin 6, plS (2 ^ d.val - 1) = d.val * (d.val - 1) / 2 := by decide +kernel

theorem nums_other {k n : Nat} {p : List Int} (hkn : k < n) (h5 : n ≤ 5) : numsL (othL (crd k n p) (n - k) n (setsTo (n - k) (2 ^ n))) (setsTo (n - k) (2 ^ n)) = otherP k n p := by
  have hpw := pow_le5 h5
  rw [← othTo_all]
  unfold othTo numsL
  rw [List.take_length]
  refine List.map_congr_left fun s hs => ?_
  obtain ⟨h1, h2⟩ := (setsTo_mem _).1 hs
  have e := comp_fin ⟨n, by omega⟩ ⟨s, by omega⟩ h1
  simp only at e
  rw [← pcQ_of (s := s) (by omega), ← pcQ_of (s := 2 ^ n - 1 - s) (by omega)] at e
  unfold othL othG othV
  rw [if_pos hs, sg_sn, plS_bit ⟨n, by omega⟩ ⟨s, by omega⟩ h1, plS_tri ⟨n - k, by omega⟩]
  have : crd k n p (2 ^ n - 1 - s) = atP p (2 ^ n - 1 - s) := if_pos ⟨by omega, by omega⟩
  rw [this]

set_option maxRecDepth 100000 in
set_option maxHeartbeats 1000000 in
theorem coordResult_any (C : Nat → Int) (k n : Nat) (h5 : n ≤ 5) (hC : fitB C = true) (w : World) :
    Calls Try.prog 52 #[.agg (arr C), .int .i64 k, .int .i64 n] w fun e w' => ∃ v wr, e = .returned (.tuple #[v, .bool true]) ∧ w.Since w.heap.size wr ∧ RB wr w' v (numsL C (setsTo k (2 ^ n))) := by
  have EF := fun (W : World) => fit_any C W
  rw [hC] at EF
  have EL := Lib.hid (fun (W : World) => list_any C k n h5 W)
  replace EF := Lib.hid EF
  obtain ⟨W1, hW1⟩ : ∃ W1, w.alloc (.cells (arr C) 48) = W1 := ⟨_, rfl⟩
  have HA := Lib.hid (show ArrAt W1 w.heap.size C by rw [← hW1]; exact ArrAt.new _ _)
  have HS := Lib.hid (show w.Since w.heap.size W1 by rw [← hW1]; exact (World.Since.refl _ _).alloc (Nat.le_refl _) _)
  clear hC
  go_enter Try.func52, Try.ntmps52
  go_wp2_with (first
    | (with_reducible (show wpList _ _ _ (Oper.mk _ (Op.load _ _) 48 _ _ _ :: _) _ _); first | (refine wpList_load_arr rfl _ rfl _ rfl C HA2.out ?_) | (refine wpList_load_arr rfl _ rfl _ rfl C HA.out ?_))
    | (go_at_call 72; refine (EF.out _).mono ?_; rintro e w2 ⟨rfl, hs⟩; have HA2 := Lib.hid (HA.out.since hs); have HS2 := Lib.hid (HS.out.trans (since_mono hs HS.out.size)); clear hs)
    | (go_at_call 77; refine (EL.out _).mono ?_; rintro e w3 ⟨v, rfl, hR⟩; have HR := Lib.hid hR; clear hR))
  go_ret2
  exact ⟨_, _, rfl, HS2.out, HR.out⟩

set_option maxRecDepth 100000 in
set_option maxHeartbeats 1000000 in
theorem implPlaceOther_any (k n : Int) (a : Option Addr) (cap m : Nat) (p : List Int) (w : World) (hm : p.length = m) (_hmx : m ≤ 1048576) (hr : RowR w a p) :
    Calls Try.prog 22 #[.int .i64 k, .int .i64 n, .slice a m cap] w (POwn w (placeB k n p) (otherP k.toNat n.toNat p)) := by
  have E := told_any k n a cap m p w hm hr
  unfold ToldP at E
  cases hb : placeB k n p with
  | false =>
    rw [hb] at E
    replace E := Lib.hid E
    clear hb hr hm
    go_enter Try.func22, Try.ntmps22
    go_wp2_with (first
      | (go_at_call 46; refine (E.out).mono ?_; rintro e w2 ⟨C, rfl, hs, _⟩; have HS := Lib.hid hs; clear hs)
      | (with_reducible (show wpList _ _ _ (Oper.mk _ (Op.store 48 _ _) _ _ _ _ :: _) _ _); rw [zero_lit]; refine wpList_store_arr rfl _ _ rfl _ rfl _ _ (ArrAt.new _ _) rfl ?_))
    go_ret2
    exact pown_no rfl (since_setRow (HS.out.alloc HS.out.size _) _ _ HS.out.size)
  | true =>
    obtain ⟨k', n', rfl, rfl, h1, h2, h3, hl, hp⟩ := placeB_of hb
    rw [hb] at E
    have hfit : fitB (crd k' n' p) = true := by rw [crd_fit h3 hl]; exact decide_eq_true hp
    simp only [Int.toNat_natCast, forall_const] at E ⊢
    have EO := fun (W : World) => other_any (crd k' n' p) k' n' h2 h3 hfit W
    have ER := fun (W : World) => coordResult_any (othL (crd k' n' p) (n' - k') n' (setsTo (n' - k') (2 ^ n'))) (n' - k') n' h3 (othL_fit hfit h3) W
    rw [nums_other h2 h3] at ER
    obtain ⟨D, hD⟩ : ∃ D, crd k' n' p = D := ⟨_, rfl⟩
    rw [hD] at E EO ER
    obtain ⟨F, hF⟩ : ∃ F, othL D (n' - k') n' (setsTo (n' - k') (2 ^ n')) = F := ⟨_, rfl⟩
    rw [hF] at EO ER
    have hw1 : IntKind.i64.wrap ((n' : Int) - (k' : Int)) = ((n' - k' : Nat) : Int) := (IntWalk.i64_in _ ⟨by omega, by omega⟩).trans (by omega)
    obtain ⟨d, hd⟩ : ∃ d, n' - k' = d := ⟨_, rfl⟩
    rw [hd] at hw1 ER
    replace E := Lib.hid E
    replace EO := Lib.hid EO
    replace ER := Lib.hid ER
    clear hb hr hm hD hF hd hfit hl hp
    go_enter Try.func22, Try.ntmps22
    go_wp2_with (first
      | (go_at_call 46; refine (E.out).mono ?_; rintro e w2 ⟨C, rfl, hs, rfl⟩; have HS := Lib.hid hs; clear hs)
      | (with_reducible (show wpList _ _ _ (Oper.mk _ (Op.store 48 _ _) _ _ _ _ :: _) _ _); rw [zero_lit]; refine wpList_store_arr rfl _ _ rfl _ rfl _ _ (ArrAt.new _ _) rfl ?_)
      | (with_reducible (show wpList _ _ _ (Oper.mk _ (Op.load _ _) 48 _ _ _ :: _) _ _); refine wpList_load_arr rfl _ rfl _ rfl C (ArrAt.new _ _).row ?_)
      | (go_at_call 51; refine (EO.out _).mono ?_; rintro e w3 ⟨rfl, hs3⟩; have HS3 := Lib.hid hs3; clear hs3)
      | (go_at_call 52; refine (ER.out _).mono ?_; rintro e w4 ⟨v, wr, rfl, hs4, hR⟩; have HS4 := Lib.hid hs4; have HRB := Lib.hid hR; clear hs4 hR))
    have t2 := since_setRow (HS.out.alloc HS.out.size (.cells (arr fun _ => 0) 48)) w2.heap.size (arr C) HS.out.size
    have t3 := t2.trans (since_mono HS3.out t2.size)
    have t4 := t3.trans (since_mono HS4.out t3.size)
    have HT := Lib.hid t4
    clear t2 t3 t4
    go_ret2
    exact pown_yes HRB.out HT.out rfl

end Go.Proofs.Ytbedkjpbdkgjpaa
end

section
/- The walk of laws.FnExactPlaceOther at any arguments. -/
namespace Go.Proofs.Ytbedkjpbdkgjpaa
open Go.RowKit Go.Deep

theorem lawPlaceOther (k n : Int) (a0 : Option Addr) (cap0 n0 : Nat) (l0 : List Int) (w : World) (hn0 : l0.length = n0) (h630 : n0 ≤ 9223372036854775807) (hm0 : RowR w a0 l0) :
    Calls Try.prog 5 #[.int .i64 k, .int .i64 n, .slice a0 n0 cap0] w fun e w' => e = .returned (.bool true) ∧ w.Since w.heap.size w' :=
  lawPlaceOther_aux k n a0 cap0 n0 l0 (placeB k n l0) (if placeB k n l0 = true then otherP k.toNat n.toNat l0 else []) w hn0 h630 hm0 (placeOther_short k n l0) (fun q0 W b0 c0 hb0 => (specPlaceOther_any k n b0 c0 n0 l0 W hn0 q0 hb0).mono fun _ _ h => h.out) (fun q0 W b0 c0 hb0 => implPlaceOther_any k n b0 c0 n0 l0 W hn0 q0 hb0)

end Go.Proofs.Ytbedkjpbdkgjpaa
end

section
/- What an argument reads as, in the words of the walks; the last step of a row. -/
namespace Go.Proofs.Ytbedkjpbdkgjpaa
open Go.ChangeShapes Go.WideShapes Go.ChangeAt Go.RowKit Go.Deep

theorem below_since' {B : Nat} {w w' : World} (h : Below B w w') : w.Since B w' := ⟨h.os, h.tape, h.output, h.size, h.block⟩
theorem since_below' {B : Nat} {w w' : World} (h : w.Since B w') : Below B w w' := ⟨h.os, h.tape, h.output, h.size, h.block⟩

section
variable {H : Type} {enc : TypeId × Value → H} {P : Program}
theorem post_of_below {f : Func} {s : ChangeSpec} {apart fresh handsOn again : Bool} {W W' : World} {args : Array Value} {v : Value} {ds gs : List (DataW H)} {before pa pv : List MemPlace}
    (hW : DataW.Whole enc P f.params.toList s.vars apart W args.toList ds gs before)
    (hres : ∀ (b : Nat) (sp : Nat → Bool) (hd : Bool), DataW.TrodAll enc P W' b sp hd f.resultTypes.toList (v.resultList f.resultTypes.size) (s.fn H (ds ++ gs)).results [])
    (hargs : ∀ sp : Nat → Bool, (∀ p ∈ before, sp p.block = true) → DataW.TrodAll enc P W' 0 sp true f.params.toList args.toList (s.fn H (ds ++ gs)).args pa)
    (hvars : ∀ sp : Nat → Bool, (∀ p ∈ before, sp p.block = true) → DataW.TrodVars enc P W' sp s.vars (s.fn H (ds ++ gs)).vars pv)
    (hps : before = pa ++ pv) (hb : Below W.heap.size W W') (hag : again = false) :
    s.post enc P f apart fresh handsOn again W args v W' := by
  have hlt : ∀ p ∈ before, p.block < W.heap.size := fun p hp => hW.lt p hp
  have hold : ∀ p ∈ before, (fun b => decide (b < W.heap.size)) p.block = true := fun p hp => by simpa using hlt p hp
  refine ⟨ds, gs, before, [], pa, pv, hW, hres _ _ _, hargs _ hold, hvars _ hold, World.keptBut_mono (fun p hp => ⟨hp, ?_⟩) (hb.frame (· ∈ before)), fun h => ?_⟩
  · rw [hps, List.mem_append] at hp
    exact Or.inr hp
  · rw [hag] at h; cases h

/-- An argument of slices of integers reads as a list of lists. -/
theorem open_mat {W : World} {t e q : TypeId} {a : Option Addr} {n cap : Nat} {d : DataW H} {p : List MemPlace} (ht : P.underlying t = some (.slice e)) (he : P.underlying e = some (.slice q)) (hq : P.underlying q = some (.int .i64))
    (ce : P.cellsOf e = 1) (cq : P.cellsOf q = 1) (h : DataW.Trod enc P W 0 (fun _ => true) true t (.slice a n cap) d p) :
    ∃ l : List (List Int), l.length = n ∧ MatR W a l ∧ n ≤ 9223372036854775807 ∧ ∀ r, r < l.length → (l.getD r []).length ≤ 9223372036854775807 := by
  obtain ⟨fuel, hf⟩ := h
  rcases open_int_rows ht he hq ce cq hf with ⟨hcs, _⟩ | ⟨a', len', cap', A, L, C, Z, hcs, _, hl, hm, _, hrows⟩
  · simp [Value.cells] at hcs
    obtain ⟨rfl, rfl, rfl⟩ := hcs
    exact ⟨[], rfl, (fun h => by simp at h), by omega, fun r hr => by simp at hr⟩
  · simp [Value.cells] at hcs
    obtain ⟨rfl, rfl, rfl⟩ := hcs
    have hmx : maxLen = 9223372036854775807 := rfl
    have hlen : ∀ r, r < n → ((Z r).take (L r)).length = L r := fun r hr => by
      obtain ⟨_, h1, _, h2, _⟩ := hrows r (by omega)
      rw [List.length_take]; omega
    have hget : ∀ r, r < n → ((List.range n).map fun r => (Z r).take (L r)).getD r [] = (Z r).take (L r) := fun r hr => by simp [List.getD, hr]
    refine ⟨(List.range n).map fun r => (Z r).take (L r), by simp, fun h => ?_, by omega, fun r hr => ?_⟩
    · obtain ⟨b, o, spot⟩ := a'
      simp at h
      have hspot : spot = none := by simpa [Addr.add] using World.cell?_spot (hrows 0 (by omega)).1
      subst hspot
      refine ⟨b, o, A, C, rfl, fun r hr => ?_⟩
      simp at hr
      rw [hget r hr, hlen r hr]
      obtain ⟨g1, g2, g3, g4, g5, g6, g7⟩ := hrows r (by omega)
      refine ⟨by rw [← add_plain]; exact g1, fun h0 => ?_⟩
      rw [hlen r hr] at h0
      cases hA : A r with
      | none => have := g6 hA; omega
      | some a'' =>
        obtain ⟨_, hcell⟩ := g7 a'' hA
        obtain ⟨b', o', sp⟩ := a''
        have hs : sp = none := by simpa [Addr.add] using World.cell?_spot (hcell 0 (by omega))
        subst hs
        refine ⟨b', o', rfl, fun i hi => ?_⟩
        rw [hlen r hr] at hi
        rw [← add_plain, hcell i (by omega)]
        congr 2
        simp [List.getD, hi]
    · simp at hr
      rw [hget r hr, hlen r hr]
      obtain ⟨_, h1, h2, _⟩ := hrows r (by omega)
      omega
end

theorem Try.own : ownKnob Try.prog.godebug = none := by kernel_rfl
theorem Try.laidOut : laidOutB Try.prog = true := by kernel_rfl
theorem Try.cellsR : Try.prog.cellsOf 22 = 1 := by kernel_rfl
theorem Try.cellsI : Try.prog.cellsOf 3 = 1 := by kernel_rfl

end Go.Proofs.Ytbedkjpbdkgjpaa
end

section
/- An argument of integers reads as a row. -/
namespace Go.Proofs.Ytbedkjpbdkgjpaa
open Go.ChangeShapes Go.WideShapes Go.ChangeAt Go.RowKit Go.Deep

theorem open_row {H : Type} {enc : TypeId × Value → H} {P : Program} {W : World} {t e : TypeId} {a : Option Addr} {n cap : Nat} {d : DataW H} {p : List MemPlace} (ht : P.underlying t = some (.slice e)) (he : P.underlying e = some (.int .i64)) (ce : P.cellsOf e = 1)
    (h : DataW.Trod enc P W 0 (fun _ => true) true t (.slice a n cap) d p) : ∃ x : List Int, x.length = n ∧ RowR W a x ∧ n ≤ 9223372036854775807 := by
  obtain ⟨fuel, hf⟩ := h
  rcases open_ints ht he ce hf with ⟨hcs, _⟩ | ⟨a', len, cap', zs, hcs, _, hl, hm, hlen, _, hcell, _⟩
  · simp [Value.cells] at hcs
    obtain ⟨rfl, rfl, rfl⟩ := hcs
    exact ⟨[], rfl, (fun h => by simp at h), by omega⟩
  · simp [Value.cells] at hcs
    obtain ⟨rfl, rfl, rfl⟩ := hcs
    have hmx : maxLen = 9223372036854775807 := rfl
    have hzl : zs.length = cap := by simpa using hlen
    refine ⟨zs.take n, by rw [List.length_take]; omega, fun h0 => ?_, by omega⟩
    have h0' : 0 < n := by rw [List.length_take] at h0; omega
    obtain ⟨b, o, spot⟩ := a'
    have hspot : spot = none := by simpa [Addr.add] using World.cell?_spot (hcell 0 (by omega))
    subst hspot
    refine ⟨b, o, rfl, fun i hi => ?_⟩
    have hi2 : i < n := by rw [List.length_take] at hi; omega
    rw [← add_plain, hcell i (by omega)]
    congr 2
    simp [List.getD, hi2]

end Go.Proofs.Ytbedkjpbdkgjpaa
end

section
/- The statement FnExactPlaceOther, proved: for every input the law returns true and each argument reads as before. No conditions. -/
namespace Go.Proofs.Ytbedkjpbdkgjpaa
open Go.ChangeShapes Go.WideShapes Go.ChangeAt Go.RowKit Go.Deep

set_option maxRecDepth 100000 in
theorem lifted_PlaceOther (os : Os) (started : os.Started) (H : Type) (enc : TypeId × Value → H) :
    ReturnsInHanded {} Try.checked os 5 .any (Rows.fnExactPlaceOtherSpec.pre6 enc Try.prog Try.f5 Rows.fnExactPlaceOtherRow.domain false) (Rows.fnExactPlaceOtherSpec.post enc Try.prog Try.f5 false true false false) := by
  refine returnsInHanded_of_change (C := Try.checked) Try.own started (by kernel_rfl) Try.func5
    (ChangeSpec.witness6 (enc := enc) (C := Try.checked) false ⟨#[], #[.int .i64 0, .int .i64 0, .slice none 0 0], []⟩ 8 (by kernel_rfl) (by kernel_rfl) (by kernel_rfl) (by kernel_rfl)) ?_
  intro W base args ds gs before hval0 hW _ _
  have hval : ∀ (j : Nat) t v, Try.f5.params[j]? = some t → args[j]? = some v → Value.okWide Try.prog W .any base t v := hval0
  have hW' := hW
  obtain ⟨p, q, hA0, hV, rfl, hfz, hnd⟩ := hW
  have hA : DataW.TrodAll enc Try.prog W 0 (fun _ => true) true Try.f5.params.toList args.toList ds p := hA0
  rw [Try.params5] at hA hval
  obtain ⟨v0, v1, v2, d0, d1, d2, p0, p1, p2, rfl, rfl, rfl, h0, h1, h2⟩ := trodAll_three hA
  obtain ⟨rfl, rfl⟩ := trodVars_none hV
  obtain ⟨x0, rfl, rfl, rfl, wx0⟩ := open_int Try.underlying3 (hval 0 3 v0 rfl rfl) h0
  obtain ⟨x1, rfl, rfl, rfl, wx1⟩ := open_int Try.underlying3 (hval 1 3 v1 rfl rfl) h1
  obtain ⟨a2, n2, cap2, rfl⟩ := okWide_slice Try.underlying22 (hval 2 22 v2 rfl rfl)
  obtain ⟨l2, hl2, hm2, h632⟩ := open_row Try.underlying22 Try.underlying3 Try.cellsI h2
  clear hA0 hval0
  simp only [List.append_nil, List.nil_append] at hW'
  have hlt2 : ∀ x ∈ p2, x.block < W.heap.size := fun x hx => hW'.lt x (by simp [hx])
  refine (lawPlaceOther x0 x1 a2 cap2 n2 l2 W hl2 h632 hm2).mono fun e W' ⟨he, hs⟩ => ?_
  subst he
  have hb := since_below' hs
  have ht2 : ∀ sp : Nat → Bool, (∀ x ∈ p2, sp x.block = true) → DataW.Trod enc Try.prog W' 0 sp true 22 (.slice a2 n2 cap2) d2 p2 := fun sp hsp =>
    WideElems.Trod_stays Try.laidOut (by kernel_rfl) (of_decide_eq_true (by kernel_rfl)) h2 (fun x hx => hb.same (hlt2 x hx)) hsp
  have hargs : ∀ sp : Nat → Bool, (∀ x ∈ (p2), sp x.block = true) → DataW.TrodAll enc Try.prog W' 0 sp true [3, 3, 22] [.int .i64 x0, .int .i64 x1, .slice a2 n2 cap2] [.lit (.int .i64 x0), .lit (.int .i64 x1), d2] (p2) := fun sp hsp => by
    have := trodAll_mk3 (enc := enc) (P := Try.prog) (w := W') (base := 0) (spare := sp) (held := true) (shut_int Try.underlying3 wx0) (shut_int Try.underlying3 wx1) (ht2 sp (fun x hx => hsp x (by simp [hx])))
    simpa using this
  exact ⟨_, rfl, post_of_below (pa := p2) (pv := []) hW' (fun _ _ _ => trodAll_mk1 (shut_bool Try.underlying4 true)) (fun sp hsp => hargs sp (fun x hx => hsp x (by simpa using hx))) (fun _ _ => rfl) (by simp) hb rfl⟩

theorem FnExactPlaceOther_holds : Rows.FnExactPlaceOtherSaid :=
  OpenClaim.holds_of_wide 5 Try.f5 rfl rfl rfl rfl rfl rfl rfl ⟨rfl, rfl, rfl, rfl, rfl⟩ rfl rfl rfl rfl rfl (by kernel_rfl) Try.func5 (by kernel_rfl)
    (of_decide_eq_true (by kernel_rfl)) (by unfold Func.isWrapper; first | (rw [if_pos (by decide +kernel)]; kernel_rfl) | (rw [if_neg (by decide +kernel)]; exact ⟨rfl, rfl⟩))
    (fun os started H enc _ => lifted_PlaceOther os started H enc)

end Go.Proofs.Ytbedkjpbdkgjpaa
end
