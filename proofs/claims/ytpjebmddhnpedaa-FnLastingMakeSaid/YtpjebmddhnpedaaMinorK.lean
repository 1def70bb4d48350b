/- The contract of the method minor of tables. -/
import Derived.Test.YtpjebmddhnpedaaMembers
import Derived.Test.YtpjebmddhnpedaaSquareV
import Derived.Test.YtpjebmddhnpedaaPivotsI
import Derived.Test.YtpjebmddhnpedaaOrdDet
import Derived.Test.YtpjebmddhnpedaaMinorV
namespace Go.Proofs.Ytpjebmddhnpedaa
open Go.RowKit Go.Deep

/-- A table made behind block rb stays while that block alone turns. -/
theorem OwnT.but {lo hi rb : Nat} {w w' : World} {a : Option Addr} {l : List (List Int)} (h : OwnT lo hi w a l) (hb : rb < lo) (hg : w.grownBy w' (some rb)) : MatR w' a l := by
  intro h0
  obtain ⟨b, A, G, C, e, hbl, hr, _⟩ := h h0
  have hc : ∀ (x k : Nat) (v : Value), lo ≤ x → w.cell? ⟨x, k, none⟩ = some v → w'.cell? ⟨x, k, none⟩ = some v := fun x k v hx hv =>
    (World.cell?_of_block (a := ⟨x, k, none⟩) (hg.block x (World.block_lt_of_cell? _ _ hv) (by intro e; injection e with e; omega))).trans hv
  refine ⟨b, 0, A, C, e, fun r hrl => ?_⟩
  obtain ⟨c1, c2⟩ := hr r hrl
  rw [Nat.zero_add]
  refine ⟨hc _ _ _ hbl.1 c1, fun hp => ?_⟩
  obtain ⟨eA, hG, c3⟩ := c2 hp
  exact ⟨G r, 0, eA, fun i hi => by rw [Nat.zero_add]; exact hc _ _ _ hG.1 (c3 i hi).1⟩

theorem since_map (w : World) : w.Since w.heap.size (w.alloc (.map #[] 0)) := (World.Since.refl w.heap.size w).alloc (Nat.le_refl _) _

/-- A minor. -/
def mnP (l : List (List Int)) (x : Nat × Nat) : Int := dt (popcS x.1) (at2 (partL l x.1 x.2))

set_option maxRecDepth 100000 in
set_option maxHeartbeats 1000000 in
theorem minor_any (a : Option Addr) (cap n m r c : Nat) (l : List (List Int)) (w : World) (hn : l.length = n) (hmm : (l.getD 0 []).length = m) (hT : TabIn l) (hr : r < 2 ^ n) (hc : c < 2 ^ m) (hpc : popcS r = popcS c) (hm : MatR w a l) :
    Calls Try.prog 70 #[.slice a n cap, .int .i64 r, .int .i64 c] w fun e w' => e = .returned (.int .i64 (mnP l (r, c))) ∧ w.Since w.heap.size w' := by
  have h6 := hT.2.1
  have hw := hT.width
  rw [hn] at h6
  rw [hmm] at hw
  have hp6 : 2 ^ n ≤ 2 ^ 6 := Nat.pow_le_pow_right (by omega) h6
  have hp6' : 2 ^ m ≤ 2 ^ 6 := Nat.pow_le_pow_right (by omega) hw.2
  have hsq := part_sq hT (s := r) (c := c) (by rw [hn]; exact hr) (by rw [hmm]; exact hc) hpc
  have EP := part_any a cap n r c l (w.alloc (.map #[] 0)) hn hT (by omega) (by omega) (hm.since (since_map w))
  rw [hsq.1] at EP
  have EV := fun (a2 : Option Addr) (c2 : Nat) (V : World) (h : MatR V a2 (partL l r c)) => byPivots_any (popcS r) (partL l r c) a2 c2 V hsq (popcS_le r) h
  have hv : mnP l (r, c) = dt (popcS r) (at2 (partL l r c)) := rfl
  rw [hv]
  obtain ⟨L, hL⟩ : ∃ L, L = partL l r c := ⟨_, rfl⟩
  obtain ⟨k, hk⟩ : ∃ k, k = popcS r := ⟨_, rfl⟩
  simp only [← hk] at EP EV ⊢
  simp only [← hL] at EP EV ⊢
  obtain ⟨x, hx⟩ : ∃ x, x = dt k (at2 L) := ⟨_, rfl⟩
  simp only [← hx] at EV ⊢
  replace EP := Lib.hid EP
  replace EV := Lib.hid EV
  have hmk := @run_makeMap Try.prog
  clear hn hmm hT hr hc hpc hm h6 hw hp6 hp6' hsq hv hL hk hx
  go_enter Try.func70, Try.ntmps70
  go_wp2_with fail
  refine (EP.out).mono ?_
  rintro e w3 ⟨a3, c3, rfl, hs3, ho3⟩
  have HR := Lib.hid ((roads_made w).kept (grown_of_since (row := none) hs3) (by simp))
  have HS3 := Lib.hid ((since_map w).trans (since_mono hs3 (by simp)))
  have HA := Lib.hid (anyValue_of w.heap.size a3 k c3 x w3 HR.out (fun W' hg => EV.out a3 c3 W' (ho3.but (rb := w.heap.size) (by simp) hg)))
  have HSP := Lib.hid (fun (w4 : World) (hg : w3.grownBy w4 (some w.heap.size)) => (show w.Since w.heap.size w4 from ⟨hg.os.trans HS3.out.os, hg.tape.trans HS3.out.tape, hg.output.trans HS3.out.output, Nat.le_trans HS3.out.size hg.size, fun j hj => (hg.block j (Nat.lt_of_lt_of_le hj HS3.out.size) (by intro e; injection e with e; omega)).trans (HS3.out.block j hj)⟩))
  clear hs3 ho3
  go_wp2_with fail
  refine (HA.out).mono ?_
  rintro e w4 ⟨rfl, hg, hr⟩
  have HS4 := Lib.hid (HSP.out w4 hg)
  clear hg hr
  go_wp2
  go_ret
  exact ⟨rfl, HS4.out⟩

end Go.Proofs.Ytpjebmddhnpedaa
