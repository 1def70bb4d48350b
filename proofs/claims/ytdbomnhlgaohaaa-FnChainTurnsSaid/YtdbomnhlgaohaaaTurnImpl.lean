/- The contract of impl.TableTurn. -/
import Derived.Test.YtdbomnhlgaohaaaUnitImpl
namespace Go.Proofs.Ytdbomnhlgaohaaa
open Go.RowKit Go.Deep

/-- The entry of a list of lists. -/
def at2 (l : List (List Int)) (i k : Nat) : Int := (l.getD i []).getD k 0

theorem MatR.entry {W : World} {a : Option Addr} {l : List (List Int)} (h : MatR W a l) {i k : Nat} (hi : i < l.length) (hk : k < (l.getD i []).length) :
    ∃ b o b' o' c, a = some ⟨b, o, none⟩ ∧ W.cell? ⟨b, o + i, none⟩ = some (.slice (some ⟨b', o', none⟩) (l.getD i []).length c) ∧ W.cell? ⟨b', o' + k, none⟩ = some (.int .i64 (at2 l i k)) := by
  obtain ⟨b, o, A, C, e, hc⟩ := h (by omega)
  obtain ⟨h1, h2⟩ := hc i hi
  obtain ⟨b', o', e', h3⟩ := h2 (by omega)
  rw [e'] at h1
  exact ⟨b, o, b', o', C i, e, h1, h3 k hk⟩

/-- What a table says of its rows. -/
theorem TabIn.row {l : List (List Int)} (h : TabIn l) {r : Nat} (hr : r < l.length) : (l.getD r []).length = (l.getD 0 []).length := (h.2.2 r hr).1
theorem TabIn.width {l : List (List Int)} (h : TabIn l) : 1 ≤ (l.getD 0 []).length ∧ (l.getD 0 []).length ≤ 6 := by
  have := h.2.2 0 h.1; exact ⟨this.2.1, this.2.2.1⟩
theorem TabIn.at {l : List (List Int)} (h : TabIn l) {i k : Nat} (hi : i < l.length) (hk : k < (l.getD 0 []).length) : -30 ≤ at2 l i k ∧ at2 l i k ≤ 30 := (h.2.2 i hi).2.2.2 k (by rw [h.row hi]; exact hk)
theorem tabIn_tabF {ht wd : Nat} {f : Nat → Nat → Int} (h1 : 1 ≤ ht) (h2 : ht ≤ 6) (h3 : 1 ≤ wd) (h4 : wd ≤ 6) (hf : ∀ i k, i < ht → k < wd → -30 ≤ f i k ∧ f i k ≤ 30) : TabIn (tabF ht wd f) := by
  refine ⟨by rw [tabF_length]; exact h1, by rw [tabF_length]; exact h2, fun r hr => ?_⟩
  rw [tabF_length] at hr
  refine ⟨by rw [tabF_len _ _ _ _ hr, tabF_len _ _ _ _ (by omega)], by rw [tabF_len _ _ _ _ hr]; exact h3, by rw [tabF_len _ _ _ _ hr]; exact h4, fun k hk => ?_⟩
  rw [tabF_len _ _ _ _ hr] at hk
  rw [tabF_at _ _ _ _ _ hr hk]
  exact hf r k hr hk

def turnL (l : List (List Int)) : List (List Int) := tabF (l.getD 0 []).length l.length fun k i => at2 l i k

set_option maxHeartbeats 1000000 in
theorem turnEntry_any (p i k n cap : Nat) (a : Option Addr) (l : List (List Int)) (w : World) (hn : l.length = n) (hbox : w.cell? ⟨p, 0, none⟩ = some (.slice a n cap)) (hm : MatR w a l) (hk : k < n) (hi : i < (l.getD k []).length) :
    Calls Try.prog 84 #[.int .i64 i, .int .i64 k, .pointer (some ⟨p, 0, none⟩)] w fun e w' => e = .returned (.int .i64 (at2 l k i)) ∧ w.Since w.heap.size w' := by
  obtain ⟨b, o, b', o', c, rfl, h1, h2⟩ := hm.entry (by rw [hn]; exact hk) hi
  obtain ⟨y, hy⟩ : ∃ y, y = at2 l k i := ⟨_, rfl⟩
  obtain ⟨m, hmm⟩ : ∃ m, m = (l.getD k []).length := ⟨_, rfl⟩
  rw [← hy] at h2 ⊢
  rw [← hmm] at h1 hi
  clear hy hmm hn hm
  go_enter Try.func84, Try.ntmps84
  go_wp2
  go_ret
  exact ⟨rfl, World.Since.refl _ _⟩

set_option maxRecDepth 100000 in
set_option maxHeartbeats 2000000 in
theorem turned_any (a : Option Addr) (cap n : Nat) (l : List (List Int)) (w : World) (hn : l.length = n) (hT : TabIn l) (hm : MatR w a l) :
    Calls Try.prog 69 #[.slice a n cap] w fun e w' => e = .returned (.slice (some ⟨w.heap.size + 1, 0, none⟩) (l.getD 0 []).length (l.getD 0 []).length) ∧ w.Since w.heap.size w' ∧ OwnT w.heap.size w'.heap.size w' (some ⟨w.heap.size + 1, 0, none⟩) (turnL l) := by
  have hw := hT.width
  have h6 := hT.2.1
  rw [hn] at h6
  have h1 := hT.1
  rw [hn] at h1
  have hwid := fun (W : World) (hs : w.Since w.heap.size W) => width_any a cap n l W hn (by omega) (by omega) (hm.since hs)
  have hnt := fun (W : World) (hs : w.Since w.heap.size W) (hbox : W.cell? ⟨w.heap.size, 0, none⟩ = some (.slice a n cap)) =>
    newTable_any 84 #[.pointer (some ⟨w.heap.size, 0, none⟩)] (l.getD 0 []).length n (fun k i => at2 l i k) W (by omega) (by omega) (enters_of Try.func84 (by kernel_rfl) rfl)
      (fun W' i k hs' hi hk => turnEntry_any w.heap.size i k n cap a l W' hn ((hs'.cell (a := ⟨w.heap.size, 0, none⟩) (World.block_lt_of_cell? _ _ hbox)).trans hbox) (hm.since (hs.trans (since_mono hs' hs.size))) hk (by rw [hT.row (by omega)]; exact hi))
  obtain ⟨m, hmm⟩ : ∃ m, (l.getD 0 []).length = m := ⟨_, rfl⟩
  have htl : turnL l = tabF m n fun k i => at2 l i k := by unfold turnL; rw [hmm, hn]
  rw [hmm] at hwid hnt hw ⊢
  rw [htl]
  have HW := Lib.hid hwid
  have HNT := Lib.hid hnt
  have hs1 : w.Since w.heap.size (w.alloc (.cells #[.slice a n cap] 50)) := (World.Since.refl _ _).alloc (Nat.le_refl _) _
  have HS1 := Lib.hid hs1
  have hc := cell_new_l w (.slice a n cap) 50
  have hcb := hc.1
  clear hwid hnt hm hT hn hmm htl hs1 hc
  go_enter Try.func69, Try.ntmps69
  go_wp2
  go_region_held3 (fun w' => w'.cell? ⟨w.heap.size, 0, none⟩ = some (.slice a n cap)) (go_keep)
    (first
      | (go_at_call 83; refine (HW.out _ ?_).mono ?_; (exact World.Since.drew HS1.out); rintro e w1 ⟨rfl, rfl⟩)
      | (go_at_call 74; refine (HNT.out _ ?_ ?_).mono ?_; (exact World.Since.drew HS1.out); (exact hcb); rintro e w1 ⟨rfl, hs2, ho⟩; have hcc := hs2.cell (a := ⟨w.heap.size, 0, none⟩) (World.block_lt_of_cell? _ _ hcb); simp only [World.cell?_drew, hcb] at hcc))
  all_goals
    go_wp2
    go_ret
    refine ⟨rfl, HS1.out.trans (since_mono (since_of_drew hs2) (by simp)), ?_⟩
    have hz : (w.alloc (.cells #[.slice a n cap] 50)).drew.heap.size = w.heap.size + 1 := by simp
    rw [hz] at ho
    exact ho.mono (by omega) (Nat.le_refl _)

theorem tabIn_turn {l : List (List Int)} (h : TabIn l) : tabIn (turnL l) = true :=
  tabIn_true (tabIn_tabF h.width.1 h.width.2 h.1 h.2.1 fun _ _ hi hk => h.at hk hi)
theorem turnL_length (l : List (List Int)) : (turnL l).length = (l.getD 0 []).length := tabF_length _ _ _

set_option maxHeartbeats 1000000 in
theorem implTableTurn_any (a : Option Addr) (cap n : Nat) (l : List (List Int)) (w : World) (hn : l.length = n) (hsz : szL l ≤ 1048576) (hm : MatR w a l) :
    Calls Try.prog 43 #[.slice a n cap] w (ImplT w (tabIn l) (turnL l)) := by
  have E := Lib.hid (implTableIn_any a cap n l w hn hsz hm)
  cases hT : tabIn l with
  | false =>
    rw [hT] at E
    clear hT hsz hm hn
    go_enter Try.func43, Try.ntmps43
    go_wp2_with fail
    refine (E.out).mono ?_
    rintro e w1 ⟨rfl, hs⟩
    go_wp2
    go_ret2
    exact ⟨_, _, rfl, hs, OwnT.nil _ _ _ _⟩
  | true =>
    have hTT := tabIn_of hT
    rw [hT] at E
    have hw := hTT.width
    have HT2 := Lib.hid (tabIn_turn hTT)
    have HE2 := Lib.hid (fun (W : World) (hs : w.Since w.heap.size W) => turned_any a cap n l W hn hTT (hm.since hs))
    have HTL := Lib.hid (turnL_length l)
    have hszl : szL (turnL l) ≤ 1048576 := szL_tabF _ _ _ (by omega) (by have := hTT.2.1; omega)
    clear hT hsz hm hn hTT
    go_enter Try.func43, Try.ntmps43
    go_wp2_with fail
    refine (E.out).mono ?_
    rintro e w1 ⟨rfl, hs⟩
    go_wp2_with fail
    refine (HE2.out w1 hs).mono ?_
    rintro e w2 ⟨rfl, hs2, ho⟩
    have hs12 : w.Since w.heap.size w2 := hs.trans (since_mono hs2 hs.size)
    have hz := hs.size
    go_wp2_with fail
    refine (result_any _ _ _ _ _ (turnL l) w2 HTL.out hszl ho).mono ?_
    rintro e w3 ⟨a', cap', rfl, hs3, ho3⟩
    rw [HT2.out] at ho3 ⊢
    go_wp2
    go_ret2
    exact ⟨a', cap', rfl, hs12.trans (since_mono hs3 hs12.size), ho3.mono hz hs3.size⟩

end Go.Proofs.Ytdbomnhlgaohaaa
