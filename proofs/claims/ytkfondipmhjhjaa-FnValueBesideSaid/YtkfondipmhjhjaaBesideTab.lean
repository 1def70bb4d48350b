/- The rows of a table beside another one; the contract of impl.TableBeside. -/
import Derived.Test.YtkfondipmhjhjaaBesideImpl
namespace Go.Proofs.Ytkfondipmhjhjaa
open Go.RowKit Go.Deep

theorem getD_at (x : List Int) {k : Nat} (h : k < x.length) : x.getD k 0 = x[k] := by simp [List.getD, h]

theorem besideL_top {l : List (List Int)} (u : List (List Int)) (hT : TabIn l) {r : Nat} (hr : r < l.length) : (besideL l u).getD r [] = l.getD r [] ++ List.replicate (u.getD 0 []).length 0 := by
  unfold besideL
  rw [tabF_get _ _ _ _ (by omega)]
  have hrl := hT.row hr
  obtain ⟨m, hm⟩ : ∃ m, (l.getD 0 []).length = m := ⟨_, rfl⟩
  obtain ⟨m2, hm2⟩ : ∃ m, (u.getD 0 []).length = m := ⟨_, rfl⟩
  obtain ⟨n, hn⟩ : ∃ n, l.length = n := ⟨_, rfl⟩
  rw [hm] at hrl ⊢
  rw [hm2]
  rw [hn] at hr ⊢
  refine List.ext_getElem (by rw [List.length_map, List.length_range, List.length_append, hrl, List.length_replicate]) fun k h1 h2 => ?_
  rw [List.length_map, List.length_range] at h1
  rw [List.getElem_map, List.getElem_range, List.getElem_append]
  unfold besideF
  by_cases hk : k < m
  · rw [if_pos ⟨hr, hk⟩, dif_pos (by rw [hrl]; exact hk)]
    exact getD_at _ _
  · rw [if_neg (by omega), if_neg (by omega), dif_neg (by rw [hrl]; exact hk), List.getElem_replicate]

theorem besideL_bot {u : List (List Int)} (l : List (List Int)) (hT : TabIn u) {r : Nat} (hr : r < u.length) : (besideL l u).getD (l.length + r) [] = List.replicate (l.getD 0 []).length 0 ++ u.getD r [] := by
  unfold besideL
  rw [tabF_get _ _ _ _ (by omega)]
  have hrl := hT.row hr
  obtain ⟨m, hm⟩ : ∃ m, (l.getD 0 []).length = m := ⟨_, rfl⟩
  obtain ⟨m2, hm2⟩ : ∃ m, (u.getD 0 []).length = m := ⟨_, rfl⟩
  obtain ⟨n, hn⟩ : ∃ n, l.length = n := ⟨_, rfl⟩
  rw [hm2] at hrl ⊢
  rw [hm]
  rw [hn]
  refine List.ext_getElem (by rw [List.length_map, List.length_range, List.length_append, hrl, List.length_replicate]) fun k h1 h2 => ?_
  rw [List.length_map, List.length_range] at h1
  rw [List.getElem_map, List.getElem_range, List.getElem_append]
  unfold besideF
  by_cases hk : k < m
  · rw [if_neg (by omega), if_neg (by omega), dif_pos (by rw [List.length_replicate]; exact hk), List.getElem_replicate]
  · rw [if_neg (by omega), if_pos ⟨by omega, by omega⟩, dif_neg (by rw [List.length_replicate]; exact hk)]
    unfold at2
    rw [show n + r - n = r by omega]
    simp only [List.length_replicate]
    exact getD_at _ _

/-- Does TableBeside succeed? -/
noncomputable def besideOk (l u : List (List Int)) : Bool := tabIn l && (tabIn u && tabIn (besideL l u))
theorem szL_beside {l u : List (List Int)} (h : TabIn l) (hu : TabIn u) : szL (besideL l u) ≤ 1048576 :=
  szL_tabF _ _ _ (by have := h.2.1; have := hu.2.1; omega) (by have := h.width; have := hu.width; omega)
theorem szL_besideOk (l u : List (List Int)) (h : besideOk l u = true) : szL (besideL l u) ≤ 1048576 := by
  unfold besideOk at h
  rw [Bool.and_eq_true, Bool.and_eq_true] at h
  exact szL_beside (tabIn_of h.1) (tabIn_of h.2.1)

set_option maxHeartbeats 1000000 in
theorem implTableBeside_any (a a2 : Option Addr) (cap cap2 n n2 : Nat) (l u : List (List Int)) (w : World) (hn : l.length = n) (hu : u.length = n2) (hsz : szL l ≤ 1048576) (hszu : szL u ≤ 1048576) (hm : MatR w a l) (hmu : MatR w a2 u) :
    Calls Try.prog 43 #[.slice a n cap, .slice a2 n2 cap2] w (ImplT w (besideOk l u) (besideL l u)) := by
  have E := Lib.hid (implTableIn_any a cap n l w hn hsz hm)
  have E2 := Lib.hid (fun (W : World) (hs : w.Since w.heap.size W) => implTableIn_any a2 cap2 n2 u W hu hszu (hmu.since hs))
  cases hT : tabIn l with
  | false =>
    have hok : besideOk l u = false := by unfold besideOk; rw [hT]; rfl
    rw [hT] at E
    rw [hok]
    clear hT hsz hm hn hok hu hszu hmu E2
    go_enter Try.func43, Try.ntmps43
    go_wp2_with fail
    refine (E.out).mono ?_
    rintro e w1 ⟨rfl, hs⟩
    go_wp2
    go_ret2
    exact ⟨_, _, rfl, hs, OwnT.nil _ _ _ _⟩
  | true =>
    rw [hT] at E
    cases hTu : tabIn u with
    | false =>
      have hok : besideOk l u = false := by unfold besideOk; rw [hT, hTu]; rfl
      rw [hTu] at E2
      rw [hok]
      clear hT hsz hm hn hok hu hszu hmu hTu
      go_enter Try.func43, Try.ntmps43
      go_wp2_with fail
      refine (E.out).mono ?_
      rintro e w1 ⟨rfl, hs⟩
      go_wp2_with fail
      refine (E2.out w1 hs).mono ?_
      rintro e w2 ⟨rfl, hs2⟩
      go_wp2
      go_ret2
      exact ⟨_, _, rfl, hs.trans (since_mono hs2 hs.size), OwnT.nil _ _ _ _⟩
    | true =>
      have hok : besideOk l u = tabIn (besideL l u) := by unfold besideOk; rw [hT, hTu]; rfl
      rw [hTu] at E2
      rw [hok]
      have hTT := tabIn_of hT
      have hTTu := tabIn_of hTu
      have HB := Lib.hid (fun (W : World) (hs : w.Since w.heap.size W) => beside_any a a2 cap cap2 n n2 l u W hn hu (hm.since hs) (hmu.since hs) hTT hTTu)
      have HTL := Lib.hid ((besideL_length l u).trans (by rw [hn, hu]))
      have hszl := szL_beside hTT hTTu
      clear hT hsz hm hn hok hu hszu hmu hTu hTT hTTu
      go_enter Try.func43, Try.ntmps43
      go_wp2_with fail
      refine (E.out).mono ?_
      rintro e w1 ⟨rfl, hs⟩
      go_wp2_with fail
      refine (E2.out w1 hs).mono ?_
      rintro e w2 ⟨rfl, hs2⟩
      have hs12 : w.Since w.heap.size w2 := hs.trans (since_mono hs2 hs.size)
      have hz := hs12.size
      go_wp2_with fail
      refine (HB.out w2 hs12).mono ?_
      rintro e w3 ⟨a3, cap3, rfl, hs3, ho3⟩
      have hs13 : w.Since w.heap.size w3 := hs12.trans (since_mono hs3 hs12.size)
      go_wp2_with fail
      refine (result_any _ _ (n + n2) _ _ (besideL l u) w3 HTL.out hszl ho3).mono ?_
      rintro e w4 ⟨a', cap', rfl, hs4, ho4⟩
      go_wp2
      go_ret2
      exact ⟨a', cap', rfl, hs13.trans (since_mono hs4 hs13.size), ho4.mono hz hs4.size⟩

end Go.Proofs.Ytkfondipmhjhjaa
