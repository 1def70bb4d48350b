/- Contracts of spec.l6cOnes, NetTurn, NetJoin. -/
import Derived.Test.YtbclpbgomkfabaaNetS
import Derived.Laws.AppendOwn
namespace Go.Proofs.Ytbclpbgomkfabaa
open Go.RowKit Go.Deep

def oneC (q : Int) (c : RC) : RC := ⟨c.k, c.l, if c.w = 0 then q else 1⟩
theorem take_map_snoc {α : Type} (f : RC → α) (cs : List RC) (r : Nat) (h : r < cs.length) : (cs.take (r + 1)).map f = (cs.take r).map f ++ [f (cs.getD r rc0)] := by
  rw [List.take_succ_eq_append_getElem h, List.map_append]
  congr 2
  simp [List.getD, h]
/-- What is read of a list of chips at one place. -/
theorem ChipsR.at {W : World} {a : Option Addr} {cs : List RC} (h : ChipsR W a cs) {i : Nat} (hi : i < cs.length) : ∃ b o, a = some ⟨b, o, none⟩ ∧ W.cell? ⟨b, o + i * 3, none⟩ = some (.string (cs.getD i rc0).k) ∧ W.cell? ⟨b, o + i * 3 + 1, none⟩ = some (.int .i64 (cs.getD i rc0).l) ∧ W.cell? ⟨b, o + i * 3 + 2, none⟩ = some (.int .i64 (cs.getD i rc0).w) := by
  obtain ⟨b, o, e, hc⟩ := h (by omega)
  exact ⟨b, o, e, hc i hi⟩

set_option maxRecDepth 100000 in
set_option maxHeartbeats 1000000 in
theorem l6cOnes_any (a : Option Addr) (cap N : Nat) (q : Int) (cs : List RC) (w : World) (hN : cs.length = N) (h10 : N ≤ 10) (hm : ChipsR w a cs) :
    Calls Try.prog 71 #[.slice a N cap, .int .i64 q] w fun e w' => ∃ a' cap', e = .returned (.slice a' N cap') ∧ w.Since w.heap.size w' ∧ OwnC w.heap.size w'.heap.size w' a' (cs.map (oneC q)) ∧ N ≤ cap' ∧ cap' ≤ 9223372036854775807 := by
  obtain ⟨iC, hiC⟩ := infoChip_parts
  have HI := Lib.hid hiC
  have hst := cb_start w #[] rfl
  have HST := Lib.hid hst
  have HN := Lib.hid hN
  have HM := Lib.hid hm
  clear hiC hst hN hm
  go_enter Try.func71, Try.ntmps71
  go_wp2
  go_loopg [5, 6, 7] N (fun g v i _ wr => ∃ r : Nat, r ≤ N ∧ g = N - r ∧ i = .int .i64 r ∧ CB w wr v ((cs.take r).map (oneC q)))
  case atStart => exact ⟨0, Nat.zero_le _, rfl, rfl, HST.out⟩
  case round =>
    obtain ⟨r, hr, rfl, rfl, hC⟩ := hrel
    by_cases hlt : r < N
    · obtain ⟨b, o, rfl, k1, k2, k3⟩ := HM.out.at (show r < cs.length by rw [HN.out]; exact hlt)
      have c1 := (hC.since.cell (World.block_lt_of_cell? _ _ k1)).trans k1
      have c2 := (hC.since.cell (World.block_lt_of_cell? _ _ k2)).trans k2
      have c3 := (hC.since.cell (World.block_lt_of_cell? _ _ k3)).trans k3
      have hts := take_map_snoc (oneC q) cs r (by rw [HN.out]; exact hlt)
      have hlen : ((cs.take r).map (oneC q)).length = r := by rw [List.length_map, List.length_take, HN.out]; omega
      obtain ⟨K, hK⟩ : ∃ K, (cs.getD r rc0).k = K := ⟨_, rfl⟩
      obtain ⟨L, hL⟩ : ∃ L, (cs.getD r rc0).l = L := ⟨_, rfl⟩
      obtain ⟨V, hV⟩ : ∃ V, (cs.getD r rc0).w = V := ⟨_, rfl⟩
      have hoc : oneC q (cs.getD r rc0) = ⟨K, L, if V = 0 then q else 1⟩ := by unfold oneC; rw [hK, hL, hV]
      rw [hoc] at hts
      rw [hK] at c1; rw [hL] at c2; rw [hV] at c3
      obtain ⟨d1, d2, d3⟩ := chip_box wr K L V 36
      obtain ⟨xs, hxs⟩ : ∃ xs, (cs.take r).map (oneC q) = xs := ⟨_, rfl⟩
      rw [hxs] at hC hts hlen
      have HC := Lib.hid hC
      have HTS := Lib.hid hts
      have HLEN := Lib.hid hlen
      have hsz := hC.since.size
      clear k1 k2 k3 hts hlen hK hL hV hoc hC hxs
      by_cases hv : V = 0
      · rw [if_pos hv] at HTS
        have hvb : (V == 0) = true := by simpa using hv
        clear hv
        have HE := Lib.hid (show wr.Since wr.heap.size ((wr.alloc (.cells #[.string K, .int .i64 L, .int .i64 q] 36)).alloc (.cells #[.string K, .int .i64 L, .int .i64 q] 36)) from ((World.Since.refl _ _).alloc (Nat.le_refl _) _).alloc (by simp) _)
        go_wp2_with (at_builtin; (refine wpList_append_own _ rfl _ _ 23 rfl w.heap.size 36 iC (.agg #[.string ⟨#[]⟩, .int .i64 0, .int .i64 0]) 3 32 Try.underlying23 HI.out.1 HI.out.2.1 HI.out.2.2.1 HI.out.2.2.2 rfl (by decide) _ _ _ rfl ((HC.out.later HE.out).own) ⟨wr.heap.size + 1, 0, none⟩ 1 1 (ch3 [⟨K, L, q⟩]) rfl rfl (by have := news3 (wr.alloc (.cells #[.string K, .int .i64 L, .int .i64 q] 36)) ⟨K, L, q⟩ 36; simpa using this) (ch3_one _) (by rw [HLEN.out]; unfold maxLen; omega) (by rw [HLEN.out]; omega) (by simp; omega) ?_); intro v' w1 hown' hgrow _)
        have hP := HC.out.push (ds := [⟨K, L, q⟩]) rfl HE.out hown' hgrow
        have HP := Lib.hid hP
        clear hP hown' hgrow
        go_roundg (N - (r + 1))
        case measure => omega
        case rel => exact ⟨r + 1, by omega, rfl, by go_num, by rw [HTS.out]; exact HP.out⟩
      · rw [if_neg hv] at HTS
        have hvb : (V == 0) = false := by simpa using hv
        clear hv
        have HE := Lib.hid (show wr.Since wr.heap.size ((wr.alloc (.cells #[.string K, .int .i64 L, .int .i64 1] 36)).alloc (.cells #[.string K, .int .i64 L, .int .i64 1] 36)) from ((World.Since.refl _ _).alloc (Nat.le_refl _) _).alloc (by simp) _)
        go_wp2_with (at_builtin; (refine wpList_append_own _ rfl _ _ 23 rfl w.heap.size 36 iC (.agg #[.string ⟨#[]⟩, .int .i64 0, .int .i64 0]) 3 32 Try.underlying23 HI.out.1 HI.out.2.1 HI.out.2.2.1 HI.out.2.2.2 rfl (by decide) _ _ _ rfl ((HC.out.later HE.out).own) ⟨wr.heap.size + 1, 0, none⟩ 1 1 (ch3 [⟨K, L, 1⟩]) rfl rfl (by have := news3 (wr.alloc (.cells #[.string K, .int .i64 L, .int .i64 1] 36)) ⟨K, L, 1⟩ 36; simpa using this) (ch3_one _) (by rw [HLEN.out]; unfold maxLen; omega) (by rw [HLEN.out]; omega) (by simp; omega) ?_); intro v' w1 hown' hgrow _)
        have hP := HC.out.push (ds := [⟨K, L, 1⟩]) rfl HE.out hown' hgrow
        have HP := Lib.hid hP
        clear hP hown' hgrow
        go_roundg (N - (r + 1))
        case measure => omega
        case rel => exact ⟨r + 1, by omega, rfl, by go_num, by rw [HTS.out]; exact HP.out⟩
    · obtain rfl : r = N := by omega
      obtain ⟨a', cap', rfl, hO, h1, h2⟩ := hC.ownC
      have hlen : ((cs.take r).map (oneC q)).length = r := by rw [List.length_map, List.length_take, HN.out]; omega
      rw [hlen] at h1 ⊢
      rw [List.take_of_length_le (by rw [HN.out]; exact Nat.le_refl _)] at hO
      have HO := Lib.hid hO
      have HS := Lib.hid hC.since
      clear hO hC hlen
      go_wp2
      go_ret
      exact ⟨_, _, rfl, HS.out, HO.out, h1, h2⟩

end Go.Proofs.Ytbclpbgomkfabaa
