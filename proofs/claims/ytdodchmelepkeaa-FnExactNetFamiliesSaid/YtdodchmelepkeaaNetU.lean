/- Contracts of spec.NetTurn and spec.NetJoin. -/
import Derived.Test.YtdodchmelepkeaaNetO
namespace Go.Proofs.Ytdodchmelepkeaa
open Go.RowKit Go.Deep

abbrev kU : ByteArray := ⟨#[117]⟩
abbrev kD : ByteArray := ⟨#[100]⟩
noncomputable def trC (c : RC) : RC := ⟨if c.k.toList = [117] then kD else if c.k.toList = [100] then kU else c.k, c.l, c.w⟩
noncomputable def turnC (cs : List RC) : List RC := cs.reverse.map trC
theorem drop_rev (f : RC → RC) (cs : List RC) (j : Nat) (h : j < cs.length) : (cs.drop j).reverse.map f = (cs.drop (j + 1)).reverse.map f ++ [f (cs.getD j rc0)] := by
  rw [List.drop_eq_getElem_cons h, List.reverse_cons, List.map_append]
  congr 2
  simp [List.getD, h]
/-- What a function that makes chips gives back. -/
def resC (ok : Bool) (cs : List RC) : List RC := if ok = true then cs else []

theorem addr_add (b o i : Nat) : (⟨b, o, none⟩ : Addr).add i = ⟨b, o + i, none⟩ := by unfold Addr.add; split <;> simp_all
theorem cells_ch3 {W : World} {b o : Nat} {cs : List RC} (h : ∀ i, i < cs.length → W.cell? ⟨b, o + i * 3, none⟩ = some (.string (cs.getD i rc0).k) ∧ W.cell? ⟨b, o + i * 3 + 1, none⟩ = some (.int .i64 (cs.getD i rc0).l) ∧ W.cell? ⟨b, o + i * 3 + 2, none⟩ = some (.int .i64 (cs.getD i rc0).w)) :
    ∀ j u, (ch3 cs)[j]? = some u → W.cell? ((⟨b, o, none⟩ : Addr).add j) = some u := fun j u hj => by
  have hl : j < cs.length * 3 := by
    have := (List.getElem?_eq_some_iff.1 hj).1
    rw [ch3_length] at this; exact this
  obtain ⟨e1, e2, e3⟩ := ch3_get cs (j / 3) (by omega)
  obtain ⟨h1, h2, h3⟩ := h (j / 3) (by omega)
  rw [addr_add]
  have hj3 : j = j / 3 * 3 ∨ j = j / 3 * 3 + 1 ∨ j = j / 3 * 3 + 2 := by omega
  rcases hj3 with e | e | e
  · rw [e] at hj ⊢
    rw [e1] at hj; cases hj
    exact h1
  · rw [e] at hj ⊢
    rw [e2] at hj; cases hj
    rw [← Nat.add_assoc]
    exact h2
  · rw [e] at hj ⊢
    rw [e3] at hj; cases hj
    rw [← Nat.add_assoc]
    exact h3
theorem ChipsR.cells {w W : World} {b o : Nat} {cs : List RC} (h : ChipsR w (some ⟨b, o, none⟩) cs) (hs : w.Since w.heap.size W) : ∀ j u, (ch3 cs)[j]? = some u → W.cell? ((⟨b, o, none⟩ : Addr).add j) = some u := fun j u hj => by
  by_cases h0 : 0 < cs.length
  · obtain ⟨b', o', e, hc⟩ := h.since hs h0
    simp only [Option.some.injEq, Addr.mk.injEq, and_true] at e
    obtain ⟨rfl, rfl⟩ := e
    exact cells_ch3 hc j u hj
  · have := (List.getElem?_eq_some_iff.1 hj).1
    rw [ch3_length] at this
    omega

set_option maxRecDepth 100000 in
set_option maxHeartbeats 1000000 in
theorem specNetTurn_any (a : Option Addr) (cap N : Nat) (n : Int) (cs : List RC) (w : World) (hN : cs.length = N) (h63 : N ≤ 9223372036854775807) (hm : ChipsR w a cs) :
    Calls Try.prog 28 #[.int .i64 n, .slice a N cap] w fun e w' => ∃ a' cap', e = .returned (.tuple #[.slice a' (resC (netB n cs) (turnC cs)).length cap', .bool (netB n cs)]) ∧ w.Since w.heap.size w' ∧ InC w.heap.size w'.heap.size w' a' (resC (netB n cs) (turnC cs)) ∧ (resC (netB n cs) (turnC cs)).length ≤ cap' ∧ cap' ≤ 9223372036854775807 := by
  have E := fun (W : World) (hs : w.Since w.heap.size W) => specNetIn_any a cap N n cs W hN h63 (hm.since hs)
  have hst := cb_start w #[] rfl
  cases hb : netB n cs with
  | false =>
    simp only [hb] at E
    replace E := Lib.hid E
    have HST := Lib.hid hst
    clear hst hb hm hN
    go_enter Try.func28, Try.ntmps28
    go_wp2_with (go_at_call 14; refine (E.out _ HST.out.since).mono ?_; rintro e w1 ⟨rfl, hs1⟩; have HS1 := Lib.hid (HST.out.since.trans (since_mono hs1 HST.out.since.size)); clear hs1)
    go_ret2
    exact ⟨_, _, rfl, HS1.out, InC.nil _ _ _ _, Nat.le_refl _, by decide⟩
  | true =>
    have hl : (resC true (turnC cs)).length = N := by unfold resC turnC; rw [if_pos rfl, List.length_map, List.length_reverse, hN]
    rw [hl]
    have hres : resC true (turnC cs) = turnC cs := rfl
    rw [hres]
    obtain ⟨m, rfl, ho⟩ := netB_ok hb
    have h10 := ho.len
    rw [hN] at h10
    simp only [hb] at E
    replace E := Lib.hid E
    obtain ⟨iC, hiC⟩ := infoChip_parts
    have HI := Lib.hid hiC
    have HST := Lib.hid hst
    have HN := Lib.hid hN
    have HM := Lib.hid hm
    have hw1 : IntKind.i64.wrap ((N : Int) - 1) = (N : Int) - 1 := IntWalk.i64_in _ ⟨by omega, by omega⟩
    clear hst hb hm hN hl hres hiC ho
    go_enter Try.func28, Try.ntmps28
    go_wp2_with (go_at_call 14; refine (E.out _ HST.out.since).mono ?_; rintro e w1 ⟨rfl, hs1⟩; have HC1 := Lib.hid (HST.out.later hs1); clear hs1)
    go_loopg [6, 7, 8] N (fun g v i _ wr => ∃ (k : Nat) (z : Int), k ≤ N ∧ g = k + 0 ∧ i = .int .i64 z ∧ z + 1 = k ∧ CB w wr v ((cs.drop k).reverse.map trC))
    case atStart => exact ⟨N, _, Nat.le_refl _, rfl, rfl, by omega, by rw [List.drop_of_length_le (by rw [HN.out]; exact Nat.le_refl _)]; exact HC1.out⟩
    case round =>
      obtain ⟨k, z, hk, hgk, rfl, hz, hC⟩ := hrel
      rw [Nat.add_zero] at hgk
      replace hgk := hgk.symm
      subst hgk
      by_cases hlt : 0 ≤ z
      · obtain ⟨r, rfl⟩ : ∃ r : Nat, z = r := ⟨z.toNat, by omega⟩
        obtain rfl : k = r + 1 := by omega
        clear hz
        have hrN : r < N := by omega
        obtain ⟨b, o, rfl, k1, k2, k3⟩ := HM.out.at (show r < cs.length by rw [HN.out]; omega)
        have c1 := (hC.since.cell (World.block_lt_of_cell? _ _ k1)).trans k1
        have c2 := (hC.since.cell (World.block_lt_of_cell? _ _ k2)).trans k2
        have c3 := (hC.since.cell (World.block_lt_of_cell? _ _ k3)).trans k3
        have hts := drop_rev trC cs r (by rw [HN.out]; omega)
        have hlen : ((cs.drop (r + 1)).reverse.map trC).length ≤ 10 := by rw [List.length_map, List.length_reverse, List.length_drop, HN.out]; omega
        obtain ⟨K, hK⟩ : ∃ K, (cs.getD r rc0).k = K := ⟨_, rfl⟩
        obtain ⟨L, hL⟩ : ∃ L, (cs.getD r rc0).l = L := ⟨_, rfl⟩
        obtain ⟨V, hV⟩ : ∃ V, (cs.getD r rc0).w = V := ⟨_, rfl⟩
        have hoc : trC (cs.getD r rc0) = ⟨if K.toList = [117] then kD else if K.toList = [100] then kU else K, L, V⟩ := by unfold trC; rw [hK, hL, hV]
        rw [hoc] at hts
        rw [hK] at c1; rw [hL] at c2; rw [hV] at c3
        obtain ⟨d1, d2, d3⟩ := chip_box wr K L V 52
        obtain ⟨xs, hxs⟩ : ∃ xs, (cs.drop (r + 1)).reverse.map trC = xs := ⟨_, rfl⟩
        rw [hxs] at hC hts hlen
        have HC := Lib.hid hC
        have HTS := Lib.hid hts
        have HLEN := Lib.hid hlen
        have hsz := hC.since.size
        have hw2 : IntKind.i64.wrap ((r : Int) - 1) = (r : Int) - 1 := IntWalk.i64_in _ ⟨by omega, by omega⟩
        clear k1 k2 k3 hts hlen hK hL hV hoc hC hxs
        by_cases hu : K.toList = [117]
        · rw [if_pos hu] at HTS
          have HE := Lib.hid (show wr.Since wr.heap.size ((wr.alloc (.cells #[.string kD, .int .i64 L, .int .i64 V] 52)).alloc (.cells #[.string kD, .int .i64 L, .int .i64 V] 52)) from ((World.Since.refl _ _).alloc (Nat.le_refl _) _).alloc (by simp) _)
          go_wp2_with (at_builtin; (refine wpList_append_own _ rfl _ _ 25 rfl w.heap.size 52 iC (.agg #[.string ⟨#[]⟩, .int .i64 0, .int .i64 0]) 3 32 Try.underlying25 HI.out.1 HI.out.2.1 HI.out.2.2.1 HI.out.2.2.2 rfl (by decide) _ _ _ rfl ((HC.out.later HE.out).own) ⟨wr.heap.size + 1, 0, none⟩ 1 1 (ch3 [⟨kD, L, V⟩]) rfl rfl (by have := news3 (wr.alloc (.cells #[.string kD, .int .i64 L, .int .i64 V] 52)) ⟨kD, L, V⟩ 52; simpa using this) (ch3_one _) (by have := HLEN.out; unfold maxLen; omega) (by have := HLEN.out; omega) (by simp; omega) ?_); intro v' w1 hown' hgrow _)
          have hP := HC.out.push (ds := [⟨kD, L, V⟩]) rfl HE.out hown' hgrow
          have HP := Lib.hid hP
          clear hP hown' hgrow
          go_roundg r
          case measure => omega
          case rel => exact ⟨r, _, by omega, rfl, rfl, by omega, by rw [HTS.out]; exact HP.out⟩
        · rw [if_neg hu] at HTS
          have hub : (K.toList == [117]) = false := by simpa using hu
          by_cases hd : K.toList = [100]
          · rw [if_pos hd] at HTS
            clear hu hub
            have HE := Lib.hid (show wr.Since wr.heap.size ((wr.alloc (.cells #[.string kU, .int .i64 L, .int .i64 V] 52)).alloc (.cells #[.string kU, .int .i64 L, .int .i64 V] 52)) from ((World.Since.refl _ _).alloc (Nat.le_refl _) _).alloc (by simp) _)
            go_wp2_with (at_builtin; (refine wpList_append_own _ rfl _ _ 25 rfl w.heap.size 52 iC (.agg #[.string ⟨#[]⟩, .int .i64 0, .int .i64 0]) 3 32 Try.underlying25 HI.out.1 HI.out.2.1 HI.out.2.2.1 HI.out.2.2.2 rfl (by decide) _ _ _ rfl ((HC.out.later HE.out).own) ⟨wr.heap.size + 1, 0, none⟩ 1 1 (ch3 [⟨kU, L, V⟩]) rfl rfl (by have := news3 (wr.alloc (.cells #[.string kU, .int .i64 L, .int .i64 V] 52)) ⟨kU, L, V⟩ 52; simpa using this) (ch3_one _) (by have := HLEN.out; unfold maxLen; omega) (by have := HLEN.out; omega) (by simp; omega) ?_); intro v' w1 hown' hgrow _)
            have hP := HC.out.push (ds := [⟨kU, L, V⟩]) rfl HE.out hown' hgrow
            have HP := Lib.hid hP
            clear hP hown' hgrow
            go_roundg r
            case measure => omega
            case rel => exact ⟨r, _, by omega, rfl, rfl, by omega, by rw [HTS.out]; exact HP.out⟩
          · rw [if_neg hd] at HTS
            have hdb : (K.toList == [100]) = false := by simpa using hd
            clear hu hd
            have HE := Lib.hid (show wr.Since wr.heap.size ((wr.alloc (.cells #[.string K, .int .i64 L, .int .i64 V] 52)).alloc (.cells #[.string K, .int .i64 L, .int .i64 V] 52)) from ((World.Since.refl _ _).alloc (Nat.le_refl _) _).alloc (by simp) _)
            go_wp2_with (at_builtin; (refine wpList_append_own _ rfl _ _ 25 rfl w.heap.size 52 iC (.agg #[.string ⟨#[]⟩, .int .i64 0, .int .i64 0]) 3 32 Try.underlying25 HI.out.1 HI.out.2.1 HI.out.2.2.1 HI.out.2.2.2 rfl (by decide) _ _ _ rfl ((HC.out.later HE.out).own) ⟨wr.heap.size + 1, 0, none⟩ 1 1 (ch3 [⟨K, L, V⟩]) rfl rfl (by have := news3 (wr.alloc (.cells #[.string K, .int .i64 L, .int .i64 V] 52)) ⟨K, L, V⟩ 52; simpa using this) (ch3_one _) (by have := HLEN.out; unfold maxLen; omega) (by have := HLEN.out; omega) (by simp; omega) ?_); intro v' w1 hown' hgrow _)
            have hP := HC.out.push (ds := [⟨K, L, V⟩]) rfl HE.out hown' hgrow
            have HP := Lib.hid hP
            clear hP hown' hgrow
            go_roundg r
            case measure => omega
            case rel => exact ⟨r, _, by omega, rfl, rfl, by omega, by rw [HTS.out]; exact HP.out⟩
      · obtain rfl : k = 0 := by omega
        obtain rfl : z = -1 := by omega
        obtain ⟨a', cap', rfl, hO, h1, h2⟩ := hC.ownC
        have hlen : ((cs.drop 0).reverse.map trC).length = N := by rw [List.length_map, List.length_reverse, List.drop_zero, HN.out]
        rw [hlen] at h1 ⊢
        rw [List.drop_zero] at hO
        have HO := Lib.hid hO.inC
        have HS := Lib.hid hC.since
        clear hO hC hlen hz hlt
        go_wp2
        go_ret2
        exact ⟨_, _, rfl, HS.out, HO.out, h1, h2⟩

noncomputable def joinB (n : Int) (cs ds : List RC) : Bool := netB n cs && (netB n ds && decide (cs.length + ds.length ≤ 10))

set_option maxRecDepth 100000 in
set_option maxHeartbeats 1000000 in
theorem specNetJoin_any (a : Option Addr) (cap N : Nat) (a2 : Option Addr) (cap2 N2 : Nat) (n : Int) (cs ds : List RC) (w : World) (hN : cs.length = N) (h63 : N ≤ 9223372036854775807) (hm : ChipsR w a cs) (hN2 : ds.length = N2) (h632 : N2 ≤ 9223372036854775807) (hm2 : ChipsR w a2 ds) (hsa : ∃ b o, a = some ⟨b, o, none⟩) (hsa2 : ∃ b o, a2 = some ⟨b, o, none⟩) :
    Calls Try.prog 31 #[.int .i64 n, .slice a N cap, .slice a2 N2 cap2] w fun e w' => ∃ a' cap', e = .returned (.tuple #[.slice a' (resC (joinB n cs ds) (cs ++ ds)).length cap', .bool (joinB n cs ds)]) ∧ w.Since w.heap.size w' ∧ InC w.heap.size w'.heap.size w' a' (resC (joinB n cs ds) (cs ++ ds)) ∧ (resC (joinB n cs ds) (cs ++ ds)).length ≤ cap' ∧ cap' ≤ 9223372036854775807 := by
  have E := specNetIn_any a cap N n cs w hN h63 hm
  have E2 := fun (W : World) (hs : w.Since w.heap.size W) => specNetIn_any a2 cap2 N2 n ds W hN2 h632 (hm2.since hs)
  obtain ⟨b1, hb1⟩ : ∃ b, netB n cs = b := ⟨_, rfl⟩
  obtain ⟨b2, hb2⟩ : ∃ b, netB n ds = b := ⟨_, rfl⟩
  have hjb : joinB n cs ds = (b1 && (b2 && decide (N + N2 ≤ 10))) := by unfold joinB; rw [hb1, hb2, hN, hN2]
  rw [hb1] at E
  simp only [hb2] at E2
  replace E := Lib.hid E
  replace E2 := Lib.hid E2
  by_cases hbb : b1 = true ∧ b2 = true
  · obtain ⟨rfl, rfl⟩ := hbb
    obtain ⟨m, rfl, ho⟩ := netB_ok hb1
    obtain ⟨m2, hmm, ho2⟩ := netB_ok hb2
    have h10 := ho.len
    have h102 := ho2.len
    rw [hN] at h10
    rw [hN2] at h102
    have hw1 : IntKind.i64.wrap ((N : Int) + (N2 : Int)) = (N : Int) + (N2 : Int) := IntWalk.i64_in _ ⟨by omega, by omega⟩
    rw [Bool.true_and, Bool.true_and] at hjb
    by_cases hle : N + N2 ≤ 10
    · rw [decide_eq_true hle] at hjb
      rw [hjb]
      have hres : resC true (cs ++ ds) = cs ++ ds := rfl
      have hl : (cs ++ ds).length = N + N2 := by rw [List.length_append, hN, hN2]
      rw [hres, hl]
      have hg : decide ((10 : Int) < (N : Int) + (N2 : Int)) = false := by simp; omega
      obtain ⟨iC, hiC⟩ := infoChip_parts
      have HI := Lib.hid hiC
      have HN := Lib.hid hN
      have HN2 := Lib.hid hN2
      obtain ⟨b, o, rfl⟩ := hsa
      obtain ⟨b2, o2, rfl⟩ := hsa2
      have HA := Lib.hid (fun (W : World) (hs : w.Since w.heap.size W) => hm.cells hs)
      have HA2 := Lib.hid (fun (W : World) (hs : w.Since w.heap.size W) => hm2.cells hs)
      have HCB := Lib.hid (fun (W : World) => cb_start W #[] rfl)
      clear hb1 hb2 hm hm2 hN hN2 hl hres hiC ho ho2 hmm hjb
      go_enter Try.func31, Try.ntmps31
      go_wp2_with (first
        | (go_at_call 14; ((with_reducible refine (E.out).mono ?_); rintro e w1 ⟨rfl, hs1⟩; have HS1 := Lib.hid hs1; clear hs1))
        | (go_at_call 14; ((with_reducible refine (E2.out _ HS1.out).mono ?_); rintro e w2 ⟨rfl, hs2⟩; have HS2 := Lib.hid (HS1.out.trans (since_mono hs2 HS1.out.size)); clear hs2))
        | (at_builtin; (refine wpList_append_own _ rfl _ _ 25 rfl w2.heap.size 52 iC (.agg #[.string ⟨#[]⟩, .int .i64 0, .int .i64 0]) 3 32 Try.underlying25 HI.out.1 HI.out.2.1 HI.out.2.2.1 HI.out.2.2.2 rfl (by decide) (.slice (some ⟨w2.heap.size, 0, none⟩) 0 0) 0 [] rfl (HCB.out w2).own ⟨b, o, none⟩ N cap (ch3 cs) rfl (by rw [ch3_length, HN.out]) (HA.out _ (HS2.out.alloc HS2.out.size _)) (ch3_one _) (by unfold maxLen; omega) (by omega) (by simp) ?_); intro v' w3 hown' hgrow _; have HC3 := Lib.hid (CB.push (HCB.out w2) (ds := cs) (n := 0 + N) (by rw [HN.out]; rfl) (World.Since.refl _ _) hown' hgrow); clear hown' hgrow)
        | (at_builtin; (refine wpList_append_own _ rfl _ _ 25 rfl w2.heap.size 52 iC (.agg #[.string ⟨#[]⟩, .int .i64 0, .int .i64 0]) 3 32 Try.underlying25 HI.out.1 HI.out.2.1 HI.out.2.2.1 HI.out.2.2.2 rfl (by decide) _ _ _ rfl HC3.out.own ⟨b2, o2, none⟩ N2 cap2 (ch3 ds) rfl (by rw [ch3_length, HN2.out]) (HA2.out _ (HS2.out.trans (since_mono HC3.out.since HS2.out.size))) (ch3_one _) (by rw [List.nil_append, HN.out]; unfold maxLen; omega) (by rw [List.nil_append, HN.out]; omega) HC3.out.since.size ?_); intro v'' w4 hown' hgrow _; have HC4 := Lib.hid (CB.push HC3.out (ds := ds) (n := ([] ++ cs).length + N2) (by rw [HN2.out]) (World.Since.refl _ _) hown' hgrow); clear hown' hgrow))
      obtain ⟨a', cap', rfl, hO, h1, h2⟩ := HC4.out.ownC
      rw [List.nil_append] at hO h1 ⊢
      have hl : (cs ++ ds).length = N + N2 := by rw [List.length_append, HN.out, HN2.out]
      rw [hl] at h1 ⊢
      have HO := Lib.hid hO.inC
      have HS := Lib.hid (HS2.out.trans (since_mono HC4.out.since HS2.out.size))
      clear hO hl HC3 HC4
      go_wp2
      go_ret2
      exact ⟨_, _, rfl, HS.out, HO.out.mono HS2.out.size (Nat.le_refl _), h1, h2⟩
    · rw [decide_eq_false hle] at hjb
      rw [hjb]
      have hg : decide ((10 : Int) < (N : Int) + (N2 : Int)) = true := by simp; omega
      clear hb1 hb2 hm hm2 hN hN2 ho ho2 hmm hjb hle
      go_enter Try.func31, Try.ntmps31
      go_wp2_with (first
        | (go_at_call 14; ((with_reducible refine (E.out).mono ?_); rintro e w1 ⟨rfl, hs1⟩; have HS1 := Lib.hid hs1; clear hs1))
        | (go_at_call 14; ((with_reducible refine (E2.out _ HS1.out).mono ?_); rintro e w2 ⟨rfl, hs2⟩; have HS2 := Lib.hid (HS1.out.trans (since_mono hs2 HS1.out.size)); clear hs2)))
      go_ret2
      exact ⟨_, _, rfl, HS2.out.alloc HS2.out.size _, InC.nil _ _ _ _, Nat.le_refl _, by decide⟩
  · have hj : joinB n cs ds = false := by rw [hjb]; cases b1 <;> cases b2 <;> simp at hbb ⊢
    rw [hj]
    clear hb1 hb2 hm hm2 hN hN2 hjb hj
    cases b1 <;> cases b2
    case true.true => exact absurd ⟨rfl, rfl⟩ hbb
    all_goals
      clear hbb
      go_enter Try.func31, Try.ntmps31
      go_wp2_with (first
        | (go_at_call 14; ((with_reducible refine (E.out).mono ?_); rintro e w1 ⟨rfl, hs1⟩; have HS1 := Lib.hid hs1; clear hs1))
        | (go_at_call 14; ((with_reducible refine (E2.out _ HS1.out).mono ?_); rintro e w2 ⟨rfl, hs2⟩; have HS2 := Lib.hid (HS1.out.trans (since_mono hs2 HS1.out.size)); clear hs2)))
      go_ret2
      first
        | exact ⟨_, _, rfl, HS2.out.alloc HS2.out.size _, InC.nil _ _ _ _, Nat.le_refl _, by decide⟩
        | exact ⟨_, _, rfl, HS1.out.alloc HS1.out.size _, InC.nil _ _ _ _, Nat.le_refl _, by decide⟩

end Go.Proofs.Ytdodchmelepkeaa
