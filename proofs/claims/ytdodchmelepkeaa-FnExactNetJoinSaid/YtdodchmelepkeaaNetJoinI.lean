/- slices.Grow and slices.Concat over chips; impl.NetJoin. -/
import Derived.Test.YtdodchmelepkeaaNetInI
import Derived.Test.YtdodchmelepkeaaNetU
import Derived.Lib.AppendZerosOnto
import Derived.Lib.SliceRun
namespace Go.Proofs.Ytdodchmelepkeaa
open Go.RowKit Go.Deep

set_option maxHeartbeats 400000 in
theorem growChips_any (n : Nat) (w : World) (hn : n ≤ 20) :
    Calls Try.prog 102 #[.slice none 0 0, .int .i64 n] w fun e w' => ∃ v, e = .returned v ∧ CB w w' v [] := by
  obtain ⟨iC, hiC⟩ := infoChip_parts
  by_cases h0 : n = 0
  · subst h0
    have HST := Lib.hid (cb_none w)
    clear hiC
    go_enter Try.func102, Try.ntmps102
    go_wp2_with fail
    go_ret
    exact ⟨_, rfl, HST.out⟩
  · have hold : (Builtin.firstCells iC.size 0 (.slice none 0 0)).run Try.prog w.drew = .ok (#[] : Array Value) w.drew := run_firstCells_none w.drew iC.size 0 0 0
    have hnx : Builtin.nextslicecap (0 + n) 0 = n := by
      unfold Builtin.nextslicecap
      rw [if_pos (by omega)]
      omega
    have hrz : ∀ ty, (Builtin.append_ #[25, 3] ty #[.slice none 0 0, .int .i64 n]).run Try.prog w = _ := fun ty =>
      Lib.run_append_grow_zeros w 25 3 ty 52 iC (.agg #[.string ⟨#[]⟩, .int .i64 0, .int .i64 0]) .i64 .i64 Try.underlying25 Try.underlying3 hiC.1 hiC.2.1 none 0 0 [] hold n (by omega) (by rw [hiC.2.2.1]; omega) (by omega) (by omega) (by rw [hiC.2.2.2]; omega) (by rw [hnx, hiC.2.2.2]; omega)
    have hge : 0 + n ≤ grownCap w (0 + n) 0 52 := grownCap_ge w _ _ _
    have hle := grownCap_le_maxLen w (0 + n) 0 52 (by unfold maxLen; omega)
    obtain ⟨G, hG⟩ : ∃ G, grownCap w (0 + n) 0 52 = G := ⟨_, rfl⟩
    rw [hG] at hge hle
    simp only [hG] at hrz
    obtain ⟨cur, hcur⟩ : ∃ cur, (([] : List Value).toArray ++ Builtin.zeroCells (Value.cells (.agg #[.string ⟨#[]⟩, .int .i64 0, .int .i64 0])) n ++ Builtin.zeroCells (Value.cells (.agg #[.string ⟨#[]⟩, .int .i64 0, .int .i64 0])) (G - (0 + n))) = cur := ⟨_, rfl⟩
    simp only [hcur] at hrz
    have hsz : cur.size = G * 3 := by
      rw [← hcur, Array.size_append, Array.size_append, size_zeroCells, size_zeroCells]
      have e : (Value.cells (.agg #[.string ⟨#[]⟩, .int .i64 0, .int .i64 0])).size = 3 := by kernel_rfl
      rw [e]
      simp
      omega
    have HCB : Hid (CB w (w.drew.alloc (.cells cur 52)) (.slice (some ⟨w.heap.size, 0, none⟩) 0 G) []) := Lib.hid ⟨(World.Since.refl _ _).drew.alloc (Nat.le_refl _) _, World.ownsRow_made w.drew cur G (Nat.le_refl _) hle hsz⟩
    have hG63 : G ≤ 9223372036854775807 := by unfold maxLen at hle; omega
    clear hold hnx hG hcur hsz hle hiC
    go_enter Try.func102, Try.ntmps102
    go_wp2_with (at_builtin; refine Lib.wpList_append_run _ rfl _ _ _ _ rfl _ _ rfl rfl _ _ (hrz _) ?_)
    go_ret
    exact ⟨_, rfl, HCB.out⟩

set_option maxRecDepth 100000 in
set_option maxHeartbeats 1000000 in
theorem concatChips_any (p N cap N2 cap2 b o b2 o2 c0 : Nat) (cs ds : List RC) (w : World) (hN : cs.length = N) (hN2 : ds.length = N2) (hle : N + N2 ≤ 10) (hp1 : w.cell? ⟨p, 0, none⟩ = some (.slice (some ⟨b, o, none⟩) N cap)) (hp2 : w.cell? ⟨p, 1, none⟩ = some (.slice (some ⟨b2, o2, none⟩) N2 cap2))
    (hm : ChipsR w (some ⟨b, o, none⟩) cs) (hm2 : ChipsR w (some ⟨b2, o2, none⟩) ds) :
    Calls Try.prog 75 #[.slice (some ⟨p, 0, none⟩) 2 c0] w fun e w' => ∃ a' cap', e = .returned (.slice a' (N + N2) cap') ∧ w.Since w.heap.size w' ∧ OwnC w.heap.size w'.heap.size w' a' (cs ++ ds) := by
  obtain ⟨iC, hiC⟩ := infoChip_parts
  have HI := Lib.hid hiC
  have HN := Lib.hid hN
  have HN2 := Lib.hid hN2
  have HA := Lib.hid (fun (W : World) (hs : w.Since w.heap.size W) => hm.cells hs)
  have HA2 := Lib.hid (fun (W : World) (hs : w.Since w.heap.size W) => hm2.cells hs)
  have HG := Lib.hid (growChips_any (N + N2) w (by omega))
  clear hiC hN hN2 hm hm2
  go_enter Try.func75, Try.ntmps75
  go_wp2_with fail
  go_loopg [3, 5, 11] 2 (fun g s _ i wr => w = wr ∧ ((g = 2 ∧ i = .int .i64 0 ∧ s = .int .i64 0) ∨ (g = 1 ∧ i = .int .i64 1 ∧ s = .int .i64 N) ∨ (g = 0 ∧ i = .int .i64 2 ∧ s = .int .i64 (N + N2 : Nat))))
  case atStart => exact ⟨rfl, .inl ⟨rfl, rfl, rfl⟩⟩
  case round =>
    obtain ⟨rfl, hrel⟩ := hrel
    rcases hrel with ⟨rfl, rfl, rfl⟩ | ⟨rfl, rfl, rfl⟩ | ⟨rfl, rfl, rfl⟩
    · go_wp2_with fail
      go_roundg 1
      case measure => omega
      case rel => exact ⟨rfl, .inr (.inl ⟨rfl, rfl, by go_num⟩)⟩
    · go_wp2_with fail
      go_roundg 0
      case measure => omega
      case rel => exact ⟨rfl, .inr (.inr ⟨rfl, rfl, by go_num⟩)⟩
    · go_wp2_with (go_at_call 102; refine (HG.out).mono ?_; rintro e w1 ⟨v1, rfl, hC1⟩; have HC1 := Lib.hid hC1; clear hC1)
      go_loopg [6, 8, 27] 2 (fun g v _ i wr => (g = 2 ∧ i = .int .i64 0 ∧ CB w wr v []) ∨ (g = 1 ∧ i = .int .i64 1 ∧ CB w wr v cs) ∨ (g = 0 ∧ i = .int .i64 2 ∧ CB w wr v (cs ++ ds)))
      case atStart => exact .inl ⟨rfl, rfl, HC1.out⟩
      case round =>
        rcases hrel with ⟨rfl, rfl, hC⟩ | ⟨rfl, rfl, hC⟩ | ⟨rfl, rfl, hC⟩
        · have hq1 := (hC.since.cell (World.block_lt_of_cell? _ _ hp1)).trans hp1
          have HC := Lib.hid hC
          clear hp1 hp2 hC HC1
          go_wp2_with (at_builtin; (refine wpList_append_own _ rfl _ _ 25 rfl w.heap.size 52 iC (.agg #[.string ⟨#[]⟩, .int .i64 0, .int .i64 0]) 3 32 Try.underlying25 HI.out.1 HI.out.2.1 HI.out.2.2.1 HI.out.2.2.2 rfl (by decide) _ _ _ rfl HC.out.own ⟨b, o, none⟩ N cap (ch3 cs) rfl (by rw [ch3_length, HN.out]) (HA.out _ HC.out.since) (ch3_one _) (by simp; unfold maxLen; omega) (by simp; omega) HC.out.since.size ?_); intro v' w3 hown' hgrow _; have HC3 := Lib.hid (CB.push HC.out (ds := cs) (n := ([] : List RC).length + N) (by rw [HN.out]) (World.Since.refl _ _) hown' hgrow); clear hown' hgrow)
          go_roundg 1
          case measure => omega
          case rel => exact .inr (.inl ⟨rfl, rfl, HC3.out⟩)
        · have hq2 := (hC.since.cell (World.block_lt_of_cell? _ _ hp2)).trans hp2
          have HC := Lib.hid hC
          clear hp1 hp2 hC HC1
          go_wp2_with (at_builtin; (refine wpList_append_own _ rfl _ _ 25 rfl w.heap.size 52 iC (.agg #[.string ⟨#[]⟩, .int .i64 0, .int .i64 0]) 3 32 Try.underlying25 HI.out.1 HI.out.2.1 HI.out.2.2.1 HI.out.2.2.2 rfl (by decide) _ _ _ rfl HC.out.own ⟨b2, o2, none⟩ N2 cap2 (ch3 ds) rfl (by rw [ch3_length, HN2.out]) (HA2.out _ HC.out.since) (ch3_one _) (by rw [HN.out]; unfold maxLen; omega) (by rw [HN.out]; omega) HC.out.since.size ?_); intro v' w3 hown' hgrow _; have HC3 := Lib.hid (CB.push HC.out (ds := ds) (n := cs.length + N2) (by rw [HN2.out]) (World.Since.refl _ _) hown' hgrow); clear hown' hgrow)
          go_roundg 0
          case measure => omega
          case rel => exact .inr (.inr ⟨rfl, rfl, HC3.out⟩)
        · obtain ⟨a', cap', rfl, hO, _, _⟩ := hC.ownC
          have hl : (cs ++ ds).length = N + N2 := by rw [List.length_append, HN.out, HN2.out]
          rw [hl]
          have HO := Lib.hid hO
          have HS := Lib.hid hC.since
          clear hO hC hp1 hp2 HC1 hl
          go_wp2_with fail
          go_ret
          exact ⟨_, _, rfl, HS.out, HO.out⟩

set_option maxRecDepth 100000 in
set_option maxHeartbeats 1000000 in
theorem implNetJoin_any (a : Option Addr) (cap N : Nat) (a2 : Option Addr) (cap2 N2 : Nat) (n : Int) (cs ds : List RC) (w : World) (hN : cs.length = N) (h63 : N ≤ 9223372036854775807) (hm : ChipsR w a cs) (hN2 : ds.length = N2) (h632 : N2 ≤ 9223372036854775807) (hm2 : ChipsR w a2 ds) (hsa : ∃ b o, a = some ⟨b, o, none⟩) (hsa2 : ∃ b o, a2 = some ⟨b, o, none⟩) :
    Calls Try.prog 32 #[.int .i64 n, .slice a N cap, .slice a2 N2 cap2] w fun e w' => ∃ a' cap', e = .returned (.tuple #[.slice a' (resC (joinB n cs ds) (cs ++ ds)).length cap', .bool (joinB n cs ds)]) ∧ w.Since w.heap.size w' ∧ OwnC w.heap.size w'.heap.size w' a' (resC (joinB n cs ds) (cs ++ ds)) := by
  have E := implNetIn_any a cap N n cs w hN h63 hm
  have E2 := fun (W : World) (hs : w.Since w.heap.size W) => implNetIn_any a2 cap2 N2 n ds W hN2 h632 (hm2.since hs)
  obtain ⟨b1, hb1⟩ : ∃ b, netB n cs = b := ⟨_, rfl⟩
  obtain ⟨b2, hb2⟩ : ∃ b, netB n ds = b := ⟨_, rfl⟩
  have hjb : joinB n cs ds = (b1 && (b2 && decide (N + N2 ≤ 10))) := by unfold joinB; rw [hb1, hb2, hN, hN2]
  rw [hb1] at E
  simp only [hb2] at E2
  replace E := Lib.hid E
  replace E2 := Lib.hid E2
  by_cases hbb : b1 = true ∧ b2 = true
  · obtain ⟨rfl, rfl⟩ := hbb
    obtain ⟨m, rfl, ho⟩ := netB_ok hb1
    obtain ⟨m2, hmm, ho2⟩ := netB_ok hb2
    have h10 := ho.len
    have h102 := ho2.len
    rw [hN] at h10
    rw [hN2] at h102
    have hw1 : IntKind.i64.wrap ((N : Int) + (N2 : Int)) = (N : Int) + (N2 : Int) := IntWalk.i64_in _ ⟨by omega, by omega⟩
    rw [Bool.true_and, Bool.true_and] at hjb
    by_cases hle : N + N2 ≤ 10
    · rw [decide_eq_true hle] at hjb
      rw [hjb]
      have hres : resC true (cs ++ ds) = cs ++ ds := rfl
      have hl : (cs ++ ds).length = N + N2 := by rw [List.length_append, hN, hN2]
      rw [hres, hl]
      have hg : decide ((10 : Int) < (N : Int) + (N2 : Int)) = false := by simp; omega
      obtain ⟨b, o, rfl⟩ := hsa
      obtain ⟨b2, o2, rfl⟩ := hsa2
      have E3 := Lib.hid (fun (W : World) (p c0 : Nat) (hs : w.Since w.heap.size W) h1 h2 => concatChips_any p N cap N2 cap2 b o b2 o2 c0 cs ds W hN hN2 hle h1 h2 (hm.since hs) (hm2.since hs))
      clear hb1 hb2 hm hm2 hN hN2 hl hres ho ho2 hmm hjb
      go_enter Try.func32, Try.ntmps32
      go_wp2_with (first
        | (go_at_call 16; ((with_reducible refine (E.out).mono ?_); rintro e w1 ⟨rfl, hs1⟩; have HS1 := Lib.hid hs1; clear hs1))
        | (go_at_call 16; ((with_reducible refine (E2.out _ HS1.out).mono ?_); rintro e w2 ⟨rfl, hs2⟩; have HS2 := Lib.hid (HS1.out.trans (since_mono hs2 HS1.out.size)); clear hs2))
        | (go_at_call 75; refine (E3.out _ _ _ (HS2.out.alloc HS2.out.size _) (by go_simp) (by go_simp)).mono ?_; rintro e w4 ⟨a4, c4, rfl, hs4, ho4⟩; have hz4 := HS2.out.size; have HS4 := Lib.hid ((HS2.out.alloc hz4 _).trans (since_mono hs4 (HS2.out.alloc hz4 _).size)); have HO4 := Lib.hid ho4; clear hs4 ho4))
      go_ret2
      exact ⟨_, _, rfl, HS4.out, HO4.out.mono (by simp; omega) (Nat.le_refl _)⟩
    · rw [decide_eq_false hle] at hjb
      rw [hjb]
      have hg : decide ((10 : Int) < (N : Int) + (N2 : Int)) = true := by simp; omega
      clear hb1 hb2 hm hm2 hN hN2 ho ho2 hmm hjb hle
      go_enter Try.func32, Try.ntmps32
      go_wp2_with (first
        | (go_at_call 16; ((with_reducible refine (E.out).mono ?_); rintro e w1 ⟨rfl, hs1⟩; have HS1 := Lib.hid hs1; clear hs1))
        | (go_at_call 16; ((with_reducible refine (E2.out _ HS1.out).mono ?_); rintro e w2 ⟨rfl, hs2⟩; have HS2 := Lib.hid (HS1.out.trans (since_mono hs2 HS1.out.size)); clear hs2)))
      go_ret2
      exact ⟨_, _, rfl, HS2.out, OwnC.nil _ _ _ _⟩
  · have hj : joinB n cs ds = false := by rw [hjb]; cases b1 <;> cases b2 <;> simp at hbb ⊢
    rw [hj]
    clear hb1 hb2 hm hm2 hN hN2 hjb hj
    cases b1 <;> cases b2
    case true.true => exact absurd ⟨rfl, rfl⟩ hbb
    all_goals
      clear hbb
      go_enter Try.func32, Try.ntmps32
      go_wp2_with (first
        | (go_at_call 16; ((with_reducible refine (E.out).mono ?_); rintro e w1 ⟨rfl, hs1⟩; have HS1 := Lib.hid hs1; clear hs1))
        | (go_at_call 16; ((with_reducible refine (E2.out _ HS1.out).mono ?_); rintro e w2 ⟨rfl, hs2⟩; have HS2 := Lib.hid (HS1.out.trans (since_mono hs2 HS1.out.size)); clear hs2)))
      go_ret2
      first
        | exact ⟨_, _, rfl, HS2.out, OwnC.nil _ _ _ _⟩
        | exact ⟨_, _, rfl, HS1.out, OwnC.nil _ _ _ _⟩

end Go.Proofs.Ytdodchmelepkeaa
