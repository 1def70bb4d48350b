import Derived.Test.YtdbomnhlgaohaaaUnitSpec
import Derived.Test.YtdbomnhlgaohaaaOwnR
import Derived.Test.YtdbomnhlgaohaaaDraw0
import Derived.Deep.QuietTactic
import Derived.Deep.AppendLies
import Derived.Deep.RegionHeld3
import Derived.Test.YtdbomnhlgaohaaaChainS
import Derived.Test.YtdbomnhlgaohaaaChainR
import Derived.Test.YtdbomnhlgaohaaaMakeR
import Derived.Test.YtdbomnhlgaohaaaChainI
import Derived.Test.YtdbomnhlgaohaaaMakeImplR
import Derived.Test.YtdbomnhlgaohaaaUnitImpl
import Derived.Test.YtdbomnhlgaohaaaRows
import Derived.Test.YtdbomnhlgaohaaaData
import Derived.ProofKit
import Derived.Deep.Matrix

section
namespace Go.Proofs.Ytdbomnhlgaohaaa
open Go.RowKit Go.Deep

set_option maxRecDepth 100000 in
set_option maxHeartbeats 1000000 in
theorem lawChainTable_aux (a0 : Option Addr) (cap0 n0 : Nat) (l0 : List Int) (ok : Bool) (M : List (List Int)) (w : World) (hn0 : l0.length = n0) (h630 : n0 ≤ 9223372036854775807) (hm0 : RowR w a0 l0) (hM : szL M ≤ 1048576)
    (hspec : ∀ (W : World) (b0 : Option Addr), n0 ≤ 1048576 → RowR W b0 l0 → Calls Try.prog 20 #[.slice b0 n0 n0] W (fun e w' => ∃ a cap, e = .returned (.tuple #[.slice a M.length cap, .bool ok]) ∧ W.Since W.heap.size w' ∧ InT W.heap.size w'.heap.size w' a M))
    (himpl : ∀ (W : World) (b0 : Option Addr), n0 ≤ 1048576 → RowR W b0 l0 → Calls Try.prog 19 #[.slice b0 n0 n0] W (fun e w' => ∃ a cap, e = .returned (.tuple #[.slice a M.length cap, .bool ok]) ∧ W.Since W.heap.size w' ∧ OwnT W.heap.size w'.heap.size w' a M)) :
    Calls Try.prog 9 #[.slice a0 n0 cap0] w fun e w' => e = .returned (.bool true) ∧ w.Since w.heap.size w' := by
  have HN0 := Lib.hid hn0
  have HM0 := Lib.hid hm0
  obtain ⟨q, hq⟩ : ∃ q, M.length = q := ⟨_, rfl⟩
  rw [hq] at hspec himpl
  have HQ := Lib.hid hq
  have hrl : ∀ r, r < M.length → (M.getD r []).length ≤ 9223372036854775807 := fun r hr => by have := row_le M hr; unfold szL at hM; omega
  have HRL := Lib.hid hrl
  have h63q : q ≤ 9223372036854775807 := by unfold szL at hM; omega
  have hsq : sumTo M q ≤ 1048576 := by rw [← hq]; unfold szL at hM; omega
  have HSPEC := Lib.hid hspec
  have HIMPL := Lib.hid himpl
  clear hspec himpl hq hrl hn0 hm0
  by_cases hbig0 : 1048576 < n0
  · have hb' : decide ((1048576 : Int) < (n0 : Int)) = true := by simp; omega
    go_enter Try.func9, Try.ntmps9
    go_wp2
    go_ret
    exact ⟨rfl, World.Since.refl _ _⟩
  have hb0 : decide ((1048576 : Int) < (n0 : Int)) = false := by simp; omega
  have hn0m : n0 ≤ 1048576 := by omega
  have HCP0 := Lib.hid (fun (W : World) (hs : w.Since w.heap.size W) => toIntR_any a0 cap0 n0 l0 W HN0.out hn0m (HM0.out.since hs))
  go_enter Try.func9, Try.ntmps9
  have s0 : w.Since w.heap.size w := World.Since.refl _ _
  go_wp2_with fail
  refine (HCP0.out _ s0).mono ?_
  rintro e w1 ⟨rfl, t1, o1⟩
  have s1 : w.Since w.heap.size w1 := s0.trans (since_mono t1 s0.size)
  have z1 := t1.size
  go_wp2_with fail
  refine (HSPEC.out _ _ hn0m o1.rowR).mono ?_
  rintro e w2 ⟨vgw, cpgw, rfl, t2, gw⟩
  have s2 : w.Since w.heap.size w2 := s1.trans (since_mono t2 s1.size)
  have z2 := t2.size
  replace o1 := o1.since t2
  clear o1
  go_wp2_with fail
  refine (HCP0.out _ s2).mono ?_
  rintro e w3 ⟨rfl, t3, o3⟩
  have s3 : w.Since w.heap.size w3 := s2.trans (since_mono t3 s2.size)
  have z3 := t3.size
  replace gw := gw.since t3
  have gx0 := o3
  clear o3
  go_wp2_with fail
  refine (HIMPL.out _ _ hn0m gx0.rowR).mono ?_
  rintro e w4 ⟨vgg, cpgg, rfl, t4, gg⟩
  have s4 : w.Since w.heap.size w4 := s3.trans (since_mono t4 s3.size)
  have z4 := t4.size
  replace gw := gw.since t4
  replace gx0 := gx0.since t4
  cases ok
  all_goals
    go_wp2_with fail
    refine (eqIntSS_same _ _ _ _ _ M _ HQ.out h63q HRL.out gg.matR gw.matR).mono ?_
    rintro e w5 ⟨rfl, d5⟩
    have t5 := d5.since w4.heap.size
    clear d5
    have s5 : w.Since w.heap.size w5 := s4.trans (since_mono t5 s4.size)
    have z5 := t5.size
    replace gw := gw.since t5
    replace gx0 := gx0.since t5
    replace gg := gg.since t5
    go_wp2_with fail
    refine (HCP0.out _ s5).mono ?_
    rintro e w6 ⟨rfl, t6, o6⟩
    have s6 : w.Since w.heap.size w6 := s5.trans (since_mono t6 s5.size)
    have z6 := t6.size
    replace gw := gw.since t6
    replace gx0 := gx0.since t6
    replace gg := gg.since t6
    go_wp2_with fail
    refine (eqIntS_same _ _ _ _ _ l0 _ HN0.out h630 gx0.rowR o6.rowR).mono ?_
    rintro e w7 ⟨rfl, d7⟩
    have t7 := d7.since w6.heap.size
    clear d7
    have s7 : w.Since w.heap.size w7 := s6.trans (since_mono t7 s6.size)
    have z7 := t7.size
    replace gw := gw.since t7
    replace gx0 := gx0.since t7
    replace gg := gg.since t7
    replace o6 := o6.since t7
    clear o6
    go_wp2_with fail
    refine (markR_any _ w2.heap.size w3.heap.size _ _ _ l0 _ HN0.out (by omega) (by omega) gx0).mono ?_
    rintro e w8 ⟨rfl, m8, f8, zz⟩
    clear zz
    clear gx0
    have gx0 := m8
    clear m8
    have s8 : w.Since w.heap.size w8 := s7.trans (f8.since (by omega) (by omega))
    have z8 := f8.size
    replace gw := gw.frame f8 (by omega)
    replace gg := gg.frame f8 (by omega)
    go_wp2_with fail
    refine (eqIntSS_same _ _ _ _ _ M _ HQ.out h63q HRL.out gg.matR gw.matR).mono ?_
    rintro e w9 ⟨rfl, d9⟩
    have t9 := d9.since w8.heap.size
    clear d9
    have s9 : w.Since w.heap.size w9 := s8.trans (since_mono t9 s8.size)
    have z9 := t9.size
    replace gw := gw.since t9
    replace gx0 := gx0.since t9
    replace gg := gg.since t9
    clear gx0
    go_wp2_with fail
    refine (markIntSS_any _ w3.heap.size w4.heap.size _ _ _ M _ HQ.out hM (by omega) (by omega) gg).mono ?_
    rintro e w10 ⟨rfl, m10, f10, zz⟩
    clear zz
    clear gg
    have gg := m10
    clear m10
    have s10 : w.Since w.heap.size w10 := s9.trans (f10.since (by omega) (by omega))
    have z10 := f10.size
    replace gw := gw.frame f10 (by omega)
    go_wp2_with fail
    refine (heldIntSS_any _ _ _ 1 M _ HQ.out hM (by omega) (by omega) gg.matR).mono ?_
    rintro e w11 ⟨rfl, rfl⟩
    go_wp2_with fail
    refine (HCP0.out _ s10).mono ?_
    rintro e w11 ⟨rfl, t11, o11⟩
    have s11 : w.Since w.heap.size w11 := s10.trans (since_mono t11 s10.size)
    have z11 := t11.size
    replace gw := gw.since t11
    replace gg := gg.since t11
    go_wp2_with fail
    refine (HIMPL.out _ _ hn0m o11.rowR).mono ?_
    rintro e w12 ⟨vgh, cpgh, rfl, t12, gh⟩
    have s12 : w.Since w.heap.size w12 := s11.trans (since_mono t12 s11.size)
    have z12 := t12.size
    replace gw := gw.since t12
    replace gg := gg.since t12
    replace o11 := o11.since t12
    clear o11
    go_wp2_with fail
    refine (eqIntSS_same _ _ _ _ _ M _ HQ.out h63q HRL.out gh.matR gw.matR).mono ?_
    rintro e w13 ⟨rfl, d13⟩
    have t13 := d13.since w12.heap.size
    clear d13
    have s13 : w.Since w.heap.size w13 := s12.trans (since_mono t13 s12.size)
    have z13 := t13.size
    replace gw := gw.since t13
    replace gg := gg.since t13
    replace gh := gh.since t13
    go_wp2_with fail
    refine (heldIntSS_any _ _ _ 1 M _ HQ.out hM (by omega) (by omega) gg.matR).mono ?_
    rintro e w14 ⟨rfl, rfl⟩
    go_wp2
    go_ret
    exact ⟨rfl, s13⟩

end Go.Proofs.Ytdbomnhlgaohaaa
end

section
namespace Go.Proofs.Ytdbomnhlgaohaaa
open Go.RowKit Go.Deep

theorem grown_drewN {a b : World} {row : Option Nat} (h : a.grownBy b row) (q : Nat) : a.grownBy (b.drewN q) row := ⟨h.os, h.tape, h.output, h.size, h.block⟩
theorem xor_i64_nat (a b : Nat) (ha : a < 2 ^ 62) (hb : b < 2 ^ 62) : bits .xor .i64 (a : Int) (b : Int) = ((a ^^^ b : Nat) : Int) := by
  have hx : a ^^^ b < 2 ^ 62 := Nat.xor_lt_two_pow ha hb
  have h1 : (BitVec.ofInt 64 (a : Int)).toNat = a := by
    rw [BitVec.ofInt_natCast, BitVec.toNat_ofNat]; exact Nat.mod_eq_of_lt (by omega)
  have h2 : (BitVec.ofInt 64 (b : Int)).toNat = b := by
    rw [BitVec.ofInt_natCast, BitVec.toNat_ofNat]; exact Nat.mod_eq_of_lt (by omega)
  show IntKind.i64.wrap ((BitVec.ofInt 64 (a : Int) ^^^ BitVec.ofInt 64 (b : Int)).toNat : Int) = _
  rw [BitVec.toNat_xor, h1, h2]
  exact IntWalk.i64_in _ ⟨by omega, by omega⟩

set_option maxRecDepth 100000 in
set_option maxHeartbeats 2000000 in
theorem pick_any (w0 w : World) (G n c p : Nat) (a : Option Addr) (m : Int) (h : RD w0 w G a n c 72 p) (hp : p ≤ 100000) :
    Calls Try.prog 60 #[.pointer (some ⟨G, 0, none⟩), .int .i64 m] w fun e w' => ∃ x : Nat, e = .returned (.int .i64 x) ∧ ((x : Int) < m ∨ x = 0) ∧ w.grownBy w' (some G) ∧ RD w0 w' G a n c 72 (p + 1) := by
  have e0 := h.cell0
  have e1 := h.cell1
  have e2 := h.free1
  have hs := h.set (p + 1)
  have hwp : IntKind.i64.wrap ((p : Int) + 1) = (p : Int) + 1 := IntWalk.i64_in _ ⟨by omega, by omega⟩
  have hc : ((p + 1 : Nat) : Int) = (p : Int) + 1 := by omega
  have hgr : w.grownBy (w.setCell ⟨G, 1, none⟩ (.int .i64 (p + 1 : Nat))) (some G) := ⟨rfl, rfl, rfl, by simp, fun k _ hk => Below.heap_setCell _ _ _ _ (fun e => hk (by rw [e]))⟩
  rw [hc] at hs hgr
  have s0 := hs.cell0
  have s1 := hs.cell1
  rw [hc] at s1
  have hsm := hs.small
  have hbb := hs.bytes.since hs.since
  have HS := Lib.hid hs
  have HG := Lib.hid hgr
  have HB := Lib.hid hbb
  clear hs hgr h hbb hc
  by_cases hm : m < 1
  · go_enter Try.func60, Try.ntmps60
    go_wp2
    go_wp2
    go_ret
    exact ⟨0, rfl, .inr rfl, HG.out, HS.out⟩
  · obtain ⟨M, rfl⟩ := Int.eq_ofNat_of_zero_le (show 0 ≤ m by omega)
    have hM1 : 1 ≤ M := by omega
    have hd : decide ((M : Int) < 1) = false := by simp; omega
    by_cases hn : n = 0
    · subst hn
      go_enter Try.func60, Try.ntmps60
      go_wp2
      go_wp2
      go_ret
      exact ⟨0, rfl, .inr rfl, HG.out, HS.out⟩
    · have hn1 : 1 ≤ n := by omega
      have hnb : ((n : Int) == 0) = false := by simp; omega
      obtain ⟨b, o, rfl, hb⟩ := HB.out (by omega)
      have hwm : IntKind.i64.wrap ((p : Int) + 1 - 1) = (p : Int) := by rw [show (p : Int) + 1 - 1 = p by omega]; exact IntWalk.i64_in _ ⟨by omega, by omega⟩
      by_cases hlt : p < n
      · obtain ⟨z, hz, hzc⟩ := hb p hlt
        have hl : decide ((p : Int) < n) = true := by simp; omega
        clear hb
        go_enter Try.func60, Try.ntmps60
        go_wp2
        go_ret
        exact ⟨z % M, rfl, .inl (by have := Nat.mod_lt z hM1; omega), HG.out, HS.out⟩
      · have hl : decide ((p : Int) < n) = false := by simp; omega
        obtain ⟨q1, hq1, hql1⟩ : ∃ q : Nat, (p : Int) % (n : Int) = q ∧ q < n := ⟨p % n, (Int.natCast_emod p n).symm, Nat.mod_lt _ (by omega)⟩
        obtain ⟨q2, hq2, hql2⟩ : ∃ q : Nat, ((p : Int) * 7 + 3) % (n : Int) = q ∧ q < n := ⟨(p * 7 + 3) % n, by rw [Int.natCast_emod]; simp, Nat.mod_lt _ (by omega)⟩
        obtain ⟨dd, hdd, hdl⟩ : ∃ q : Nat, (p : Int) / (n : Int) = q ∧ q ≤ p := ⟨p / n, (Int.natCast_ediv p n).symm, Nat.div_le_self _ _⟩
        obtain ⟨z1, hz1, hzc1⟩ := hb q1 hql1
        obtain ⟨z2, hz2, hzc2⟩ := hb q2 hql2
        clear hb
        have w1 : IntKind.i64.wrap ((p : Int) * 7) = (p : Int) * 7 := IntWalk.i64_in _ ⟨by omega, by omega⟩
        have w2 : IntKind.i64.wrap ((p : Int) * 7 + 3) = (p : Int) * 7 + 3 := IntWalk.i64_in _ ⟨by omega, by omega⟩
        have w3 : IntKind.i64.wrap ((z1 : Int) * 131) = (z1 : Int) * 131 := IntWalk.i64_in _ ⟨by omega, by omega⟩
        have w4 : IntKind.i64.wrap ((z2 : Int) * 1117) = (z2 : Int) * 1117 := IntWalk.i64_in _ ⟨by omega, by omega⟩
        have w5 : IntKind.i64.wrap ((z1 : Int) * 131 + (z2 : Int) * 1117) = (z1 : Int) * 131 + (z2 : Int) * 1117 := IntWalk.i64_in _ ⟨by omega, by omega⟩
        have w6 : IntKind.i64.wrap ((p : Int) * 29) = (p : Int) * 29 := IntWalk.i64_in _ ⟨by omega, by omega⟩
        have w7 : IntKind.i64.wrap ((z1 : Int) * 131 + (z2 : Int) * 1117 + (p : Int) * 29) = (z1 : Int) * 131 + (z2 : Int) * 1117 + (p : Int) * 29 := IntWalk.i64_in _ ⟨by omega, by omega⟩
        have w8 : IntKind.i64.wrap ((dd : Int) * 53) = (dd : Int) * 53 := IntWalk.i64_in _ ⟨by omega, by omega⟩
        have w9 : IntKind.i64.wrap ((z1 : Int) * 131 + (z2 : Int) * 1117 + (p : Int) * 29 + (dd : Int) * 53) = (z1 : Int) * 131 + (z2 : Int) * 1117 + (p : Int) * 29 + (dd : Int) * 53 := IntWalk.i64_in _ ⟨by omega, by omega⟩
        go_enter Try.func60, Try.ntmps60
        go_wp2
        go_quiet (fail)
        obtain ⟨X, hX⟩ : ∃ X : Nat, (z1 : Int) * 131 + (z2 : Int) * 1117 + (p : Int) * 29 + (dd : Int) * 53 = X := ⟨z1 * 131 + z2 * 1117 + p * 29 + dd * 53, by omega⟩
        have hx : bits .xor .i64 (X : Int) ((X : Int) / 64) = ((X ^^^ X / 64 : Nat) : Int) := by
          rw [show ((X : Int) / 64) = ((X / 64 : Nat) : Int) by omega]
          exact xor_i64_nat _ _ (by omega) (by omega)
        obtain ⟨y, hy⟩ : ∃ y : Nat, bits .xor .i64 (X : Int) ((X : Int) / 64) = y := ⟨_, hx⟩
        clear hx
        go_wp2
        go_ret
        exact ⟨y % M, rfl, .inl (by have := Nat.mod_lt y hM1; omega), grown_drewN HG.out nq, HS.out.later (since_drewN (World.Since.refl _ _) nq)⟩

end Go.Proofs.Ytdbomnhlgaohaaa
end

section
namespace Go.Proofs.Ytdbomnhlgaohaaa
open Go.RowKit Go.Deep

theorem grown_new {a b c : World} {G : Nat} {row : Option Nat} (h : a.grownBy b (some G)) (k : b.grownBy c row) (hr : ∀ i, row = some i → a.heap.size ≤ i) : a.grownBy c (some G) :=
  ⟨k.os.trans h.os, k.tape.trans h.tape, k.output.trans h.output, Nat.le_trans h.size k.size, fun i hi hn => (k.block i (Nat.lt_of_lt_of_le hi h.size) (fun e => by have := hr i e.symm; omega)).trans (h.block i hi hn)⟩
theorem grown_alloc {a b : World} {G : Nat} (h : a.grownBy b (some G)) (o : Obj) : a.grownBy (b.alloc o) (some G) := grown_new h (World.grownBy_alloc b o none) (fun i e => by cases e)
theorem grown_set {a b : World} {G : Nat} (h : a.grownBy b (some G)) {g k : Nat} (hg : a.heap.size ≤ g) (v : Value) : a.grownBy (b.setCell ⟨g, k, none⟩ v) (some G) :=
  grown_new h (row := some g) ⟨rfl, rfl, rfl, by simp, fun i _ hi => Below.heap_setCell _ _ _ _ (fun e => hi (by rw [e]))⟩ (fun i e => by cases e; exact hg)
theorem cell_grown {a b : World} {G : Nat} {p : Addr} {v : Value} (h : a.cell? p = some v) (hg : a.grownBy b (some G)) (hp : p.block ≠ G) : b.cell? p = some v := hg.cell h (fun e => hp (by injection e))
theorem cell_set_far {w : World} {g j : Nat} {v : Value} {p : Addr} {u : Value} (h : w.cell? p = some u) (hne : p.block ≠ g) : (w.setCell ⟨g, j, none⟩ v).cell? p = some u := by
  rw [World.cell?_setCell_other _ _ _ _ (fun e => hne (by rw [← e]))]; exact h

theorem wpList_append_int {P : Program} (w : World) {ops : Array Oper} {rest : List Oper} {o : Oper} {a : Act} {Q : Exit → Act → World → Prop} (hgd : o.guard = none) (s x : Operand) (t : TypeId)
    (ho : o.op = .call { callee := .builtin .append, args := #[s, x], argTypes := #[t, t] }) (B : Nat) (i : TypeInfo) (ht : P.underlying t = some (.slice 3)) (hi : P.info? 3 = some i) (hz : i.zero = some (.int .i64 0)) (hsz : i.size = 1) (hby : i.bytes = 8)
    (v : Value) (xs : List Int) (hs : a.eval s = v) (h : RW B w v xs) (y : Int) (hx : a.eval x = .slice (some ⟨w.heap.size, 0, none⟩) 1 1) (hlen : xs.length ≤ 1000) (hB : B ≤ w.heap.size)
    (hK : ∀ v' w', RW B w' v' (xs ++ [y]) → w.grownBy w' v.ownBlock → wpList P ops Q rest (a.put o.dst v') w') : wpList P ops Q (o :: rest) a (w.alloc (.cells #[.int .i64 y] 3)) := by
  refine wpList_append_own _ hgd s x t ho B 3 i (.int .i64 0) 1 8 ht hi hz hsz hby rfl (by decide) v xs.length (xs.map (Value.int .i64)) hs (World.ownsRow.alloc h _) ⟨w.heap.size, 0, none⟩ 1 1 [.int .i64 y] hx rfl (cell_one_at _ _ _ rfl) (fun u hu => by simp at hu; subst hu; rfl) (by unfold maxLen; omega) (by omega) (by simp; omega) ?_
  intro v' w' hown hg _
  refine hK v' w' ?_ ⟨hg.os, hg.tape, hg.output, by have := hg.size; simp at this; omega, fun j hj hn => (hg.block j (by simp; omega) hn).trans (Below.heap_alloc _ _ _ hj)⟩
  unfold RW
  rw [List.length_append, List.map_append]
  exact hown

theorem wpList_append_row {P : Program} (w : World) {ops : Array Oper} {rest : List Oper} {o : Oper} {a : Act} {Q : Exit → Act → World → Prop} (hgd : o.guard = none) (s x : Operand) (t : TypeId)
    (ho : o.op = .call { callee := .builtin .append, args := #[s, x], argTypes := #[t, t] }) (B B' : Nat) (i : TypeInfo) (ht : P.underlying t = some (.slice 23)) (hi : P.info? 23 = some i) (hz : i.zero = some (.slice none 0 0)) (hsz : i.size = 1) (hby : i.bytes = 24)
    (v : Value) (l : List (List Int)) (A : Nat → Option Addr) (C : Nat → Nat) (hs : a.eval s = v) (h : BD B w v l A C) (g cp m : Nat) (y : List Int) (hy : y.length = m) (h0 : 0 < m) (hr : RW B' w (.slice (some ⟨g, 0, none⟩) m cp) y) (hfresh : ∀ r, r < l.length → A r ≠ some ⟨g, 0, none⟩)
    (hBB : B ≤ B') (hx : a.eval x = .slice (some ⟨w.heap.size, 0, none⟩) 1 1) (hlen : l.length ≤ 1000) (hB : B ≤ w.heap.size)
    (hK : ∀ v' w' A' C', BD B w' v' (l ++ [y]) A' C' → w.grownBy w' v.ownBlock → wpList P ops Q rest (a.put o.dst v') w') : wpList P ops Q (o :: rest) a (w.alloc (.cells #[.slice (some ⟨g, 0, none⟩) m cp] 23)) := by
  subst hy
  refine wpList_append_own _ hgd s x t ho B 23 i (.slice none 0 0) 1 24 ht hi hz hsz hby rfl (by decide) v l.length _ hs (h.own.alloc _) ⟨w.heap.size, 0, none⟩ 1 1 [.slice (some ⟨g, 0, none⟩) y.length cp] hx rfl (cell_one_at _ _ _ rfl) (fun u hu => by simp at hu; subst hu; rfl) (by unfold maxLen; omega) (by omega) (by simp; omega) ?_
  intro v' w' hown hg _
  refine hK v' w' _ _ (h.push h0 (hr.base hBB) hfresh hown hg) ⟨hg.os, hg.tape, hg.output, by have := hg.size; simp at this; omega, fun j hj hn => (hg.block j (by simp; omega) hn).trans (Below.heap_alloc _ _ _ hj)⟩

end Go.Proofs.Ytdbomnhlgaohaaa
end

section
namespace Go.Proofs.Ytdbomnhlgaohaaa
open Go.RowKit Go.Deep

theorem RW.set' {B : Nat} {w : World} {g cap k m : Nat} {x : List Int} (hm : x.length = m) (h : RW B w (.slice (some ⟨g, 0, none⟩) m cap) x) (hk : k < m) (y : Int) : RW B (w.setCell ⟨g, k, none⟩ (.int .i64 y)) (.slice (some ⟨g, 0, none⟩) m cap) (x.set k y) := by
  subst hm; exact h.set hk y
theorem RW.rowB {B : Nat} {w : World} {g k cap : Nat} {x : List Int} (h : RW B w (.slice (some ⟨g, 0, none⟩) k cap) x) (h0 : 0 < x.length) : B ≤ g ∧ RowB w g x := by
  obtain ⟨g', cap', e, h1, h2⟩ := h.form h0
  injection e with e
  injection e with e
  injection e with e
  subst e
  exact ⟨h1, h2⟩
theorem grown_set_any (w : World) (g k : Nat) (v : Value) : w.grownBy (w.setCell ⟨g, k, none⟩ v) (some g) := ⟨rfl, rfl, rfl, by simp, fun i _ hi => Below.heap_setCell _ _ _ _ (fun e => hi (by rw [e]))⟩
theorem grown_undrew' {W w' : World} {row : Option Nat} (h : W.drew.grownBy w' row) : W.grownBy w' row := ⟨h.os, h.tape, h.output, h.size, h.block⟩
theorem lens_snoc {l : List (List Int)} {x : List Int} {r m : Nat} (hl : l.length = r) (h : ∀ j, j < r → (l.getD j []).length = m) (hx : x.length = m) : ∀ j, j < r + 1 → ((l ++ [x]).getD j []).length = m := by
  intro j hj
  by_cases e : j = r
  · subst e; subst hl; simpa [List.getD] using hx
  · rw [show (l ++ [x]).getD j [] = l.getD j [] by simp [List.getD, List.getElem?_append_left (show j < l.length by omega)]]
    exact h j (by omega)

end Go.Proofs.Ytdbomnhlgaohaaa
end

section
namespace Go.Proofs.Ytdbomnhlgaohaaa
open Go.RowKit Go.Deep

theorem BD.inT {B : Nat} {w : World} {v : Value} {l : List (List Int)} {A : Nat → Option Addr} {C : Nat → Nat} (h : BD B w v l A C) : ∃ a cap, v = .slice a l.length cap ∧ InT B w.heap.size w a l := by
  by_cases h0 : 0 < l.length
  · obtain ⟨b, cap, cur, e, hb, hg, hc⟩ := h.top h0
    refine ⟨_, cap, e, fun _ => ⟨b, 0, A, fun r => ((A r).getD default).block, fun _ => 0, C, rfl, ⟨hb, (Array.getElem?_eq_some_iff.1 hg).1⟩, fun r hr => ⟨?_, fun h1 => ?_⟩⟩⟩
    · rw [Nat.zero_add]; simp [World.cell?, hg, hc r hr]
    · obtain ⟨g, e, hB, hw⟩ := h.row hr
      have e' : ((A r).getD default).block = g := by rw [e]; rfl
      dsimp only
      rw [e']
      exact ⟨e, ⟨hB, hw.lt⟩, fun i hi => by rw [Nat.zero_add]; exact hw.cell hi⟩
  · rcases h.own.2 with ⟨hv, hn⟩ | ⟨g, cap, cur, e, _⟩
    · exact ⟨none, 0, by rw [hv, hn], fun h => absurd h h0⟩
    · exact ⟨_, cap, e, fun h => absurd h h0⟩

theorem BD.row_ne {B : Nat} {w : World} {l : List (List Int)} {A : Nat → Option Addr} {C : Nat → Nat} {b cap n : Nat} (h : BD B w (.slice (some ⟨b, 0, none⟩) n cap) l A C) {g : Nat} {x : List Int} (hw : RowB w g x) : g ≠ b := by
  rintro rfl
  obtain ⟨cs, hc, _⟩ := hw
  rcases h.own.2 with ⟨e, _⟩ | ⟨g', cap', cur, e, _, hgg, _⟩
  · cases e
  · injection e with e
    injection e with e
    injection e with e
    rw [← e, hc] at hgg
    injection hgg with hgg
    injection hgg with _ e2 _
    exact absurd e2 (by decide)

theorem BD.addr_ne {B : Nat} {w : World} {v : Value} {l : List (List Int)} {A : Nat → Option Addr} {C : Nat → Nat} (h : BD B w v l A C) {r j g g' : Nat} (hr : r < l.length) (hj : j < l.length) (hA : A r = some ⟨g, 0, none⟩) (hA' : A j = some ⟨g', 0, none⟩) (hne : j ≠ r) : g' ≠ g := by
  rintro rfl
  exact hne (h.apart j r hj hr (by rw [hA, hA']))

theorem BD.cellTop {B : Nat} {w : World} {l : List (List Int)} {A : Nat → Option Addr} {C : Nat → Nat} {b cap n : Nat} (h : BD B w (.slice (some ⟨b, 0, none⟩) n cap) l A C) {r : Nat} (hr : r < l.length) :
    w.cell? ⟨b, r, none⟩ = some (.slice (A r) (l.getD r []).length (C r)) ∧ w.frozen? ⟨b, r, none⟩ = false ∧ b < w.heap.size := by
  obtain ⟨b', cp', cur, hv, _, hcur, hc⟩ := h.top (by omega)
  injection hv with hv _ _
  injection hv with hv
  injection hv with hv
  subst hv
  exact ⟨by simp [World.cell?, hcur, hc r hr], by simp [World.frozen?, hcur], (Array.getElem?_eq_some_iff.1 hcur).1⟩

theorem BD.setRow {B : Nat} {w w5 : World} {l : List (List Int)} {A : Nat → Option Addr} {C : Nat → Nat} {b cap n : Nat} (h : BD B w (.slice (some ⟨b, 0, none⟩) n cap) l A C) {r g : Nat} (hr : r < l.length) (hA : A r = some ⟨g, 0, none⟩) (hg : w.grownBy w5 (some g)) {g2 cp k : Nat} {y : List Int}
    (hy : RW B w5 (.slice (some ⟨g2, 0, none⟩) k cp) y) (hk : y.length = k) (h0 : 0 < k) : InT B w5.heap.size (w5.setCell ⟨b, r, none⟩ (.slice (some ⟨g2, 0, none⟩) k cp)) (some ⟨b, 0, none⟩) (l.set r y) := by
  subst hk
  obtain ⟨b', cap', cur, e, hb, hcur, hc⟩ := h.top (by omega)
  injection e with e en _
  injection e with e
  injection e with e
  subst e
  obtain ⟨g', hA', hBg, hrb⟩ := h.row hr
  rw [hA] at hA'
  injection hA' with hA'
  injection hA' with hA'
  subst hA'
  have hgb := h.row_ne hrb
  have hbl : b < w.heap.size := (Array.getElem?_eq_some_iff.1 hcur).1
  have hcur5 : w5.heap[b]? = some (.cells cur 23 (0, 0)) := (hg.block b hbl (fun e => by injection e with e; omega)).trans hcur
  obtain ⟨hB2, hrb2⟩ := hy.rowB h0
  have hg2b : g2 ≠ b := by
    rintro rfl
    obtain ⟨cs, h1, _⟩ := hrb2
    rw [h1] at hcur5
    injection hcur5 with h2
    injection h2 with _ h2 _
    exact absurd h2 (by decide)
  have hbl5 : b < w5.heap.size := (Array.getElem?_eq_some_iff.1 hcur5).1
  intro _
  refine ⟨b, 0, fun j => if j = r then some ⟨g2, 0, none⟩ else A j, fun j => if j = r then g2 else ((A j).getD default).block, fun _ => 0, fun j => if j = r then cp else C j, rfl, ⟨hb, hbl5⟩, fun j hj => ?_⟩
  rw [List.length_set] at hj
  show (w5.setCell ⟨b, r, none⟩ _).cell? ⟨b, 0 + j, none⟩ = _ ∧ _
  rw [Nat.zero_add]
  by_cases ej : j = r
  · subst ej
    have e1 : (l.set j y).getD j [] = y := by simp [List.getD, hj]
    rw [e1]
    simp only [↓reduceIte]
    refine ⟨World.cell?_setCell_same' _ _ _ (by simp [World.cell?, hcur5, hc j hj]), fun _ => ⟨trivial, ⟨hB2, hrb2.lt⟩, fun i hi => ?_⟩⟩
    rw [Nat.zero_add]
    exact cell_set_far (hrb2.cell hi) hg2b
  · have e1 : (l.set r y).getD j [] = l.getD j [] := by simp [List.getD, List.getElem?_set_ne (Ne.symm ej)]
    rw [e1]
    simp only [if_neg ej]
    obtain ⟨gj, hAj, hBj, hrbj⟩ := h.row hj
    have hgj := h.addr_ne hr hj hA hAj ej
    have hrb5 : RowB w5 gj (l.getD j []) := hrbj.of_block (hg.block gj hrbj.lt (fun e => by injection e with e; omega))
    have hgjb := h.row_ne hrbj
    refine ⟨?_, fun _ => ?_⟩
    · rw [World.cell?_setCell_other _ _ _ _ (fun e => ej (by injection e with _ e; exact e.symm))]
      simp [World.cell?, hcur5, hc j hj]
    · have e' : ((A j).getD default).block = gj := by rw [hAj]; rfl
      rw [e']
      exact ⟨hAj, ⟨hBj, hrb5.lt⟩, fun i hi => by rw [Nat.zero_add]; exact cell_set_far (hrb5.cell hi) hgjb⟩

theorem BD.setNum {B : Nat} {w : World} {l : List (List Int)} {A : Nat → Option Addr} {C : Nat → Nat} {b cap n : Nat} (h : BD B w (.slice (some ⟨b, 0, none⟩) n cap) l A C) {r g k : Nat} (hr : r < l.length) (hA : A r = some ⟨g, 0, none⟩) (hk : k < (l.getD r []).length) (z : Int) :
    InT B w.heap.size (w.setCell ⟨g, k, none⟩ (.int .i64 z)) (some ⟨b, 0, none⟩) (l.set r ((l.getD r []).set k z)) := by
  obtain ⟨b', cap', cur, e, hb, hcur, hc⟩ := h.top (by omega)
  injection e with e en _
  injection e with e
  injection e with e
  subst e
  obtain ⟨g', hA', hBg, hrb⟩ := h.row hr
  rw [hA] at hA'
  injection hA' with hA'
  injection hA' with hA'
  subst hA'
  have hgb := h.row_ne hrb
  intro _
  refine ⟨b, 0, A, fun j => ((A j).getD default).block, fun _ => 0, C, rfl, ⟨hb, (Array.getElem?_eq_some_iff.1 hcur).1⟩, fun j hj => ?_⟩
  rw [List.length_set] at hj
  show (w.setCell ⟨g, k, none⟩ _).cell? ⟨b, 0 + j, none⟩ = _ ∧ _
  rw [Nat.zero_add]
  have hlen : ((l.set r ((l.getD r []).set k z)).getD j []).length = (l.getD j []).length := by
    by_cases ej : j = r
    · subst ej; simp [List.getD, hj]
    · simp [List.getD, List.getElem?_set_ne (Ne.symm ej)]
  rw [hlen]
  refine ⟨cell_set_far (by simp [World.cell?, hcur, hc j hj]) (Ne.symm hgb), fun _ => ?_⟩
  obtain ⟨gj, hAj, hBj, hrbj⟩ := h.row hj
  have e' : ((A j).getD default).block = gj := by rw [hAj]; rfl
  dsimp only
  rw [e']
  refine ⟨hAj, ⟨hBj, hrbj.lt⟩, fun i hi => ?_⟩
  rw [Nat.zero_add]
  by_cases ej : j = r
  · subst ej
    rw [hA] at hAj
    injection hAj with hAj
    injection hAj with hAj
    subst hAj
    have e1 : (l.set j ((l.getD j []).set k z)).getD j [] = (l.getD j []).set k z := by simp [List.getD, hj]
    rw [e1]
    by_cases ei : i = k
    · subst ei
      rw [World.cell?_setCell_same' _ _ _ (by rw [hrbj.cell hi]; rfl)]
      simp [List.getD] at hi ⊢
      simp [hi]
    · rw [World.cell?_setCell_other _ _ _ _ (fun e => ei (by injection e with _ e; exact e.symm)), hrbj.cell hi]
      simp [List.getD, List.getElem?_set_ne (Ne.symm ei)]
  · have hgj := h.addr_ne hr hj hA hAj ej
    have e1 : (l.set r ((l.getD r []).set k z)).getD j [] = l.getD j [] := by simp [List.getD, List.getElem?_set_ne (Ne.symm ej)]
    rw [e1]
    exact cell_set_far (hrbj.cell hi) hgj

theorem InT.kept {lo hi : Nat} {w w' : World} {a : Option Addr} {l : List (List Int)} {G : Nat} (h : InT lo hi w a l) (hg : w.grownBy w' (some G)) (hG : G < lo) : InT lo hi w' a l :=
  h.frame (lo' := G) (hi' := G + 1) ⟨hg.os, hg.tape, hg.output, hg.size, fun k hk ho => hg.block k hk (fun e => by injection e with e; omega)⟩ (.inr (by omega))

end Go.Proofs.Ytdbomnhlgaohaaa
end

section
namespace Go.Proofs.Ytdbomnhlgaohaaa
open Go.RowKit Go.Deep

def Drawn0 (w w' : World) (R K : Nat) (a : Option Addr) (l : List (List Int)) : Prop :=
  1 ≤ l.length ∧ l.length ≤ R ∧ (∀ j, j < l.length → 1 ≤ (l.getD j []).length ∧ (l.getD j []).length ≤ K + 1) ∧ InT w.heap.size w'.heap.size w' a l

theorem lens_set {l : List (List Int)} {r : Nat} {y : List Int} {n m K : Nat} (hl : l.length = n) (h : ∀ j, j < n → (l.getD j []).length = m) (hm : 1 ≤ m ∧ m ≤ K) (hy : 1 ≤ y.length ∧ y.length ≤ K + 1) : ∀ j, j < (l.set r y).length → 1 ≤ ((l.set r y).getD j []).length ∧ ((l.set r y).getD j []).length ≤ K + 1 := by
  intro j hj
  rw [List.length_set] at hj
  by_cases e : j = r
  · subst e
    rw [show (l.set j y).getD j [] = y by simp [List.getD, hj]]
    exact hy
  · rw [show (l.set r y).getD j [] = l.getD j [] by simp [List.getD, List.getElem?_set_ne (Ne.symm e)], h j (by omega)]
    omega

end Go.Proofs.Ytdbomnhlgaohaaa
end

section
namespace Go.Proofs.Ytdbomnhlgaohaaa
open Go.RowKit Go.Deep

set_option maxHeartbeats 1000000 in
theorem l6Open_any (a : Option Addr) (nb cb : Nat) (w : World) (hc : nb ≤ cb) (h63 : cb ≤ 9223372036854775807) (hb : BytR w a nb) :
    Calls Try.prog 58 #[.slice a nb cb] w fun e w' => ∃ n' c', e = .returned (.pointer (some ⟨w.heap.size, 0, none⟩)) ∧ w.Since w.heap.size w' ∧ w'.heap.size = w.heap.size + 1 ∧ RD w w' w.heap.size a n' c' 72 0 := by
  by_cases hl : 2000 < nb
  · have hl' : decide ((2000 : Int) < (nb : Int)) = true := by simp; omega
    have h2 : (2000 : Int) ≤ (cb : Int) := by omega
    obtain ⟨b, o, rfl, hcell⟩ := hb (by omega)
    go_enter Try.func58, Try.ntmps58
    go_wp2
    go_ret
    exact ⟨_, _, rfl, (World.Since.refl _ _).alloc (Nat.le_refl _) _, by simp, ⟨heap_alloc_new _ _, Nat.le_refl _, (World.Since.refl _ _).alloc (Nat.le_refl _) _, fun _ => ⟨b, o, rfl, fun i hi => hcell i (by omega)⟩, by omega⟩⟩
  · have hl' : decide ((2000 : Int) < (nb : Int)) = false := by simp; omega
    go_enter Try.func58, Try.ntmps58
    go_wp2
    go_ret
    exact ⟨_, _, rfl, (World.Since.refl _ _).alloc (Nat.le_refl _) _, by simp, ⟨heap_alloc_new _ _, Nat.le_refl _, (World.Since.refl _ _).alloc (Nat.le_refl _) _, hb, by omega⟩⟩

def DrawnT (w w' : World) (R K : Nat) (a : Option Addr) (l : List (List Int)) : Prop :=
  1 ≤ l.length ∧ l.length ≤ R ∧ (∀ j, j < l.length → 1 ≤ (l.getD j []).length ∧ (l.getD j []).length ≤ K + 1) ∧ InT w.heap.size w'.heap.size w' a l

end Go.Proofs.Ytdbomnhlgaohaaa
end

section
namespace Go.Proofs.Ytdbomnhlgaohaaa
open Go.RowKit Go.Deep

end Go.Proofs.Ytdbomnhlgaohaaa
end

section
namespace Go.Proofs.Ytdbomnhlgaohaaa
open Go.RowKit Go.Deep

theorem RW.rowR {B : Nat} {w : World} {v : Value} {x : List Int} {j : Nat} (h : RW B w v x) (hx : x.length = j) : ∃ ax cx, v = .slice ax j cx ∧ RowR w ax x := by
  by_cases h0 : 0 < x.length
  · obtain ⟨g, cp, e, hge, hrb⟩ := h.form h0
    rw [hx] at e
    exact ⟨_, cp, e, fun _ => ⟨g, 0, rfl, fun i hi => by rw [Nat.zero_add]; exact hrb.cell hi⟩⟩
  · rcases h.2 with ⟨e, _⟩ | ⟨g, cp, cur, e, _⟩
    · exact ⟨none, 0, by rw [e]; congr 1; omega, fun h => absurd h h0⟩
    · rw [hx] at e
      exact ⟨_, cp, e, fun h => absurd h h0⟩

end Go.Proofs.Ytdbomnhlgaohaaa
end

section
namespace Go.Proofs.Ytdbomnhlgaohaaa
open Go.RowKit Go.Deep

set_option maxRecDepth 100000 in
set_option maxHeartbeats 2000000 in
theorem l92Numbers_any (w0 w : World) (G nb c p N : Nat) (a : Option Addr) (h : RD w0 w G a nb c 72 p) (hG : G < w.heap.size) (hN : N ≤ 13) (hp : p ≤ 90000) :
    Calls Try.prog 59 #[.pointer (some ⟨G, 0, none⟩), .int .i64 N] w fun e w' => ∃ ax cx x, e = .returned (.slice ax (List.length x) cx) ∧ x.length = N ∧ RowR w' ax x ∧ w.grownBy w' (some G) := by
  obtain ⟨i3, hi3⟩ := info3_parts
  have HJ := Lib.hid hi3
  have HD := Lib.hid h
  clear hi3 h
  go_enter Try.func59, Try.ntmps59
  go_wp2
  have HD3 := Lib.hid (HD.out.grown (World.grownBy_alloc w (.cells #[] 3) none) (fun k e => by cases e))
  have HG3 := Lib.hid (show w.grownBy (w.alloc (.cells #[] 3)) (some G) from grown_alloc (World.grownBy_refl w (some G)) (.cells #[] 3))
  have HW3 := Lib.hid (show RW w.heap.size (w.alloc (.cells #[] 3)) (.slice (some ⟨w.heap.size, 0, none⟩) 0 0) [] from World.ownsRow_made w #[] 0 (Nat.le_refl _) (Nat.zero_le _) rfl)
  go_loopg [5, 6] N (fun g v i wr => ∃ j p x, j ≤ N ∧ g = N - j ∧ i = .int .i64 (j : Nat) ∧ List.length x = j ∧ w.grownBy wr (some G) ∧ RD w0 wr G a nb c 72 p ∧ p ≤ 90000 + 2 * j ∧ RW w.heap.size wr v x)
  case atStart => exact ⟨0, p, [], Nat.zero_le _, rfl, rfl, rfl, HG3.out, HD3.out, by omega, HW3.out⟩
  case round =>
    obtain ⟨j, p, x, hj, rfl, rfl, hxl, hgi, hdi, hpp, hW⟩ := hrel
    clear HG3 HW3 HD HD3
    have HD := Lib.hid hdi
    have HG := Lib.hid hgi
    have HW := Lib.hid hW
    have hz4 := hgi.size
    clear hdi hgi hW
    by_cases hjN : j < N
    · go_wp2_with fail
      refine (pick_any w0 _ G nb c _ a _ HD.out (by omega)).mono ?_
      rintro e w4 ⟨z, rfl, hzz, hg4, hd4⟩
      have HW4 := Lib.hid (HW.out.kept hg4 (by omega))
      have HG4 := Lib.hid (grown_trans HG.out hg4)
      have HD4 := Lib.hid hd4
      have hz5 := HG4.out.size
      obtain ⟨u, hu⟩ : ∃ u : Int, IntKind.i64.wrap ((z : Int) - 3) = u := ⟨_, rfl⟩
      clear hg4 hd4
      go_wp2_with (at_builtin; (refine wpList_append_own _ rfl _ _ 23 rfl w.heap.size 3 i3 (.int .i64 0) 1 8 Try.underlying23 HJ.out.1 HJ.out.2.1 HJ.out.2.2.1 HJ.out.2.2.2 rfl (by decide) _ _ (x.map (Value.int .i64)) rfl (World.ownsRow.alloc HW4.out _) ⟨w4.heap.size, 0, none⟩ 1 1 [.int .i64 u] rfl rfl (cell_one_at _ _ _ rfl) (fun x hx => by simp at hx; subst hx; rfl) (by unfold maxLen; omega) (by omega) (by simp; omega) ?_); intro v' w5 hown' hgrow _)
      have HW5 := Lib.hid (show RW w.heap.size w5 v' (x ++ [u]) by
        have := hown'
        unfold RW
        rw [List.length_append, List.map_append]
        exact this)
      have hge := fun i e => (World.ownsRow.lt HW4.out i e).1
      have HD5 := Lib.hid ((HD4.out.grown (World.grownBy_alloc w4 (.cells #[.int .i64 u] 3) none) (fun k e => by cases e)).grown hgrow (fun i e => by have := hge i e; omega))
      have HG5 := Lib.hid (grown_new (grown_alloc HG4.out _) hgrow hge)
      clear hown' hgrow hge
      go_roundg (N - (j + 1))
      case measure => omega
      case rel => exact ⟨j + 1, _, x ++ [u], by omega, rfl, by go_num, by rw [List.length_append, hxl]; rfl, HG5.out, HD5.out, by omega, HW5.out⟩
    · have hjj : j = N := by omega
      subst hjj
      obtain ⟨ax, cx, hv, hrr⟩ := HW.out.rowR hxl
      subst hv
      have HR := Lib.hid hrr
      clear hrr
      go_wp2
      go_ret
      exact ⟨ax, cx, x, by rw [hxl]; rfl, hxl, HR.out, HG.out⟩

end Go.Proofs.Ytdbomnhlgaohaaa
end

section
namespace Go.Proofs.Ytdbomnhlgaohaaa
open Go.RowKit Go.Deep

set_option maxHeartbeats 1000000 in
theorem specChainTable_any (a : Option Addr) (cap n : Nat) (x : List Int) (w : World) (hn : x.length = n) (hc : n ≤ cap) (h63 : cap ≤ 9223372036854775807) (hm : RowR w a x) :
    Calls Try.prog 20 #[.slice a n cap] w (SpecT w (l9B x && decide (0 < n)) (chL (fun i => x.getD i 0) n n)) := by
  by_cases h1 : 0 < n
  · cases hok : l9B x with
    | true =>
      refine (specChainTable_ok a cap n x w hn hc h63 hm hok h1).mono ?_
      rintro e w' ⟨a', cap', rfl, hs, hin⟩
      have ht : (true && decide (0 < n)) = true := by simp [h1]
      refine ⟨a', cap', ?_, hs, ?_⟩
      · rw [ht]
        show _ = Ending.returned (.tuple #[.slice a' (chL _ n n).length cap', .bool true])
        rw [chL_length]
      · rw [ht]
        exact hin
    | false =>
      have E := l9Chain_any a cap n x w hn (by omega) hm
      rw [hok] at E
      replace E := Lib.hid E
      clear hok hm hn
      go_enter Try.func20, Try.ntmps20
      go_wp2_with fail
      refine (E.out).mono ?_
      rintro e w' ⟨rfl, rfl⟩
      go_wp2_with fail
      refine (l1None_any w).mono ?_
      rintro e w' ⟨rfl, hs⟩
      go_wp2
      go_ret2
      exact ⟨_, _, rfl, hs, InT.nil _ _ _ _⟩
  · obtain rfl : n = 0 := by omega
    have E := l9Chain_any a cap 0 x w hn (by omega) hm
    have hf : (l9B x && decide (0 < 0)) = false := by simp
    rw [hf]
    have hok : l9B x = true := by
      rw [l9B_all fun j hj => absurd hj (by omega)]
      simp [hn]
    rw [hok] at E
    replace E := Lib.hid E
    clear hok hm hn
    go_enter Try.func20, Try.ntmps20
    go_wp2_with fail
    refine (E.out).mono ?_
    rintro e w' ⟨rfl, rfl⟩
    go_wp2_with fail
    refine (l1None_any w).mono ?_
    rintro e w' ⟨rfl, hs⟩
    go_wp2
    go_ret2
    exact ⟨_, _, rfl, hs, InT.nil _ _ _ _⟩
end Go.Proofs.Ytdbomnhlgaohaaa
end

section
namespace Go.Proofs.Ytdbomnhlgaohaaa
open Go.RowKit Go.Deep

def tuF9 (f : Nat → Int) (k : Nat) (i j : Nat) : Int := if i = 0 then (if j = 0 then kf f k else kP f k) else if k = 0 then (if j = 0 then 0 else 1) else if j = 0 then kT f k else kD f k
def tuM (f : Nat → Int) (k : Nat) : List (List Int) := [[tuF9 f k 0 0, tuF9 f k 0 1], [tuF9 f k 1 0, tuF9 f k 1 1]]
theorem tuM_zero (f : Nat → Int) : tuM f 0 = unitL 2 2 := by
  simp [tuM, tuF9, unitL, tabF, unitF, kf, kP, List.range_succ]
theorem kT_step (f : Nat → Int) : ∀ k, kT f (k + 1) = if k = 0 then 1 else f k * kT f k + kD f k
  | 0 => rfl
  | k + 1 => by
    rw [if_neg (by omega)]
    show kf (fun i => f (i + 1)) (k + 1) = f (k + 1) * kf (fun i => f (i + 1)) k + kP (fun i => f (i + 1)) k
    rw [kf_step]
theorem kD_step (f : Nat → Int) : ∀ k, kD f (k + 1) = kT f k
  | 0 => rfl
  | _ + 1 => rfl
theorem tuM_succ (f : Nat → Int) (k : Nat) : makeL (tuM f k) [[f k, 1], [1, 0]] = tuM f (k + 1) := by
  have h1 := kf_step f k
  have h2 := kP_succ f k
  have h3 := kT_step f k
  have h4 := kD_step f k
  have hl : (tuM f k).length = 2 := rfl
  unfold makeL
  rw [hl]
  simp only [tuM, tuF9, tabF, sumN, dotF, at2, List.range_succ, List.range_zero, List.map_cons, List.map_nil, List.getD_cons_zero, List.getD_cons_succ, List.length_cons, List.length_nil, List.nil_append, List.cons_append]
  by_cases hk : k = 0
  · subst hk
    simp [h4, kf, kP, kT]
  · rw [if_neg hk] at h3
    simp [hk, h1, h2, h3, h4]
    grind
theorem tuF9_lt {f : Nat → Int} (h : ∀ j, -9 ≤ f j ∧ f j ≤ 9) {k : Nat} (hk : k ≤ 6) (i j : Nat) : -10000000 ≤ tuF9 f k i j ∧ tuF9 f k i j ≤ 10000000 := by
  have h1 := kf_lt h (n := k) (by omega)
  have h2 := kP_lt h (n := k) (by omega)
  have h3 : -10000000 ≤ kT f k ∧ kT f k ≤ 10000000 := by
    cases k with
    | zero => show (-10000000 : Int) ≤ 0 ∧ (0 : Int) ≤ 10000000; decide
    | succ k => exact kf_lt (f := fun i => f (i + 1)) (fun j => h (j + 1)) (n := k) (by omega)
  have h4 : -10000000 ≤ kD f k ∧ kD f k ≤ 10000000 := by
    cases k with
    | zero => show (-10000000 : Int) ≤ 0 ∧ (0 : Int) ≤ 10000000; decide
    | succ k => exact kP_lt (f := fun i => f (i + 1)) (fun j => h (j + 1)) (n := k) (by omega)
  unfold tuF9
  split
  · split <;> omega
  · split
    · split <;> omega
    · split <;> omega
theorem rec22 (a b c d : Int) : Rec [[a, b], [c, d]] := ⟨by simp, by simp, by simp, fun {r} hr => by
  rcases Nat.lt_or_ge r 1 with h | h
  · obtain rfl : r = 0 := by omega
    rfl
  · obtain rfl : r = 1 := by
      simp only [List.length_cons, List.length_nil] at hr
      omega
    rfl⟩
theorem two_cases {i : Nat} (h : i < 2) : i = 0 ∨ i = 1 := by omega
theorem tu_prod {f : Nat → Int} (h : ∀ j, -9 ≤ f j ∧ f j ≤ 9) {r : Nat} (hr : r ≤ 6) {y : Int} (hy : -9 ≤ y ∧ y ≤ 9) (i j k : Nat) (hi : i < 2) (hj : j < 2) (hk : k < 2) : -1000000000000 ≤ at2 (tuM f r) i j * at2 [[y, 1], [1, 0]] j k ∧ at2 (tuM f r) i j * at2 [[y, 1], [1, 0]] j k ≤ 1000000000000 := by
  have hb : -10000000 ≤ at2 (tuM f r) i j ∧ at2 (tuM f r) i j ≤ 10000000 := by
    rcases two_cases hi with rfl | rfl <;> rcases two_cases hj with rfl | rfl
    · exact tuF9_lt h hr 0 0
    · exact tuF9_lt h hr 0 1
    · exact tuF9_lt h hr 1 0
    · exact tuF9_lt h hr 1 1
  have hu : -9 ≤ at2 [[y, 1], [1, 0]] j k ∧ at2 [[y, 1], [1, 0]] j k ≤ 9 := by
    rcases two_cases hj with rfl | rfl <;> rcases two_cases hk with rfl | rfl
    · exact hy
    · exact ⟨by show (-9 : Int) ≤ 1; decide, by show (1 : Int) ≤ 9; decide⟩
    · exact ⟨by show (-9 : Int) ≤ 1; decide, by show (1 : Int) ≤ 9; decide⟩
    · exact ⟨by show (-9 : Int) ≤ 0; decide, by show (0 : Int) ≤ 9; decide⟩
  have := mul9 (b := at2 (tuM f r) i j) hu (c := 10000000) hb
  rw [Int.mul_comm (at2 (tuM f r) i j)]
  omega
theorem lit22 (W : World) (y : Int) : MatR (((W.alloc (.cells #[.int .i64 y, .int .i64 1] 3)).alloc (.cells #[.int .i64 1, .int .i64 0] 3)).alloc (.cells #[.slice (some ⟨W.heap.size, 0, none⟩) 2 2, .slice (some ⟨W.heap.size + 1, 0, none⟩) 2 2] 23)) (some ⟨W.heap.size + 1 + 1, 0, none⟩) [[y, 1], [1, 0]] := by
  obtain ⟨W1, hW1⟩ : ∃ V, W.alloc (.cells #[.int .i64 y, .int .i64 1] 3) = V := ⟨_, rfl⟩
  have z1 : W1.heap.size = W.heap.size + 1 := by rw [← hW1]; simp
  have a1 := World.alloc_heap_new W (.cells #[.int .i64 y, .int .i64 1] 3)
  rw [hW1] at a1 ⊢
  obtain ⟨W2, hW2⟩ : ∃ V, W1.alloc (.cells #[.int .i64 1, .int .i64 0] 3) = V := ⟨_, rfl⟩
  have z2 : W2.heap.size = W.heap.size + 1 + 1 := by rw [← hW2]; simp [z1]
  have a2 := World.alloc_heap_new W1 (.cells #[.int .i64 1, .int .i64 0] 3)
  have s2 : W1.Since W1.heap.size W2 := by rw [← hW2]; exact (World.Since.refl _ _).alloc (Nat.le_refl _) _
  rw [hW2] at a2 ⊢
  obtain ⟨W3, hW3⟩ : ∃ V, W2.alloc (.cells #[.slice (some ⟨W.heap.size, 0, none⟩) 2 2, .slice (some ⟨W.heap.size + 1, 0, none⟩) 2 2] 23) = V := ⟨_, rfl⟩
  have a3 := World.alloc_heap_new W2 (.cells #[.slice (some ⟨W.heap.size, 0, none⟩) 2 2, .slice (some ⟨W.heap.size + 1, 0, none⟩) 2 2] 23)
  have s3 : W2.Since W2.heap.size W3 := by rw [← hW3]; exact (World.Since.refl _ _).alloc (Nat.le_refl _) _
  rw [hW3] at a3 ⊢
  rw [z1] at a2
  rw [z2] at a3
  have r1 : RowR W1 (some ⟨W.heap.size, 0, none⟩) [y, 1] := fun _ => ⟨_, _, rfl, fun i hi => by
    unfold World.cell?
    rw [a1]
    rcases two_cases hi with rfl | rfl <;> rfl⟩
  have r2 : RowR W2 (some ⟨W.heap.size + 1, 0, none⟩) [1, 0] := fun _ => ⟨_, _, rfl, fun i hi => by
    unfold World.cell?
    rw [a2]
    rcases two_cases hi with rfl | rfl <;> rfl⟩
  refine fun _ => ⟨_, _, fun r => some ⟨W.heap.size + r, 0, none⟩, fun _ => 2, rfl, fun r hr => ?_⟩
  rcases two_cases hr with rfl | rfl
  · exact ⟨by unfold World.cell?; rw [a3]; rfl, (r1.since s2).since s3⟩
  · exact ⟨by unfold World.cell?; rw [a3]; rfl, r2.since s3⟩

set_option maxRecDepth 100000 in
set_option maxHeartbeats 4000000 in
theorem specChainTurns_ok (a : Option Addr) (cap n : Nat) (x : List Int) (w : World) (hn : x.length = n) (hc : n ≤ cap) (h63 : cap ≤ 9223372036854775807) (hm : RowR w a x) (hok : l9B x = true) :
    Calls Try.prog 32 #[.slice a n cap] w (SpecT w (tabIn (tuM (fun i => x.getD i 0) n)) (tuM (fun i => x.getD i 0) n)) := by
  have E := l9Chain_any a cap n x w hn (by omega) hm
  rw [hok] at E
  replace E := Lib.hid E
  have h6 := (l9B_of hok).2
  rw [hn] at h6
  have h9 := l9B_all9 hok
  obtain ⟨f, hf⟩ : ∃ f : Nat → Int, f = fun i => x.getD i 0 := ⟨_, rfl⟩
  have hm' : CelR w a f n := by rw [hf, ← hn]; exact CelR.row hm
  rw [← hf]
  have h9' : ∀ j, -9 ≤ f j ∧ f j ≤ 9 := fun j => by rw [hf]; exact h9 j
  have H9 := Lib.hid h9'
  have HM := Lib.hid hm'
  clear hok hm hn hf h9 h9' hm'
  go_enter Try.func32, Try.ntmps32
  go_wp2_with fail
  refine (E.out).mono ?_
  rintro e w' ⟨rfl, rfl⟩
  go_wp2_with fail
  refine (specUnit_any 2 w (by omega)).mono ?_
  rintro e w1 ⟨A0, C0, rfl, hs1, hin1⟩
  rw [← tuM_zero f] at hin1
  have HI1 := Lib.hid hin1
  have HS1 := Lib.hid hs1
  clear hin1 hs1
  go_wp2
  go_loopg [4, 5] n (fun g v i wr => ∃ r : Nat, ∃ A C, r ≤ n ∧ g = n - r ∧ i = .int .i64 r ∧ v = .slice A 2 C ∧ w.Since w.heap.size wr ∧ InT w.heap.size wr.heap.size wr A (tuM f r))
  case atStart => exact ⟨0, A0, C0, Nat.zero_le _, rfl, rfl, rfl, HS1.out, HI1.out⟩
  case round =>
    obtain ⟨r, A, C, hr, rfl, rfl, rfl, hS, hI⟩ := hrel
    clear HI1 HS1
    have HS := Lib.hid hS
    have HI := Lib.hid hI
    clear hS hI
    by_cases hlt : r < n
    · obtain ⟨b, o, rfl, hcx⟩ := HM.out (by omega)
      have cx0 := hcx r hlt
      have cx := (HS.out.cell (a := ⟨b, o + r, none⟩) (World.block_lt_of_cell? _ _ cx0)).trans cx0
      obtain ⟨y, hy⟩ : ∃ y, f r = y := ⟨_, rfl⟩
      rw [hy] at cx
      have hy9 := H9.out r
      rw [hy] at hy9
      have hmk := tuM_succ f r
      rw [hy] at hmk
      have HB := Lib.hid (fun i j k hi hj hk => tu_prod H9.out (r := r) (by omega) hy9 i j k hi hj hk)
      have HK := Lib.hid hmk
      clear hcx cx0 hy hmk
      go_wp2_with fail
      have HS3 := Lib.hid (((HS.out.alloc HS.out.size (.cells #[.int .i64 y, .int .i64 1] 3)).alloc (by have := HS.out.size; simp; omega) (.cells #[.int .i64 1, .int .i64 0] 3)).alloc (by have := HS.out.size; simp; omega) (.cells #[.slice (some ⟨wr.heap.size, 0, none⟩) 2 2, .slice (some ⟨wr.heap.size + 1, 0, none⟩) 2 2] 23))
      have hww : wr.Since wr.heap.size (((wr.alloc (.cells #[.int .i64 y, .int .i64 1] 3)).alloc (.cells #[.int .i64 1, .int .i64 0] 3)).alloc (.cells #[.slice (some ⟨wr.heap.size, 0, none⟩) 2 2, .slice (some ⟨wr.heap.size + 1, 0, none⟩) 2 2] 23)) := (((World.Since.refl _ _).alloc (Nat.le_refl _) _).alloc (by simp) _).alloc (by simp; omega) _
      refine (l1MakeR_any A _ C 2 2 2 (tuM f r) [[y, 1], [1, 0]] _ rfl rfl (HI.out.matR.since hww) (lit22 wr y) (rec22 _ _ _ _) (rec22 _ _ _ _) rfl HB.out).mono ?_
      rintro e w' ⟨a', c', rfl, hs', hin'⟩
      rw [HK.out] at hin'
      have hn' := hin'.inT
      have HN := Lib.hid (hn'.mono HS3.out.size (Nat.le_refl _))
      have HSN := Lib.hid (HS3.out.trans (since_mono hs' HS3.out.size))
      clear hin' hn' hs' hww
      go_wp2
      go_roundg (n - (r + 1))
      case measure => omega
      case rel => exact ⟨r + 1, _, _, by omega, rfl, by go_num, rfl, HSN.out, HN.out⟩
    · have : r = n := by omega
      subst this
      have hszl : szL (tuM f r) ≤ 1048576 := by
        simp [szL, sumTo, tuM]
      go_wp2_with fail
      refine (l1Done_any _ _ _ _ _ (tuM f r) _ rfl hszl HI.out).mono ?_
      rintro e w' ⟨a', cap', rfl, hs, hin⟩
      go_wp2
      go_ret2
      exact ⟨a', cap', rfl, HS.out.trans (since_mono hs HS.out.size), hin.mono (Nat.le_refl _) hs.size⟩

set_option maxHeartbeats 1000000 in
theorem specChainTurns_any (a : Option Addr) (cap n : Nat) (x : List Int) (w : World) (hn : x.length = n) (hc : n ≤ cap) (h63 : cap ≤ 9223372036854775807) (hm : RowR w a x) :
    Calls Try.prog 32 #[.slice a n cap] w (SpecT w (l9B x && tabIn (tuM (fun i => x.getD i 0) n)) (tuM (fun i => x.getD i 0) n)) := by
  cases hok : l9B x with
  | true =>
    rw [Bool.true_and]
    exact specChainTurns_ok a cap n x w hn hc h63 hm hok
  | false =>
    rw [Bool.false_and]
    have E := l9Chain_any a cap n x w hn (by omega) hm
    rw [hok] at E
    replace E := Lib.hid E
    clear hok hm hn
    go_enter Try.func32, Try.ntmps32
    go_wp2_with fail
    refine (E.out).mono ?_
    rintro e w' ⟨rfl, rfl⟩
    go_wp2_with fail
    refine (l1None_any w).mono ?_
    rintro e w' ⟨rfl, hs⟩
    go_wp2
    go_ret2
    exact ⟨_, _, rfl, hs, InT.nil _ _ _ _⟩
end Go.Proofs.Ytdbomnhlgaohaaa
end

section
namespace Go.Proofs.Ytdbomnhlgaohaaa
open Go.RowKit Go.Deep

set_option maxHeartbeats 1000000 in
theorem chEntry_any (b o pc n cap i k : Nat) (f : Nat → Int) (w : World) (hi : i < n) (h7 : n ≤ 7) (_ : k < n) (hbc : w.cell? ⟨pc, 0, none⟩ = some (.slice (some ⟨b, o, none⟩) n cap)) (hc : w.cell? ⟨b, o + i, none⟩ = some (.int .i64 (f i))) :
    Calls Try.prog 75 #[.int .i64 i, .int .i64 k, .pointer (some ⟨pc, 0, none⟩)] w fun e w' => e = .returned (.int .i64 (chF f i k)) ∧ w.Since w.heap.size w' := by
  obtain ⟨y, hy⟩ : ∃ y, f i = y := ⟨_, rfl⟩
  rw [hy] at hc
  by_cases h1 : k = i
  · have hv : chF f i k = y := by unfold chF; rw [if_pos h1.symm, hy]
    have b1 : ((k : Int) == (i : Int)) = true := by simp; omega
    rw [hv]
    clear hy hv h1
    go_enter Try.func75, Try.ntmps75
    go_wp2
    go_ret
    exact ⟨rfl, World.Since.refl _ _⟩
  have b1 : ((k : Int) == (i : Int)) = false := by simp; omega
  by_cases h2 : k = i + 1
  · have hv : chF f i k = 1 := by unfold chF; rw [if_neg (by omega), if_pos h2]
    have b2 : ((k : Int) == (i : Int) + 1) = true := by simp; omega
    rw [hv]
    clear hy hv h1 h2
    go_enter Try.func75, Try.ntmps75
    go_wp2
    go_ret
    exact ⟨rfl, World.Since.refl _ _⟩
  have b2 : ((k : Int) == (i : Int) + 1) = false := by simp; omega
  have hw3 : wrap64 ((i : Int) - 1) = (i : Int) - 1 := by unfold wrap64; omega
  by_cases h3 : i = k + 1
  · have hv : chF f i k = -1 := by unfold chF; rw [if_neg (by omega), if_neg (by omega), if_pos h3]
    have b3 : ((k : Int) == (i : Int) - 1) = true := by simp; omega
    rw [hv]
    clear hy hv h1 h2 h3
    go_enter Try.func75, Try.ntmps75
    go_wp2
    go_ret
    exact ⟨rfl, World.Since.refl _ _⟩
  · have hv : chF f i k = 0 := by unfold chF; rw [if_neg (by omega), if_neg (by omega), if_neg h3]
    have b3 : ((k : Int) == (i : Int) - 1) = false := by simp; omega
    rw [hv]
    clear hy hv h1 h2 h3
    go_enter Try.func75, Try.ntmps75
    go_wp2
    go_ret
    exact ⟨rfl, World.Since.refl _ _⟩

set_option maxHeartbeats 1000000 in
theorem chTable_any (b o n cap : Nat) (f : Nat → Int) (w : World) (h7 : n ≤ 7) (hc : ∀ i, i < n → w.cell? ⟨b, o + i, none⟩ = some (.int .i64 (f i))) :
    Calls Try.prog 51 #[.slice (some ⟨b, o, none⟩) n cap] w fun e w' => e = .returned (.slice (some ⟨w.heap.size + 1, 0, none⟩) n n) ∧ w.Since w.heap.size w' ∧ OwnT w.heap.size w'.heap.size w' (some ⟨w.heap.size + 1, 0, none⟩) (chL f n n) := by
  obtain ⟨W, hW⟩ : ∃ W, w.alloc (.cells #[.slice (some ⟨b, o, none⟩) n cap] 45) = W := ⟨_, rfl⟩
  have hcb := (cell_new_l w (.slice (some ⟨b, o, none⟩) n cap) 45).1
  have hsz : W.heap.size = w.heap.size + 1 := by rw [← hW]; simp
  have hS : w.Since w.heap.size W := by rw [← hW]; exact (World.Since.refl _ _).alloc (Nat.le_refl _) _
  rw [hW] at hcb
  have E := newTable_any 75 #[.pointer (some ⟨w.heap.size, 0, none⟩)] n n (chF f) W (by omega) (by omega) (enters_of Try.func75 (by kernel_rfl) rfl)
    (fun W' i k hs' hi hk => chEntry_any b o w.heap.size n cap i k f W' hi h7 hk ((hs'.cell (a := ⟨w.heap.size, 0, none⟩) (World.block_lt_of_cell? _ _ hcb)).trans hcb) (by
      have c1 := (hS.cell (World.block_lt_of_cell? _ _ (hc i hi))).trans (hc i hi)
      exact (hs'.cell (World.block_lt_of_cell? _ _ c1)).trans c1))
  rw [hsz] at E
  replace E := Lib.hid E
  have HS := Lib.hid hS
  clear hc hS hsz
  subst hW
  go_enter Try.func51, Try.ntmps51
  go_wp2_with fail
  refine (E.out).mono ?_
  rintro e w' ⟨rfl, hs, ho⟩
  go_wp2
  go_ret
  exact ⟨rfl, HS.out.trans (since_mono hs (Nat.le_succ _)), ho.mono (by omega) (Nat.le_refl _)⟩

theorem ch_tab {f : Nat → Int} (h : ∀ j, -9 ≤ f j ∧ f j ≤ 9) (n : Nat) (h6 : n ≤ 6) : tabIn (chL f n n) = decide (0 < n) := by
  by_cases h0 : 0 < n
  · rw [decide_eq_true h0]
    refine tabIn_true ⟨by rw [chL_length]; exact h0, by rw [chL_length]; exact h6, fun r hr => ?_⟩
    rw [chL_length] at hr
    unfold chL
    refine ⟨by rw [tabF_len _ _ _ _ hr, tabF_len _ _ _ _ h0], by rw [tabF_len _ _ _ _ hr]; exact h0, by rw [tabF_len _ _ _ _ hr]; exact h6, fun k hk => ?_⟩
    rw [tabF_len _ _ _ _ hr] at hk
    rw [tabF_at _ _ _ _ _ hr hk]
    have := h r
    unfold chF
    split
    · omega
    · split
      · omega
      · split <;> omega
  · rw [decide_eq_false h0]
    obtain rfl : n = 0 := by omega
    refine tabIn_false fun hT => ?_
    have := hT.1
    rw [chL_length] at this
    omega

set_option maxHeartbeats 1000000 in
theorem implChainTable_any (a : Option Addr) (cap m : Nat) (x : List Int) (w : World) (hn : x.length = m) (h63 : m ≤ 9223372036854775807) (hm : RowR w a x) :
    Calls Try.prog 19 #[.slice a m cap] w (ImplT w (l9B x && decide (0 < m)) (chL (fun i => x.getD i 0) m m)) := by
  cases hok : l9B x with
  | false =>
    rw [Bool.false_and]
    have E := Lib.hid (newChain_no a cap m x w hn h63 hm hok)
    clear hok hm hn
    go_enter Try.func19, Try.ntmps19
    go_wp2_with fail
    refine (E.out).mono ?_
    rintro e w' ⟨rfl, rfl⟩
    go_wp2
    go_ret2
    exact ⟨_, _, rfl, World.Since.refl _ _, OwnT.nil _ _ _ _⟩
  | true =>
    rw [Bool.true_and]
    have E := Lib.hid (newChain_ok a cap m x w hn hm hok)
    have h6 := (l9B_of hok).2
    rw [hn] at h6
    have HT := Lib.hid (ch_tab (l9B_all9 hok) m h6)
    clear hok hm hn
    go_enter Try.func19, Try.ntmps19
    go_wp2_with fail
    refine (E.out).mono ?_
    rintro e w1 ⟨rfl, hs, hc⟩
    have HS := Lib.hid hs
    have HC := Lib.hid hc
    clear hs hc
    go_wp2_with fail
    refine (chTable_any w.heap.size 0 m m (fun i => x.getD i 0) w1 (by omega) HC.out).mono ?_
    rintro e w2 ⟨rfl, hs2, ho⟩
    have HS2 := Lib.hid (HS.out.trans (since_mono hs2 HS.out.size))
    have HO := Lib.hid (ho.mono HS.out.size (Nat.le_refl _))
    clear hs2 ho
    go_wp2_with fail
    refine (result_any _ _ _ _ _ (chL (fun i => x.getD i 0) m m) w2 (chL_length _ _ _) (szL_tabF _ _ _ (by omega) (by omega)) HO.out).mono ?_
    rintro e w3 ⟨a', cap', rfl, hs3, ho3⟩
    rw [HT.out] at ho3 ⊢
    have HS3 := Lib.hid (HS2.out.trans (since_mono hs3 HS2.out.size))
    have HO3 := Lib.hid (ho3.mono (Nat.le_refl _) hs3.size)
    clear hs3 ho3
    go_wp2
    go_ret2
    exact ⟨a', cap', rfl, HS3.out, HO3.out⟩

set_option maxRecDepth 100000 in
set_option maxHeartbeats 4000000 in
theorem chTurns_any (b o n cap : Nat) (f : Nat → Int) (w : World) (h6 : n ≤ 6) (hf : ∀ j, -9 ≤ f j ∧ f j ≤ 9) (hc : ∀ i, i < n → w.cell? ⟨b, o + i, none⟩ = some (.int .i64 (f i))) :
    Calls Try.prog 61 #[.slice (some ⟨b, o, none⟩) n cap] w fun e w' => ∃ A C, e = .returned (.slice A 2 C) ∧ w.Since w.heap.size w' ∧ OwnT w.heap.size w'.heap.size w' A (tuM f n) := by
  have H9 := Lib.hid hf
  have HC := Lib.hid hc
  clear hf hc
  go_enter Try.func61, Try.ntmps61
  go_wp2_with fail
  refine (unitTable_any 2 (by omega) w).mono ?_
  rintro e w1 ⟨rfl, hs1, hin1⟩
  rw [← tuM_zero f] at hin1
  have HI1 := Lib.hid hin1
  have HS1 := Lib.hid hs1
  clear hin1 hs1
  go_wp2
  go_loopg [3, 5, 9] n (fun g v _ i wr => ∃ r : Nat, ∃ A C, r ≤ n ∧ g = n - r ∧ i = .int .i64 r ∧ v = .slice A 2 C ∧ w.Since w.heap.size wr ∧ OwnT w.heap.size wr.heap.size wr A (tuM f r))
  case atStart => exact ⟨0, _, _, Nat.zero_le _, rfl, rfl, rfl, HS1.out, HI1.out⟩
  case round =>
    obtain ⟨r, A, C, hr, rfl, rfl, rfl, hS, hI⟩ := hrel
    clear HI1 HS1
    have HS := Lib.hid hS
    have HI := Lib.hid hI
    clear hS hI
    by_cases hlt : r < n
    · have cx0 := HC.out r hlt
      have cx := (HS.out.cell (a := ⟨b, o + r, none⟩) (World.block_lt_of_cell? _ _ cx0)).trans cx0
      obtain ⟨y, hy⟩ : ∃ y, f r = y := ⟨_, rfl⟩
      rw [hy] at cx
      have hy9 := H9.out r
      rw [hy] at hy9
      have hmk := tuM_succ f r
      rw [hy] at hmk
      have HB := Lib.hid (fun i j k hi hj hk => tu_prod H9.out (r := r) (by omega) hy9 i j k hi hj hk)
      have HK := Lib.hid hmk
      clear cx0 hy hmk
      go_wp2_with fail
      have HS3 := Lib.hid (((HS.out.alloc HS.out.size (.cells #[.int .i64 y, .int .i64 1] 3)).alloc (by have := HS.out.size; simp; omega) (.cells #[.int .i64 1, .int .i64 0] 3)).alloc (by have := HS.out.size; simp; omega) (.cells #[.slice (some ⟨wr.heap.size, 0, none⟩) 2 2, .slice (some ⟨wr.heap.size + 1, 0, none⟩) 2 2] 23))
      have hww : wr.Since wr.heap.size (((wr.alloc (.cells #[.int .i64 y, .int .i64 1] 3)).alloc (.cells #[.int .i64 1, .int .i64 0] 3)).alloc (.cells #[.slice (some ⟨wr.heap.size, 0, none⟩) 2 2, .slice (some ⟨wr.heap.size + 1, 0, none⟩) 2 2] 23)) := (((World.Since.refl _ _).alloc (Nat.le_refl _) _).alloc (by simp) _).alloc (by simp; omega) _
      refine (productT_any A C 2 (tuM f r) _ 2 2 [[y, 1], [1, 0]] _ rfl (rec22 _ _ _ _) (HI.out.matR.since hww) rfl (rec22 _ _ _ _) rfl (lit22 wr y) HB.out).mono ?_
      rintro e w' ⟨rfl, hs', hin'⟩
      rw [HK.out] at hin'
      have HN := Lib.hid (hin'.mono HS3.out.size (Nat.le_refl _))
      have HSN := Lib.hid (HS3.out.trans (since_mono hs' HS3.out.size))
      clear hin' hs' hww
      go_wp2
      go_roundg (n - (r + 1))
      case measure => omega
      case rel => exact ⟨r + 1, _, _, by omega, rfl, by go_num, rfl, HSN.out, (by have := HN.out; simp only [World.size_alloc] at this; exact this)⟩
    · have : r = n := by omega
      subst this
      go_wp2
      go_ret
      exact ⟨_, _, rfl, HS.out, HI.out⟩

set_option maxHeartbeats 1000000 in
theorem implChainTurns_any (a : Option Addr) (cap m : Nat) (x : List Int) (w : World) (hn : x.length = m) (h63 : m ≤ 9223372036854775807) (hm : RowR w a x) :
    Calls Try.prog 31 #[.slice a m cap] w (ImplT w (l9B x && tabIn (tuM (fun i => x.getD i 0) m)) (tuM (fun i => x.getD i 0) m)) := by
  cases hok : l9B x with
  | false =>
    rw [Bool.false_and]
    have E := Lib.hid (newChain_no a cap m x w hn h63 hm hok)
    clear hok hm hn
    go_enter Try.func31, Try.ntmps31
    go_wp2_with fail
    refine (E.out).mono ?_
    rintro e w' ⟨rfl, rfl⟩
    go_wp2
    go_ret2
    exact ⟨_, _, rfl, World.Since.refl _ _, OwnT.nil _ _ _ _⟩
  | true =>
    rw [Bool.true_and]
    have E := Lib.hid (newChain_ok a cap m x w hn hm hok)
    have h6 := (l9B_of hok).2
    rw [hn] at h6
    have H9 := Lib.hid (l9B_all9 hok)
    obtain ⟨f, hf⟩ : ∃ f : Nat → Int, f = fun i => x.getD i 0 := ⟨_, rfl⟩
    rw [← hf]
    have HX := Lib.hid (show ∀ i, x.getD i 0 = f i from fun i => by rw [hf])
    have hsz : szL (tuM f m) ≤ 1048576 := by simp [szL, sumTo, tuM]
    have HZ := Lib.hid hsz
    obtain ⟨ok, hok'⟩ : ∃ ok, tabIn (tuM f m) = ok := ⟨_, rfl⟩
    have HT := Lib.hid hok'
    rw [hok']
    clear hok hm hn hf hsz hok'
    go_enter Try.func31, Try.ntmps31
    go_wp2_with fail
    refine (E.out).mono ?_
    rintro e w1 ⟨rfl, hs, hc⟩
    have HS := Lib.hid hs
    have HC := Lib.hid hc
    clear hs hc
    go_wp2_with fail
    refine (chTurns_any w.heap.size 0 m m f w1 h6 (fun j => by rw [← HX.out j]; exact H9.out j) (fun i hi => by rw [← HX.out i]; exact HC.out i hi)).mono ?_
    rintro e w2 ⟨A, C, rfl, hs2, ho⟩
    have HS2 := Lib.hid (HS.out.trans (since_mono hs2 HS.out.size))
    have HO := Lib.hid (ho.mono HS.out.size (Nat.le_refl _))
    clear hs2 ho
    go_wp2_with fail
    refine (result_any _ _ _ _ _ (tuM f m) w2 rfl HZ.out HO.out).mono ?_
    rintro e w3 ⟨a', cap', rfl, hs3, ho3⟩
    rw [HT.out] at ho3 ⊢
    have HS3 := Lib.hid (HS2.out.trans (since_mono hs3 HS2.out.size))
    have HO3 := Lib.hid (ho3.mono (Nat.le_refl _) hs3.size)
    clear hs3 ho3
    go_wp2
    go_ret2
    exact ⟨a', cap', rfl, HS3.out, HO3.out⟩

end Go.Proofs.Ytdbomnhlgaohaaa
end

section
namespace Go.Proofs.Ytdbomnhlgaohaaa
open Go.RowKit Go.Deep

theorem lawChainTable (a0 : Option Addr) (cap0 n0 : Nat) (l0 : List Int) (w : World) (hn0 : l0.length = n0) (h630 : n0 ≤ 9223372036854775807) (hm0 : RowR w a0 l0) :
    Calls Try.prog 9 #[.slice a0 n0 cap0] w fun e w' => e = .returned (.bool true) ∧ w.Since w.heap.size w' :=
  lawChainTable_aux a0 cap0 n0 l0 (l9B l0 && decide (0 < n0)) (resT (l9B l0 && decide (0 < n0)) (chL (fun i => l0.getD i 0) n0 n0)) w hn0 h630 hm0 (by cases h : l9B l0 with | false => simp [resT, szL, sumTo] | true => cases h2 : decide (0 < n0) with | false => simp [resT, szL, sumTo] | true => exact szL_tabF _ _ _ (by have := (l9B_of h).2; omega) (by have := (l9B_of h).2; omega))
    (fun W b0 _ hr0 => specChainTable_any b0 n0 n0 l0 W hn0 (Nat.le_refl _) h630 hr0)
    (fun W b0 _ hr0 => implChainTable_any b0 n0 n0 l0 W hn0 h630 hr0)

end Go.Proofs.Ytdbomnhlgaohaaa
end

section
namespace Go.Proofs.Ytdbomnhlgaohaaa
open Go.ChangeShapes Go.WideShapes Go.ChangeAt Go.RowKit Go.Deep

theorem below_since' {B : Nat} {w w' : World} (h : Below B w w') : w.Since B w' := ⟨h.os, h.tape, h.output, h.size, h.block⟩
theorem since_below' {B : Nat} {w w' : World} (h : w.Since B w') : Below B w w' := ⟨h.os, h.tape, h.output, h.size, h.block⟩

section
variable {H : Type} {enc : TypeId × Value → H} {P : Program}
theorem post_of_below {f : Func} {s : ChangeSpec} {apart fresh handsOn again : Bool} {W W' : World} {args : Array Value} {v : Value} {ds gs : List (DataW H)} {before pa pv : List MemPlace}
    (hW : DataW.Whole enc P f.params.toList s.vars apart W args.toList ds gs before)
    (hres : ∀ (b : Nat) (sp : Nat → Bool) (hd : Bool), DataW.TrodAll enc P W' b sp hd f.resultTypes.toList (v.resultList f.resultTypes.size) (s.fn H (ds ++ gs)).results [])
    (hargs : ∀ sp : Nat → Bool, (∀ p ∈ before, sp p.block = true) → DataW.TrodAll enc P W' 0 sp true f.params.toList args.toList (s.fn H (ds ++ gs)).args pa)
    (hvars : ∀ sp : Nat → Bool, (∀ p ∈ before, sp p.block = true) → DataW.TrodVars enc P W' sp s.vars (s.fn H (ds ++ gs)).vars pv)
    (hps : before = pa ++ pv) (hb : Below W.heap.size W W') (hag : again = false) :
    s.post enc P f apart fresh handsOn again W args v W' := by
  have hlt : ∀ p ∈ before, p.block < W.heap.size := fun p hp => hW.lt p hp
  have hold : ∀ p ∈ before, (fun b => decide (b < W.heap.size)) p.block = true := fun p hp => by simpa using hlt p hp
  refine ⟨ds, gs, before, [], pa, pv, hW, hres _ _ _, hargs _ hold, hvars _ hold, World.keptBut_mono (fun p hp => ⟨hp, ?_⟩) (hb.frame (· ∈ before)), fun h => ?_⟩
  · rw [hps, List.mem_append] at hp
    exact Or.inr hp
  · rw [hag] at h; cases h

theorem open_mat {W : World} {t e q : TypeId} {a : Option Addr} {n cap : Nat} {d : DataW H} {p : List MemPlace} (ht : P.underlying t = some (.slice e)) (he : P.underlying e = some (.slice q)) (hq : P.underlying q = some (.int .i64))
    (ce : P.cellsOf e = 1) (cq : P.cellsOf q = 1) (h : DataW.Trod enc P W 0 (fun _ => true) true t (.slice a n cap) d p) :
    ∃ l : List (List Int), l.length = n ∧ MatR W a l ∧ n ≤ 9223372036854775807 ∧ ∀ r, r < l.length → (l.getD r []).length ≤ 9223372036854775807 := by
  obtain ⟨fuel, hf⟩ := h
  rcases open_int_rows ht he hq ce cq hf with ⟨hcs, _⟩ | ⟨a', len', cap', A, L, C, Z, hcs, _, hl, hm, _, hrows⟩
  · simp [Value.cells] at hcs
    obtain ⟨rfl, rfl, rfl⟩ := hcs
    exact ⟨[], rfl, (fun h => by simp at h), by omega, fun r hr => by simp at hr⟩
  · simp [Value.cells] at hcs
    obtain ⟨rfl, rfl, rfl⟩ := hcs
    have hmx : maxLen = 9223372036854775807 := rfl
    have hlen : ∀ r, r < n → ((Z r).take (L r)).length = L r := fun r hr => by
      obtain ⟨_, h1, _, h2, _⟩ := hrows r (by omega)
      rw [List.length_take]; omega
    have hget : ∀ r, r < n → ((List.range n).map fun r => (Z r).take (L r)).getD r [] = (Z r).take (L r) := fun r hr => by simp [List.getD, hr]
    refine ⟨(List.range n).map fun r => (Z r).take (L r), by simp, fun h => ?_, by omega, fun r hr => ?_⟩
    · obtain ⟨b, o, spot⟩ := a'
      simp at h
      have hspot : spot = none := by simpa [Addr.add] using World.cell?_spot (hrows 0 (by omega)).1
      subst hspot
      refine ⟨b, o, A, C, rfl, fun r hr => ?_⟩
      simp at hr
      rw [hget r hr, hlen r hr]
      obtain ⟨g1, g2, g3, g4, g5, g6, g7⟩ := hrows r (by omega)
      refine ⟨by rw [← add_plain]; exact g1, fun h0 => ?_⟩
      rw [hlen r hr] at h0
      cases hA : A r with
      | none => have := g6 hA; omega
      | some a'' =>
        obtain ⟨_, hcell⟩ := g7 a'' hA
        obtain ⟨b', o', sp⟩ := a''
        have hs : sp = none := by simpa [Addr.add] using World.cell?_spot (hcell 0 (by omega))
        subst hs
        refine ⟨b', o', rfl, fun i hi => ?_⟩
        rw [hlen r hr] at hi
        rw [← add_plain, hcell i (by omega)]
        congr 2
        simp [List.getD, hi]
    · simp at hr
      rw [hget r hr, hlen r hr]
      obtain ⟨_, h1, h2, _⟩ := hrows r (by omega)
      omega
end

theorem Try.own : ownKnob Try.prog.godebug = none := by kernel_rfl
theorem Try.laidOut : laidOutB Try.prog = true := by kernel_rfl
theorem Try.cellsR : Try.prog.cellsOf 23 = 1 := by kernel_rfl
theorem Try.cellsI : Try.prog.cellsOf 3 = 1 := by kernel_rfl

end Go.Proofs.Ytdbomnhlgaohaaa
end

section
namespace Go.Proofs.Ytdbomnhlgaohaaa
open Go.ChangeShapes Go.WideShapes Go.ChangeAt Go.RowKit Go.Deep

theorem open_row {H : Type} {enc : TypeId × Value → H} {P : Program} {W : World} {t e : TypeId} {a : Option Addr} {n cap : Nat} {d : DataW H} {p : List MemPlace} (ht : P.underlying t = some (.slice e)) (he : P.underlying e = some (.int .i64)) (ce : P.cellsOf e = 1)
    (h : DataW.Trod enc P W 0 (fun _ => true) true t (.slice a n cap) d p) : ∃ x : List Int, x.length = n ∧ RowR W a x ∧ n ≤ 9223372036854775807 := by
  obtain ⟨fuel, hf⟩ := h
  rcases open_ints ht he ce hf with ⟨hcs, _⟩ | ⟨a', len, cap', zs, hcs, _, hl, hm, hlen, _, hcell, _⟩
  · simp [Value.cells] at hcs
    obtain ⟨rfl, rfl, rfl⟩ := hcs
    exact ⟨[], rfl, (fun h => by simp at h), by omega⟩
  · simp [Value.cells] at hcs
    obtain ⟨rfl, rfl, rfl⟩ := hcs
    have hmx : maxLen = 9223372036854775807 := rfl
    have hzl : zs.length = cap := by simpa using hlen
    refine ⟨zs.take n, by rw [List.length_take]; omega, fun h0 => ?_, by omega⟩
    have h0' : 0 < n := by rw [List.length_take] at h0; omega
    obtain ⟨b, o, spot⟩ := a'
    have hspot : spot = none := by simpa [Addr.add] using World.cell?_spot (hcell 0 (by omega))
    subst hspot
    refine ⟨b, o, rfl, fun i hi => ?_⟩
    have hi2 : i < n := by rw [List.length_take] at hi; omega
    rw [← add_plain, hcell i (by omega)]
    congr 2
    simp [List.getD, hi2]

end Go.Proofs.Ytdbomnhlgaohaaa
end
