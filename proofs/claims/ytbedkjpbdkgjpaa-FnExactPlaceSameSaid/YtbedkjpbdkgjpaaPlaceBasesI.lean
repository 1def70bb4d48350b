/- The contract of impl.PlaceBases. -/
import Derived.Test.YtbedkjpbdkgjpaaTold
import Derived.Test.YtbedkjpbdkgjpaaPlaceB
namespace Go.Proofs.Ytbedkjpbdkgjpaa
open Go.RowKit Go.Deep

/-- The sets below m whose number is not 0. -/
def nzTo (C : Nat → Int) : Nat → List Int
  | 0 => []
  | m + 1 => if C m ≠ 0 then nzTo C m ++ [(m : Int)] else nzTo C m
theorem nzTo_yes {C : Nat → Int} {m : Nat} (h : C m ≠ 0) : nzTo C (m + 1) = nzTo C m ++ [(m : Int)] := by simp [nzTo, h]
theorem nzTo_no {C : Nat → Int} {m : Nat} (h : C m = 0) : nzTo C (m + 1) = nzTo C m := by simp [nzTo, h]
theorem nzTo_le (C : Nat → Int) : ∀ m, (nzTo C m).length ≤ m
  | 0 => by simp [nzTo]
  | m + 1 => by
    have := nzTo_le C m
    by_cases h : C m = 0
    · rw [nzTo_no h]; omega
    · rw [nzTo_yes h]; simp; omega

set_option maxRecDepth 100000 in
set_option maxHeartbeats 2000000 in
theorem bases_any (C : Nat → Int) (w : World) : Calls Try.prog 54 #[.agg (arr C)] w fun e w' => ∃ v, e = .returned v ∧ RB w w' v (nzTo C 32) := by
  obtain ⟨i3, hi3⟩ := info3_parts
  have HJ := Lib.hid hi3
  clear hi3
  go_enter Try.func54, Try.ntmps54
  go_wp2_with (with_reducible (show wpList _ _ _ (Oper.mk _ (Op.load _ _) 48 _ _ _ :: _) _ _); refine wpList_load_arr rfl _ rfl _ rfl C (ArrAt.new _ _) ?_)
  obtain ⟨W, hW⟩ : ∃ W, w.alloc (.cells (arr C) 48) = W := ⟨_, rfl⟩
  have hS : w.Since w.heap.size W := by rw [← hW]; exact (World.Since.refl _ _).alloc (Nat.le_refl _) _
  have HST := Lib.hid (show RB w W (.slice none 0 0) [] from ⟨hS, World.ownsRow_nil _ _ _ _⟩)
  rw [hW]
  clear hS hW
  go_loopg [3, 7] 32 (fun g v i wr => ∃ r : Nat, r ≤ 32 ∧ g = 32 - r ∧ i = .int .i64 r ∧ RB w wr v (nzTo C r))
  case atStart => exact ⟨0, by omega, rfl, rfl, HST.out⟩
  case round =>
    obtain ⟨r, hr, rfl, rfl, hR⟩ := hrel
    clear HST
    by_cases hlt : r < 32
    · have hc := fun W => run_index_arr C hlt W
      obtain ⟨y, hy⟩ : ∃ y, C r = y := ⟨_, rfl⟩
      rw [hy] at hc
      have hle := nzTo_le C r
      have hzi := hR.since.size
      have HR := Lib.hid hR
      clear hR
      by_cases h0 : y = 0
      · subst h0
        have HN := Lib.hid (nzTo_no hy)
        clear hy
        go_wp2
        go_roundg (32 - (r + 1))
        case measure => omega
        case rel => exact ⟨r + 1, by omega, rfl, by go_num, by rw [HN.out]; exact HR.out⟩
      · have HN := Lib.hid (nzTo_yes (show C r ≠ 0 by rw [hy]; exact h0))
        have hy0 : (y != 0) = true := by simpa using h0
        clear hy h0
        go_wp2_with (at_builtin; (refine wpList_append_own _ rfl _ _ 22 rfl w.heap.size 3 i3 (.int .i64 0) 1 8 Try.underlying22 HJ.out.1 HJ.out.2.1 HJ.out.2.2.1 HJ.out.2.2.2 rfl (by decide) _ _ _ rfl (HR.out.own.alloc _) ⟨wr.heap.size, 0, none⟩ 1 1 [.int .i64 (r : Nat)] rfl rfl (cell_one_at _ _ _ rfl) (fun x hx => by simp at hx; subst hx; rfl) (by unfold maxLen; omega) (by omega) (by simp; omega) ?_); intro v' w5 hown' hgrow _)
        have hP := HR.out.push hown' hgrow
        rw [← HN.out] at hP
        have HP := Lib.hid hP
        clear hP hown' hgrow
        go_roundg (32 - (r + 1))
        case measure => omega
        case rel => exact ⟨r + 1, by omega, rfl, by go_num, HP.out⟩
    · obtain rfl : r = 32 := by omega
      have HR := Lib.hid hR
      clear hR
      go_wp2
      go_ret
      exact ⟨_, rfl, HR.out⟩

theorem nz_sets (k n : Nat) (p : List Int) : ∀ m, m ≤ 2 ^ n → nzTo (crd k n p) m = List.map (fun s : Nat => (s : Int)) ((setsTo k m).filter fun s => decide (atP p s ≠ 0))
  | 0, _ => rfl
  | m + 1, h => by
    have ih := nz_sets k n p m (by omega)
    by_cases hk : popcS m = k
    · have hc : crd k n p m = atP p m := by unfold crd; rw [if_pos ⟨by omega, hk⟩]
      rw [setsTo_yes hk, List.filter_append, List.map_append, ← ih]
      by_cases h0 : atP p m = 0
      · rw [nzTo_no (hc.trans h0)]; simp [h0]
      · rw [nzTo_yes (by rw [hc]; exact h0)]; simp [h0]
    · have hc : crd k n p m = 0 := by unfold crd; rw [if_neg (fun e => hk e.2)]
      rw [setsTo_no hk, ← ih, nzTo_no hc]
theorem nz_beyond (k n : Nat) (p : List Int) : ∀ j, nzTo (crd k n p) (2 ^ n + j) = nzTo (crd k n p) (2 ^ n)
  | 0 => rfl
  | j + 1 => by
    rw [← Nat.add_assoc, nzTo_no (by unfold crd; rw [if_neg (fun e => by omega)]), nz_beyond k n p j]
theorem nz_bases {k n : Nat} (hn : n ≤ 5) (p : List Int) : nzTo (crd k n p) 32 = basesP k n p := by
  have := pow_le5 hn
  rw [show 32 = 2 ^ n + (32 - 2 ^ n) by omega, nz_beyond, nz_sets k n p _ (Nat.le_refl _), basesP_eq]

/-- A row of one's own and whether there is one. -/
def POwn (w : World) (ok : Bool) (x : List Int) (e : Ending) (w' : World) : Prop :=
  ∃ a cap, e = .returned (.tuple #[.slice a (if ok = true then x else []).length cap, .bool ok]) ∧ w.Since w.heap.size w' ∧ OwnR w.heap.size w'.heap.size w' a (if ok = true then x else [])
theorem pown_no {w w' : World} {x : List Int} {a : Option Addr} {c : Nat} {e : Ending} (he : e = .returned (.tuple #[.slice a 0 c, .bool false])) (hs : w.Since w.heap.size w') : POwn w false x e w' :=
  ⟨a, c, he, hs, OwnR.nil _ _ _ _⟩
theorem pown_yes {w wr w' : World} {x : List Int} {v : Value} {e : Ending} (h : RB wr w' v x) (hs : w.Since w.heap.size wr) (he : e = .returned (.tuple #[v, .bool true])) : POwn w true x e w' := by
  obtain ⟨a, cp, rfl, hr⟩ := h.slice
  refine ⟨a, cp, he, hs.trans (since_mono h.since hs.size), fun h0 => ?_⟩
  obtain ⟨G, e2, hG, h3⟩ := hr h0
  exact ⟨G, e2, ⟨Nat.le_trans hs.size hG, h3.lt⟩, fun i hi => ⟨h3.cell hi, h3.frozen i⟩⟩

set_option maxRecDepth 100000 in
set_option maxHeartbeats 1000000 in
theorem implPlaceBases_any (k n : Int) (a : Option Addr) (cap m : Nat) (p : List Int) (w : World) (hm : p.length = m) (_hmx : m ≤ 1048576) (hr : RowR w a p) :
    Calls Try.prog 28 #[.int .i64 k, .int .i64 n, .slice a m cap] w (POwn w (placeB k n p) (basesP k.toNat n.toNat p)) := by
  have E := told_any k n a cap m p w hm hr
  unfold ToldP at E
  cases hb : placeB k n p with
  | false =>
    rw [hb] at E
    replace E := Lib.hid E
    clear hb hr hm
    go_enter Try.func28, Try.ntmps28
    go_wp2_with (first
      | (go_at_call 46; refine (E.out).mono ?_; rintro e w2 ⟨C, rfl, hs, _⟩; have HS := Lib.hid hs; clear hs)
      | (with_reducible (show wpList _ _ _ (Oper.mk _ (Op.store 48 _ _) _ _ _ _ :: _) _ _); rw [zero_lit]; refine wpList_store_arr rfl _ _ rfl _ rfl _ _ (ArrAt.new _ _) rfl ?_))
    go_ret2
    exact pown_no rfl (since_setRow (HS.out.alloc HS.out.size _) _ _ HS.out.size)
  | true =>
    obtain ⟨k', n', rfl, rfl, h1, h2, h3, _⟩ := placeB_of hb
    rw [hb] at E
    simp only [Int.toNat_natCast, forall_const] at E ⊢
    have EB := bases_any (crd k' n' p)
    rw [nz_bases h3] at EB
    obtain ⟨D, hD⟩ : ∃ D, crd k' n' p = D := ⟨_, rfl⟩
    rw [hD] at E EB
    replace E := Lib.hid E
    replace EB := Lib.hid EB
    clear hb hr hm hD
    go_enter Try.func28, Try.ntmps28
    go_wp2_with (first
      | (go_at_call 46; refine (E.out).mono ?_; rintro e w2 ⟨C, rfl, hs, rfl⟩; have HS := Lib.hid hs; clear hs)
      | (with_reducible (show wpList _ _ _ (Oper.mk _ (Op.store 48 _ _) _ _ _ _ :: _) _ _); rw [zero_lit]; refine wpList_store_arr rfl _ _ rfl _ rfl _ _ (ArrAt.new _ _) rfl ?_)
      | (with_reducible (show wpList _ _ _ (Oper.mk _ (Op.load _ _) 48 _ _ _ :: _) _ _); refine wpList_load_arr rfl _ rfl _ rfl C (ArrAt.new _ _).row ?_)
      | (go_at_call 54; refine (EB.out _).mono ?_; rintro e w3 ⟨v, rfl, hR⟩; have HRB := Lib.hid hR; clear hR))
    go_ret2
    exact pown_yes HRB.out (since_setRow (HS.out.alloc HS.out.size _) _ _ HS.out.size) rfl

end Go.Proofs.Ytbedkjpbdkgjpaa
