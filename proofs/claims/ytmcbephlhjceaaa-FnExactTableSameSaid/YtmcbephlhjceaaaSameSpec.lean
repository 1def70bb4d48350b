/- The contract of spec.TableSame. -/
import Derived.Test.YtmcbephlhjceaaaSumSpec
namespace Go.Proofs.Ytmcbephlhjceaaa
open Go.RowKit Go.Deep

/-- Two tables with the same entries are the same. -/
theorem same_ext {l u : List (List Int)} {n m : Nat} (hn : l.length = n) (hu : u.length = n) (hl : ∀ r, r < n → (l.getD r []).length = m) (hul : ∀ r, r < n → (u.getD r []).length = m) (h : ∀ r c, r < n → c < m → at2 l r c = at2 u r c) : l = u := by
  refine List.ext_getElem (by omega) fun r h1 h2 => ?_
  have e1 : l.getD r [] = l[r] := by simp [List.getD, h1]
  have e2 : u.getD r [] = u[r] := by simp [List.getD, h2]
  have l1 := hl r (by omega)
  have l2 := hul r (by omega)
  rw [e1] at l1
  rw [e2] at l2
  refine List.ext_getElem (by omega) fun c g1 g2 => ?_
  have := h r c (by omega) (by omega)
  unfold at2 at this
  rw [e1, e2] at this
  simpa [List.getD, g1, g2] using this

/-- The first r rows, and the first c numbers of row r, are the same. -/
def SameTo (l u : List (List Int)) (m r c : Nat) : Prop := (∀ i j, i < r → j < m → at2 l i j = at2 u i j) ∧ ∀ j, j < c → at2 l r j = at2 u r j
theorem SameTo.next {l u : List (List Int)} {m r : Nat} (h : SameTo l u m r m) : SameTo l u m (r + 1) 0 :=
  ⟨fun i j hi hj => by
    by_cases e : i = r
    · subst e; exact h.2 j hj
    · exact h.1 i j (by omega) hj, fun j hj => absurd hj (Nat.not_lt_zero _)⟩
theorem SameTo.step {l u : List (List Int)} {m r c : Nat} (h : SameTo l u m r c) (e : at2 l r c = at2 u r c) : SameTo l u m r (c + 1) :=
  ⟨h.1, fun j hj => by
    by_cases e' : j = c
    · subst e'; exact e
    · exact h.2 j (by omega)⟩

set_option maxRecDepth 100000 in
set_option maxHeartbeats 2000000 in
theorem l1Same_any (a a2 : Option Addr) (cap cap2 n n2 : Nat) (l u : List (List Int)) (w : World) (hn : l.length = n) (hu : u.length = n2) (hm : MatR w a l) (hmu : MatR w a2 u) (hT : TabIn l) (hTu : TabIn u) :
    Calls Try.prog 73 #[.slice a n cap, .slice a2 n2 cap2] w fun e w' => e = .returned (.bool (decide (l = u))) ∧ Drawn w w' := by
  have h6 := hT.2.1
  have h1 := hT.1
  have g6 := hTu.2.1
  have hw := hT.width
  have gw := hTu.width
  rw [hn] at h1 h6
  rw [hu] at g6
  by_cases hne : n = n2
  · subst hne
    obtain ⟨m, hmm⟩ : ∃ m, (l.getD 0 []).length = m := ⟨_, rfl⟩
    obtain ⟨m', hmm'⟩ : ∃ m, (u.getD 0 []).length = m := ⟨_, rfl⟩
    have hrow : ∀ r, r < n → (l.getD r []).length = m := fun r hr => by rw [hT.row (by omega), hmm]
    have hrowu : ∀ r, r < n → (u.getD r []).length = m' := fun r hr => by rw [hTu.row (by omega), hmm']
    obtain ⟨bt, ot, At, Ct, rfl, hlen, hcell⟩ := hm.grid hn hT hmm
    obtain ⟨bu, ou, Au, Cu, rfl, hlenu, hcellu⟩ := hmu.grid hu hTu hmm'
    rw [hmm] at hw
    rw [hmm'] at gw
    have HC := Lib.hid hcell
    have HCU := Lib.hid hcellu
    have HL := Lib.hid hlen
    have HLU := Lib.hid hlenu
    by_cases hmm2 : m = m'
    · subst hmm2
      have hext := same_ext hn hu hrow hrowu
      have HEXT := Lib.hid hext
      clear hm hmu hT hTu hcell hcellu hlen hlenu hmm hmm' hext hrow hrowu hn hu
      go_enter Try.func73, Try.ntmps73
      go_wp2
      go_loopg [5, 6] n (fun g i _ wr => ∃ r : Nat, r ≤ n ∧ g = n - r ∧ i = .int .i64 r ∧ Drawn w wr ∧ SameTo l u m r 0)
      case atStart => exact ⟨0, Nat.zero_le _, rfl, rfl, Drawn.refl w, fun i j hi => absurd hi (Nat.not_lt_zero _), fun j hj => absurd hj (Nat.not_lt_zero _)⟩
      case round =>
        obtain ⟨r, hr, rfl, rfl, hD, hSm⟩ := hrel
        obtain ⟨wo, rfl⟩ : ∃ wo : World, wo = wr := ⟨_, rfl⟩
        by_cases hlt : r < n
        · have e1 := HL.out r hlt
          have e2 := HLU.out r hlt
          rw [← hD.cell] at e1 e2
          have HSm := Lib.hid hSm
          clear hSm
          go_wp2
          go_quiet (fail)
          go_wp2
          go_loopg [6] m (fun g j wi => ∃ c : Nat, c ≤ m ∧ g = m - c ∧ j = .int .i64 c ∧ Drawn wo wi ∧ SameTo l u m r c)
          case atStart => exact ⟨0, Nat.zero_le _, rfl, rfl, Drawn.mk _ _, HSm.out⟩
          case round =>
            obtain ⟨c, hc, rfl, rfl, hDi, hSi⟩ := hrel
            clear HSm
            rw [← hDi.cell] at e1 e2
            by_cases hcm : c < m
            · clear e1 e2
              obtain ⟨b', o', e1, e2, _, _⟩ := HC.out r c hlt hcm
              obtain ⟨d', q', g1, g2, _, _⟩ := HCU.out r c hlt hcm
              rw [← hD.cell, ← hDi.cell] at e1 e2 g1 g2
              obtain ⟨y, hy⟩ : ∃ y, at2 l r c = y := ⟨_, rfl⟩
              obtain ⟨z, hz⟩ : ∃ z, at2 u r c = z := ⟨_, rfl⟩
              rw [hy] at e2
              rw [hz] at g2
              have HY := Lib.hid hy
              have HZ := Lib.hid hz
              have HSi := Lib.hid hSi
              clear hy hz hSi
              by_cases hyz : y = z
              · subst hyz
                go_wp2
                go_quiet (fail)
                go_wp2
                go_roundg (m - (c + 1))
                case measure => omega
                case rel => exact ⟨c + 1, by omega, rfl, by go_num, hDi.trans (Drawn.mk _ _), HSi.out.step (by rw [HY.out, HZ.out])⟩
              · have hb : (y != z) = true := by simp [hyz]
                go_wp2
                go_quiet (fail)
                go_wp2
                go_ret
                refine ⟨ret_bool (decide_eq_false fun e => ?_).symm, (hD.trans hDi).trans (Drawn.mk _ _)⟩
                subst e
                exact hyz (by rw [← HY.out, ← HZ.out])
            · have : c = m := by omega
              subst this
              have HSn := Lib.hid hSi.next
              clear hSi
              go_wp2
              go_roundg (n - (r + 1))
              case measure => omega
              case rel => exact ⟨r + 1, by omega, rfl, by go_num, hD.trans hDi, HSn.out⟩
        · have : r = n := by omega
          subst this
          have hlu : l = u := HEXT.out fun i j hi hj => hSm.1 i j hi hj
          have HLUu := Lib.hid hlu
          clear hlu hSm
          go_wp2
          go_ret
          exact ⟨ret_bool (decide_eq_true HLUu.out).symm, hD⟩
    · have hb : ((m : Int) != (m' : Int)) = true := by simp; omega
      have hno : l ≠ u := by
        rintro rfl
        exact hmm2 (hmm.symm.trans hmm')
      have HNO := Lib.hid hno
      have e1 := HL.out 0 (by omega)
      have e2 := HLU.out 0 (by omega)
      rw [Nat.add_zero] at e1 e2
      clear hm hmu hT hTu hcell hcellu hlen hlenu hmm hmm' hrow hrowu hn hu hno
      go_enter Try.func73, Try.ntmps73
      go_wp2
      go_loopg [5, 6] 0 (fun g i _ wr => i = .int .i64 0 ∧ wr = w)
      case atStart => exact ⟨rfl, rfl⟩
      case round =>
        obtain ⟨rfl, rfl⟩ := hrel
        go_wp2
        go_quiet (fail)
        go_wp2
        go_ret
        exact ⟨ret_bool (decide_eq_false HNO.out).symm, Drawn.mk _ _⟩
  · have hb : ((n : Int) != (n2 : Int)) = true := by simp; omega
    have hno : l ≠ u := by
      rintro rfl
      exact hne (hn.symm.trans hu)
    have HNO := Lib.hid hno
    clear hm hmu hT hTu hn hu hno
    go_enter Try.func73, Try.ntmps73
    go_wp2
    go_ret
    exact ⟨ret_bool (decide_eq_false HNO.out).symm, Drawn.refl _⟩

/-- Does TableSame hold? -/
noncomputable def sameOk (l u : List (List Int)) : Bool := tabIn l && (tabIn u && decide (l = u))

set_option maxHeartbeats 1000000 in
theorem specTableSame_any (a a2 : Option Addr) (cap cap2 n n2 : Nat) (l u : List (List Int)) (w : World) (hn : l.length = n) (hu : u.length = n2) (hsz : szL l ≤ 1048576) (hszu : szL u ≤ 1048576) (hm : MatR w a l) (hmu : MatR w a2 u) :
    Calls Try.prog 40 #[.slice a n cap, .slice a2 n2 cap2] w fun e w' => e = .returned (.bool (sameOk l u)) ∧ w.Since w.heap.size w' := by
  have E := Lib.hid (specTableIn_any a cap n l w hn hsz hm)
  have E2 := Lib.hid (fun (W : World) (hs : Drawn w W) => specTableIn_any a2 cap2 n2 u W hu hszu (hmu.drawn hs))
  cases hT : tabIn l with
  | false =>
    have hok : sameOk l u = false := by unfold sameOk; rw [hT]; rfl
    rw [hT] at E
    rw [hok]
    clear hT hsz hm hn hok E2 hszu hmu hu
    go_enter Try.func40, Try.ntmps40
    go_wp2_with fail
    refine (E.out).mono ?_
    rintro e w1 ⟨rfl, hd⟩
    go_wp2
    go_ret
    exact ⟨rfl, hd.since _⟩
  | true =>
    have hTT := tabIn_of hT
    rw [hT] at E
    cases hTu : tabIn u with
    | false =>
      have hok : sameOk l u = false := by unfold sameOk; rw [hT, hTu]; rfl
      rw [hTu] at E2
      rw [hok]
      clear hT hsz hm hn hok hTT hTu hszu hmu hu
      go_enter Try.func40, Try.ntmps40
      go_wp2_with fail
      refine (E.out).mono ?_
      rintro e w1 ⟨rfl, hd⟩
      go_wp2_with fail
      refine (E2.out w1 hd).mono ?_
      rintro e w2 ⟨rfl, hd2⟩
      go_wp2
      go_ret
      exact ⟨rfl, (hd.trans hd2).since _⟩
    | true =>
      have hTTu := tabIn_of hTu
      rw [hTu] at E2
      have hok : sameOk l u = decide (l = u) := by unfold sameOk; rw [hT, hTu]; rfl
      rw [hok]
      have E3 := Lib.hid (fun (W : World) (hs : Drawn w W) => l1Same_any a a2 cap cap2 n n2 l u W hn hu (hm.drawn hs) (hmu.drawn hs) hTT hTTu)
      obtain ⟨b, hb⟩ : ∃ b, decide (l = u) = b := ⟨_, rfl⟩
      rw [hb] at E3 ⊢
      clear hT hsz hm hn hok hTT hTu hszu hmu hu hTTu hb
      go_enter Try.func40, Try.ntmps40
      go_wp2_with fail
      refine (E.out).mono ?_
      rintro e w1 ⟨rfl, hd⟩
      go_wp2_with fail
      refine (E2.out w1 hd).mono ?_
      rintro e w2 ⟨rfl, hd2⟩
      have hd12 := hd.trans hd2
      go_wp2_with fail
      refine (E3.out w2 hd12).mono ?_
      rintro e w3 ⟨rfl, hd3⟩
      go_wp2
      go_ret
      exact ⟨rfl, (hd12.trans hd3).since _⟩

end Go.Proofs.Ytmcbephlhjceaaa
