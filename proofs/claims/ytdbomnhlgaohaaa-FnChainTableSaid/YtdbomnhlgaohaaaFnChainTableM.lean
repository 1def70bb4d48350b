import Derived.Test.YtdbomnhlgaohaaaSome0
import Derived.Test.YtdbomnhlgaohaaaMark
import Derived.Test.YtdbomnhlgaohaaaChainP
import Derived.Test.YtdbomnhlgaohaaaChainV
import Derived.Test.YtdbomnhlgaohaaaChainS
import Derived.Laws.CopyOwn
import Derived.Test.YtdbomnhlgaohaaaTurnImpl
import Derived.Test.YtdbomnhlgaohaaaWR
import Derived.Test.YtdbomnhlgaohaaaGrid
import Derived.Test.YtdbomnhlgaohaaaMakeEntry
import Derived.StillTailTactics
import Derived.Test.YtdbomnhlgaohaaaOrdF
import Derived.Test.YtdbomnhlgaohaaaPartImpl
import Derived.Test.YtdbomnhlgaohaaaUnitImpl
import Derived.Test.YtdbomnhlgaohaaaNewTable
import Derived.Test.YtdbomnhlgaohaaaOrdDet
import Derived.Test.YtdbomnhlgaohaaaL2Square
import Derived.Test.YtdbomnhlgaohaaaRoads
import Derived.Test.YtdbomnhlgaohaaaSig
import Derived.Test.YtdbomnhlgaohaaaOrdersI
import Derived.Maps.AppendAt
import Derived.Test.YtdbomnhlgaohaaaHarn2
import Derived.Test.YtdbomnhlgaohaaaRows
import Derived.Test.YtdbomnhlgaohaaaData
import Derived.ProofKit
import Derived.Deep.Matrix
import Derived.Test.YtdbomnhlgaohaaaDraw0

section
namespace Go.Proofs.Ytdbomnhlgaohaaa
open Go.RowKit Go.Deep

def Drawn0 (w w' : World) (R K : Nat) (a : Option Addr) (l : List (List Int)) : Prop :=
  1 ≤ l.length ∧ l.length ≤ R ∧ (∀ j, j < l.length → 1 ≤ (l.getD j []).length ∧ (l.getD j []).length ≤ K + 1) ∧ InT w.heap.size w'.heap.size w' a l

theorem lens_set {l : List (List Int)} {r : Nat} {y : List Int} {n m K : Nat} (hl : l.length = n) (h : ∀ j, j < n → (l.getD j []).length = m) (hm : 1 ≤ m ∧ m ≤ K) (hy : 1 ≤ y.length ∧ y.length ≤ K + 1) : ∀ j, j < (l.set r y).length → 1 ≤ ((l.set r y).getD j []).length ∧ ((l.set r y).getD j []).length ≤ K + 1 := by
  intro j hj
  rw [List.length_set] at hj
  by_cases e : j = r
  · subst e
    rw [show (l.set j y).getD j [] = y by simp [List.getD, hj]]
    exact hy
  · rw [show (l.set r y).getD j [] = l.getD j [] by simp [List.getD, List.getElem?_set_ne (Ne.symm e)], h j (by omega)]
    omega

end Go.Proofs.Ytdbomnhlgaohaaa
end

section
namespace Go.Proofs.Ytdbomnhlgaohaaa
open Go.RowKit Go.Deep

set_option maxHeartbeats 1000000 in
theorem l6Open_any (a : Option Addr) (nb cb : Nat) (w : World) (hc : nb ≤ cb) (h63 : cb ≤ 9223372036854775807) (hb : BytR w a nb) :
    Calls Try.prog 58 #[.slice a nb cb] w fun e w' => ∃ n' c', e = .returned (.pointer (some ⟨w.heap.size, 0, none⟩)) ∧ w.Since w.heap.size w' ∧ w'.heap.size = w.heap.size + 1 ∧ RD w w' w.heap.size a n' c' 72 0 := by
  by_cases hl : 2000 < nb
  · have hl' : decide ((2000 : Int) < (nb : Int)) = true := by simp; omega
    have h2 : (2000 : Int) ≤ (cb : Int) := by omega
    obtain ⟨b, o, rfl, hcell⟩ := hb (by omega)
    go_enter Try.func58, Try.ntmps58
    go_wp2
    go_ret
    exact ⟨_, _, rfl, (World.Since.refl _ _).alloc (Nat.le_refl _) _, by simp, ⟨heap_alloc_new _ _, Nat.le_refl _, (World.Since.refl _ _).alloc (Nat.le_refl _) _, fun _ => ⟨b, o, rfl, fun i hi => hcell i (by omega)⟩, by omega⟩⟩
  · have hl' : decide ((2000 : Int) < (nb : Int)) = false := by simp; omega
    go_enter Try.func58, Try.ntmps58
    go_wp2
    go_ret
    exact ⟨_, _, rfl, (World.Since.refl _ _).alloc (Nat.le_refl _) _, by simp, ⟨heap_alloc_new _ _, Nat.le_refl _, (World.Since.refl _ _).alloc (Nat.le_refl _) _, hb, by omega⟩⟩

def DrawnT (w w' : World) (R K : Nat) (a : Option Addr) (l : List (List Int)) : Prop :=
  1 ≤ l.length ∧ l.length ≤ R ∧ (∀ j, j < l.length → 1 ≤ (l.getD j []).length ∧ (l.getD j []).length ≤ K + 1) ∧ InT w.heap.size w'.heap.size w' a l

end Go.Proofs.Ytdbomnhlgaohaaa
end

section
namespace Go.Proofs.Ytdbomnhlgaohaaa
open Go.RowKit Go.Deep

end Go.Proofs.Ytdbomnhlgaohaaa
end

section
namespace Go.Proofs.Ytdbomnhlgaohaaa
open Go.RowKit Go.Deep

def InR (lo hi : Nat) (w : World) (a : Option Addr) (x : List Int) : Prop :=
  0 < x.length → ∃ g o : Nat, a = some ⟨g, o, none⟩ ∧ (lo ≤ g ∧ g < hi) ∧ ∀ i, i < x.length → w.cell? ⟨g, o + i, none⟩ = some (.int .i64 (x.getD i 0))
def OwnR (lo hi : Nat) (w : World) (a : Option Addr) (x : List Int) : Prop :=
  0 < x.length → ∃ g : Nat, a = some ⟨g, 0, none⟩ ∧ (lo ≤ g ∧ g < hi) ∧ ∀ i, i < x.length → w.cell? ⟨g, i, none⟩ = some (.int .i64 (x.getD i 0)) ∧ w.frozen? ⟨g, i, none⟩ = false
theorem OwnR.inR {lo hi : Nat} {w : World} {a : Option Addr} {x : List Int} (h : OwnR lo hi w a x) : InR lo hi w a x := fun h0 => by
  obtain ⟨g, e, hg, hc⟩ := h h0
  exact ⟨g, 0, e, hg, fun i hi => by rw [Nat.zero_add]; exact (hc i hi).1⟩
theorem InR.rowR {lo hi : Nat} {w : World} {a : Option Addr} {x : List Int} (h : InR lo hi w a x) : RowR w a x := fun h0 => by
  obtain ⟨g, o, e, _, hc⟩ := h h0
  exact ⟨g, o, e, hc⟩
theorem OwnR.rowR {lo hi : Nat} {w : World} {a : Option Addr} {x : List Int} (h : OwnR lo hi w a x) : RowR w a x := h.inR.rowR
theorem InR.nil (lo hi : Nat) (w : World) (a : Option Addr) : InR lo hi w a [] := fun h => by simp at h
theorem OwnR.nil (lo hi : Nat) (w : World) (a : Option Addr) : OwnR lo hi w a [] := fun h => by simp at h
theorem InR.mono {lo hi lo' hi' : Nat} {w : World} {a : Option Addr} {x : List Int} (h : InR lo hi w a x) (h1 : lo' ≤ lo) (h2 : hi ≤ hi') : InR lo' hi' w a x := fun h0 => by
  obtain ⟨g, o, e, hg, hc⟩ := h h0
  exact ⟨g, o, e, by omega, hc⟩
theorem OwnR.mono {lo hi lo' hi' : Nat} {w : World} {a : Option Addr} {x : List Int} (h : OwnR lo hi w a x) (h1 : lo' ≤ lo) (h2 : hi ≤ hi') : OwnR lo' hi' w a x := fun h0 => by
  obtain ⟨g, e, hg, hc⟩ := h h0
  exact ⟨g, e, by omega, hc⟩
theorem InR.frame {lo hi lo' hi' : Nat} {w w' : World} {a : Option Addr} {x : List Int} (h : InR lo hi w a x) (hf : Frame lo' hi' w w') (hd : hi ≤ lo' ∨ hi' ≤ lo) : InR lo hi w' a x := fun h0 => by
  obtain ⟨g, o, e, hg, hc⟩ := h h0
  exact ⟨g, o, e, hg, fun i hi1 => hf.cell (hc i hi1) (by show g < lo' ∨ hi' ≤ g; omega)⟩
theorem OwnR.frame {lo hi lo' hi' : Nat} {w w' : World} {a : Option Addr} {x : List Int} (h : OwnR lo hi w a x) (hf : Frame lo' hi' w w') (hd : hi ≤ lo' ∨ hi' ≤ lo) : OwnR lo hi w' a x := fun h0 => by
  obtain ⟨g, e, hg, hc⟩ := h h0
  exact ⟨g, e, hg, fun i hi1 => ⟨hf.cell (hc i hi1).1 (by show g < lo' ∨ hi' ≤ g; omega), (hf.frozen (hc i hi1).1 (by show g < lo' ∨ hi' ≤ g; omega)).trans (hc i hi1).2⟩⟩
theorem InR.since {lo hi : Nat} {w w' : World} {a : Option Addr} {x : List Int} (h : InR lo hi w a x) (hs : w.Since w.heap.size w') : InR lo hi w' a x := h.frame (frame_since hs hi hi) (.inl (Nat.le_refl _))
theorem OwnR.since {lo hi : Nat} {w w' : World} {a : Option Addr} {x : List Int} (h : OwnR lo hi w a x) (hs : w.Since w.heap.size w') : OwnR lo hi w' a x := h.frame (frame_since hs hi hi) (.inl (Nat.le_refl _))
theorem RowMade.ownR {w wr : World} {l : List Int} (h : RowMade w wr l l.length) : OwnR w.heap.size wr.heap.size wr (some ⟨w.heap.size, 0, none⟩) l := fun _ => by
  have hs := h.size
  refine ⟨w.heap.size, rfl, by omega, fun i hi => ⟨?_, h.row.frozen i⟩⟩
  have := h.row.cell (i := i) hi
  rw [if_pos hi] at this
  exact this

theorem toIntR_any (a : Option Addr) (cap n : Nat) (l : List Int) (w : World) (hn : l.length = n) (hn1 : n ≤ 1048576) (hm : RowR w a l) :
    Calls Try.prog 33 #[.slice a n cap] w fun e w' => e = .returned (.slice (some ⟨w.heap.size, 0, none⟩) n n) ∧ w.Since w.heap.size w' ∧ OwnR w.heap.size w'.heap.size w' (some ⟨w.heap.size, 0, none⟩) l := by
  subst hn
  exact (toIntS_any a cap l w hn1 hm).mono fun _ _ h => ⟨h.1, h.2.since, h.2.ownR⟩

theorem markR_any (a : Option Addr) (lo hi cap m : Nat) (k : Int) (x : List Int) (w : World) (hx : x.length = m) (h0 : 0 ≤ k) (hk : k + m ≤ 4000000) (h : OwnR lo hi w a x) :
    Calls Try.prog 36 #[.slice a m cap, .int .i64 k] w fun e w' => e = .returned (.int .i64 (k + m)) ∧ OwnR lo hi w' a (markRow k m) ∧ Frame lo hi w w' ∧ w'.heap.size = w.heap.size := by
  by_cases h1 : 0 < m
  · obtain ⟨g, e, hg, hc⟩ := h (by omega)
    refine (markIntS_any a g cap m k x w hx h0 hk (fun _ => e) (fun i hi => (hc i (by omega)).1) (fun i hi => (hc i (by omega)).2)).mono ?_
    rintro r w' ⟨rfl, hM⟩
    refine ⟨rfl, fun _ => ⟨g, e, hg, fun i hi => ?_⟩, hM.frame (.inl hg), hM.size⟩
    rw [markRow_length] at hi
    refine ⟨?_, hM.frozen i hi⟩
    rw [hM.cell i hi, if_pos hi, markRow_get _ _ _ hi]
  · have hm : m = 0 := by omega
    subst hm
    have hxe : x = [] := List.length_eq_zero_iff.1 hx
    clear h
    go_enter Try.func36, Try.ntmps36
    go_wp2
    go_loopg [1, 5] 0 (fun g q i wr => q = .int .i64 k ∧ i = .int .i64 0 ∧ wr = w)
    case atStart => exact ⟨rfl, rfl, rfl⟩
    case round =>
      obtain ⟨rfl, rfl, rfl⟩ := hrel
      go_wp2
      go_ret
      exact ⟨ret_int (by simp), OwnR.nil _ _ _ _, Frame.refl _ _ _, rfl⟩

end Go.Proofs.Ytdbomnhlgaohaaa
end

section
namespace Go.Proofs.Ytdbomnhlgaohaaa
open Go.RowKit Go.Deep

theorem RW.rowR {B : Nat} {w : World} {v : Value} {x : List Int} {j : Nat} (h : RW B w v x) (hx : x.length = j) : ∃ ax cx, v = .slice ax j cx ∧ RowR w ax x := by
  by_cases h0 : 0 < x.length
  · obtain ⟨g, cp, e, hge, hrb⟩ := h.form h0
    rw [hx] at e
    exact ⟨_, cp, e, fun _ => ⟨g, 0, rfl, fun i hi => by rw [Nat.zero_add]; exact hrb.cell hi⟩⟩
  · rcases h.2 with ⟨e, _⟩ | ⟨g, cp, cur, e, _⟩
    · exact ⟨none, 0, by rw [e]; congr 1; omega, fun h => absurd h h0⟩
    · rw [hx] at e
      exact ⟨_, cp, e, fun h => absurd h h0⟩

end Go.Proofs.Ytdbomnhlgaohaaa
end

section
namespace Go.Proofs.Ytdbomnhlgaohaaa
open Go.RowKit Go.Deep

set_option maxRecDepth 100000 in
set_option maxHeartbeats 2000000 in
theorem l92Numbers_any (w0 w : World) (G nb c p N : Nat) (a : Option Addr) (h : RD w0 w G a nb c 72 p) (hG : G < w.heap.size) (hN : N ≤ 13) (hp : p ≤ 90000) :
    Calls Try.prog 59 #[.pointer (some ⟨G, 0, none⟩), .int .i64 N] w fun e w' => ∃ ax cx x, e = .returned (.slice ax (List.length x) cx) ∧ x.length = N ∧ RowR w' ax x ∧ w.grownBy w' (some G) := by
  obtain ⟨i3, hi3⟩ := info3_parts
  have HJ := Lib.hid hi3
  have HD := Lib.hid h
  clear hi3 h
  go_enter Try.func59, Try.ntmps59
  go_wp2
  have HD3 := Lib.hid (HD.out.grown (World.grownBy_alloc w (.cells #[] 3) none) (fun k e => by cases e))
  have HG3 := Lib.hid (show w.grownBy (w.alloc (.cells #[] 3)) (some G) from grown_alloc (World.grownBy_refl w (some G)) (.cells #[] 3))
  have HW3 := Lib.hid (show RW w.heap.size (w.alloc (.cells #[] 3)) (.slice (some ⟨w.heap.size, 0, none⟩) 0 0) [] from World.ownsRow_made w #[] 0 (Nat.le_refl _) (Nat.zero_le _) rfl)
  go_loopg [5, 6] N (fun g v i wr => ∃ j p x, j ≤ N ∧ g = N - j ∧ i = .int .i64 (j : Nat) ∧ List.length x = j ∧ w.grownBy wr (some G) ∧ RD w0 wr G a nb c 72 p ∧ p ≤ 90000 + 2 * j ∧ RW w.heap.size wr v x)
  case atStart => exact ⟨0, p, [], Nat.zero_le _, rfl, rfl, rfl, HG3.out, HD3.out, by omega, HW3.out⟩
  case round =>
    obtain ⟨j, p, x, hj, rfl, rfl, hxl, hgi, hdi, hpp, hW⟩ := hrel
    clear HG3 HW3 HD HD3
    have HD := Lib.hid hdi
    have HG := Lib.hid hgi
    have HW := Lib.hid hW
    have hz4 := hgi.size
    clear hdi hgi hW
    by_cases hjN : j < N
    · go_wp2_with fail
      refine (pick_any w0 _ G nb c _ a _ HD.out (by omega)).mono ?_
      rintro e w4 ⟨z, rfl, hzz, hg4, hd4⟩
      have HW4 := Lib.hid (HW.out.kept hg4 (by omega))
      have HG4 := Lib.hid (grown_trans HG.out hg4)
      have HD4 := Lib.hid hd4
      have hz5 := HG4.out.size
      obtain ⟨u, hu⟩ : ∃ u : Int, IntKind.i64.wrap ((z : Int) - 3) = u := ⟨_, rfl⟩
      clear hg4 hd4
      go_wp2_with (at_builtin; (refine wpList_append_own _ rfl _ _ 23 rfl w.heap.size 3 i3 (.int .i64 0) 1 8 Try.underlying23 HJ.out.1 HJ.out.2.1 HJ.out.2.2.1 HJ.out.2.2.2 rfl (by decide) _ _ (x.map (Value.int .i64)) rfl (World.ownsRow.alloc HW4.out _) ⟨w4.heap.size, 0, none⟩ 1 1 [.int .i64 u] rfl rfl (cell_one_at _ _ _ rfl) (fun x hx => by simp at hx; subst hx; rfl) (by unfold maxLen; omega) (by omega) (by simp; omega) ?_); intro v' w5 hown' hgrow _)
      have HW5 := Lib.hid (show RW w.heap.size w5 v' (x ++ [u]) by
        have := hown'
        unfold RW
        rw [List.length_append, List.map_append]
        exact this)
      have hge := fun i e => (World.ownsRow.lt HW4.out i e).1
      have HD5 := Lib.hid ((HD4.out.grown (World.grownBy_alloc w4 (.cells #[.int .i64 u] 3) none) (fun k e => by cases e)).grown hgrow (fun i e => by have := hge i e; omega))
      have HG5 := Lib.hid (grown_new (grown_alloc HG4.out _) hgrow hge)
      clear hown' hgrow hge
      go_roundg (N - (j + 1))
      case measure => omega
      case rel => exact ⟨j + 1, _, x ++ [u], by omega, rfl, by go_num, by rw [List.length_append, hxl]; rfl, HG5.out, HD5.out, by omega, HW5.out⟩
    · have hjj : j = N := by omega
      subst hjj
      obtain ⟨ax, cx, hv, hrr⟩ := HW.out.rowR hxl
      subst hv
      have HR := Lib.hid hrr
      clear hrr
      go_wp2
      go_ret
      exact ⟨ax, cx, x, by rw [hxl]; rfl, hxl, HR.out, HG.out⟩

end Go.Proofs.Ytdbomnhlgaohaaa
end

section
namespace Go.Proofs.Ytdbomnhlgaohaaa
open Go.RowKit Go.Deep

theorem getD_snocC (x : List Int) (u : Int) (j : Nat) : (x ++ [u]).getD j 0 = if j < x.length then x.getD j 0 else if j = x.length then u else 0 := by
  by_cases h : j < x.length
  · rw [if_pos h]; simp [List.getD, List.getElem?_append_left h]
  · rw [if_neg h]
    by_cases e : j = x.length
    · subst e; simp [List.getD]
    · rw [if_neg e]; simp [List.getD, List.getElem?_eq_none (show (x ++ [u]).length ≤ j by simp; omega)]

theorem RW.rowD {B : Nat} {w : World} {v : Value} {x : List Int} {j : Nat} (h : RW B w v x) (hx : x.length = j) : ∃ ax cx, v = .slice ax j cx ∧ RowR w ax x ∧ j ≤ cx ∧ cx ≤ 9223372036854775807 := by
  obtain ⟨ax, cx, e, hr⟩ := h.rowR hx
  refine ⟨ax, cx, e, hr, ?_⟩
  rcases h.2 with ⟨hv, hn⟩ | ⟨g, cap, cur, hv, _, _, hle, hmax, _, _⟩
  · rw [hv] at e
    injection e with _ _ e3
    omega
  · rw [hv] at e
    injection e with _ e2 e3
    unfold maxLen at hmax
    omega

set_option maxRecDepth 100000 in
set_option maxHeartbeats 2000000 in
theorem l92NumbersD_any (w0 w : World) (G nb c p N : Nat) (a : Option Addr) (h : RD w0 w G a nb c 72 p) (hG : G < w.heap.size) (hN : N ≤ 13) (hp : p ≤ 90000) :
    Calls Try.prog 59 #[.pointer (some ⟨G, 0, none⟩), .int .i64 N] w fun e w' => ∃ ax cx x, e = .returned (.slice ax (List.length x) cx) ∧ x.length = N ∧ RowR w' ax x ∧ (N ≤ cx ∧ cx ≤ 9223372036854775807) ∧ w.grownBy w' (some G) := by
  obtain ⟨i3, hi3⟩ := info3_parts
  have HJ := Lib.hid hi3
  have HD := Lib.hid h
  clear hi3 h
  go_enter Try.func59, Try.ntmps59
  go_wp2
  have HD3 := Lib.hid (HD.out.grown (World.grownBy_alloc w (.cells #[] 3) none) (fun k e => by cases e))
  have HG3 := Lib.hid (show w.grownBy (w.alloc (.cells #[] 3)) (some G) from grown_alloc (World.grownBy_refl w (some G)) (.cells #[] 3))
  have HW3 := Lib.hid (show RW w.heap.size (w.alloc (.cells #[] 3)) (.slice (some ⟨w.heap.size, 0, none⟩) 0 0) [] from World.ownsRow_made w #[] 0 (Nat.le_refl _) (Nat.zero_le _) rfl)
  go_loopg [5, 6] N (fun g v i wr => ∃ j p x, j ≤ N ∧ g = N - j ∧ i = .int .i64 (j : Nat) ∧ List.length x = j ∧ w.grownBy wr (some G) ∧ RD w0 wr G a nb c 72 p ∧ p ≤ 90000 + 2 * j ∧ RW w.heap.size wr v x)
  case atStart => exact ⟨0, p, [], Nat.zero_le _, rfl, rfl, rfl, HG3.out, HD3.out, by omega, HW3.out⟩
  case round =>
    obtain ⟨j, p, x, hj, rfl, rfl, hxl, hgi, hdi, hpp, hW⟩ := hrel
    clear HG3 HW3 HD HD3
    have HD := Lib.hid hdi
    have HG := Lib.hid hgi
    have HW := Lib.hid hW
    have hz4 := hgi.size
    clear hdi hgi hW
    by_cases hjN : j < N
    · go_wp2_with fail
      refine (pick_any w0 _ G nb c _ a _ HD.out (by omega)).mono ?_
      rintro e w4 ⟨z, rfl, hzz, hg4, hd4⟩
      have HW4 := Lib.hid (HW.out.kept hg4 (by omega))
      have HG4 := Lib.hid (grown_trans HG.out hg4)
      have HD4 := Lib.hid hd4
      have hz5 := HG4.out.size
      obtain ⟨u, hu⟩ : ∃ u : Int, IntKind.i64.wrap ((z : Int) - 3) = u := ⟨_, rfl⟩
      clear hg4 hd4
      go_wp2_with (at_builtin; (refine wpList_append_own _ rfl _ _ 23 rfl w.heap.size 3 i3 (.int .i64 0) 1 8 Try.underlying23 HJ.out.1 HJ.out.2.1 HJ.out.2.2.1 HJ.out.2.2.2 rfl (by decide) _ _ (x.map (Value.int .i64)) rfl (World.ownsRow.alloc HW4.out _) ⟨w4.heap.size, 0, none⟩ 1 1 [.int .i64 u] rfl rfl (cell_one_at _ _ _ rfl) (fun x hx => by simp at hx; subst hx; rfl) (by unfold maxLen; omega) (by omega) (by simp; omega) ?_); intro v' w5 hown' hgrow _)
      have HW5 := Lib.hid (show RW w.heap.size w5 v' (x ++ [u]) by
        have := hown'
        unfold RW
        rw [List.length_append, List.map_append]
        exact this)
      have hge := fun i e => (World.ownsRow.lt HW4.out i e).1
      have HD5 := Lib.hid ((HD4.out.grown (World.grownBy_alloc w4 (.cells #[.int .i64 u] 3) none) (fun k e => by cases e)).grown hgrow (fun i e => by have := hge i e; omega))
      have HG5 := Lib.hid (grown_new (grown_alloc HG4.out _) hgrow hge)
      clear hown' hgrow hge
      go_roundg (N - (j + 1))
      case measure => omega
      case rel => exact ⟨j + 1, _, x ++ [u], by omega, rfl, by go_num, by rw [List.length_append, hxl]; rfl, HG5.out, HD5.out, by omega, HW5.out⟩
    · have hjj : j = N := by omega
      subst hjj
      obtain ⟨ax, cx, hv, hrr, hcap⟩ := HW.out.rowD hxl
      subst hv
      have HR := Lib.hid hrr
      clear hrr
      go_wp2
      go_ret
      exact ⟨ax, cx, x, by rw [hxl]; rfl, hxl, HR.out, hcap, HG.out⟩

set_option maxRecDepth 100000 in
set_option maxHeartbeats 4000000 in
theorem l92Chain_any (a : Option Addr) (nb cb : Nat) (w0 : World) (hc : nb ≤ cb) (h63 : cb ≤ 9223372036854775807) (hb : BytR w0 a nb) :
    Calls Try.prog 46 #[.slice a nb cb] w0 fun e w' => ∃ ax cx x, e = .returned (.slice ax (List.length x) cx) ∧ w0.Since w0.heap.size w' ∧ x.length ≤ 7 ∧ RowR w' ax x ∧ x.length ≤ cx ∧ cx ≤ 9223372036854775807 := by
  obtain ⟨i3, hi3⟩ := info3_parts
  have HJ := Lib.hid hi3
  have E := Lib.hid (l6Open_any a nb cb w0 hc h63 hb)
  clear hb hi3
  go_enter Try.func46, Try.ntmps46
  go_wp2_with fail
  refine (E.out).mono ?_
  rintro e w ⟨nb, c, rfl, hs, hz, hd⟩
  have HS1 := Lib.hid hs
  have hz1 : w0.heap.size < w.heap.size := by omega
  have HD3 := Lib.hid (hd.grown (World.grownBy_alloc w (.cells #[] 3) none) (fun k e => by cases e))
  have HG3 := Lib.hid (show w.grownBy (w.alloc (.cells #[] 3)) (some w0.heap.size) from grown_alloc (World.grownBy_refl w (some w0.heap.size)) (.cells #[] 3))
  have HW3 := Lib.hid (show RW w.heap.size (w.alloc (.cells #[] 3)) (.slice (some ⟨w.heap.size, 0, none⟩) 0 0) [] from World.ownsRow_made w #[] 0 (Nat.le_refl _) (Nat.zero_le _) rfl)
  have hz3 : (w.alloc (.cells #[] 3)).heap.size = w.heap.size + 1 := by simp
  clear hd hz hs
  go_wp2_with fail
  refine (pick_any w0 _ w0.heap.size nb c _ a _ HD3.out (by omega)).mono ?_
  rintro e w4 ⟨y, rfl, hy, hg4, hd4⟩
  have HW4 := Lib.hid (HW3.out.kept hg4 (by omega))
  have HG4 := Lib.hid (grown_trans HG3.out hg4)
  have HD4 := Lib.hid hd4
  have hz4 := HG4.out.size
  clear hg4 hd4 HD3 HG3 HW3
  go_wp2_with fail
  refine (pick_any w0 _ w0.heap.size nb c _ a _ HD4.out (by omega)).mono ?_
  rintro e w5 ⟨y2, rfl, hy2, hg5, hd5⟩
  have HW5 := Lib.hid (HW4.out.kept hg5 (by omega))
  have HG5 := Lib.hid (grown_trans HG4.out hg5)
  have HD5 := Lib.hid hd5
  have hz5 := HG5.out.size
  clear hg5 hd5 HD4 HG4 HW4
  obtain ⟨t, ht⟩ : ∃ t : Nat, y2 / 39 = t := ⟨_, rfl⟩
  obtain ⟨N, hN⟩ : ∃ N : Nat, y + t = N := ⟨_, rfl⟩
  have hN7 : N ≤ 7 := by omega
  have hti : ((y2 : Int) / 39) = (t : Int) := by omega
  have htd : Int.tdiv (y2 : Int) 39 = (t : Int) := by rw [Int.tdiv_eq_ediv_of_nonneg (by omega)]; exact hti
  have hNi : (y : Int) + (t : Int) = (N : Int) := by omega
  clear ht hN
  go_wp2
  go_loopg [4, 6] N (fun g v i wr => ∃ j p x, j ≤ N ∧ g = N - j ∧ i = .int .i64 (j : Nat) ∧ List.length x = j ∧ w.grownBy wr (some w0.heap.size) ∧ RD w0 wr w0.heap.size a nb c 72 p ∧ p ≤ 90000 + 2 * j ∧ RW w.heap.size wr v x)
  case atStart => exact ⟨0, _, [], Nat.zero_le _, rfl, rfl, rfl, HG5.out, HD5.out, by omega, HW5.out⟩
  case round =>
    obtain ⟨j, p, x, hj, rfl, rfl, hxl, hgi, hdi, hpp, hW⟩ := hrel
    clear HG5 HW5 HD5
    have HD := Lib.hid hdi
    have HG := Lib.hid hgi
    have HW := Lib.hid hW
    have hz6 := hgi.size
    clear hdi hgi hW
    by_cases hjN : j < N
    · go_wp2_with fail
      refine (pick_any w0 _ w0.heap.size nb c _ a _ HD.out (by omega)).mono ?_
      rintro e w4 ⟨z, rfl, hzz, hg4, hd4⟩
      have HW4 := Lib.hid (HW.out.kept hg4 (by omega))
      have HG4 := Lib.hid (grown_trans HG.out hg4)
      have HD4 := Lib.hid hd4
      have hz7 := HG4.out.size
      clear hg4 hd4 HD HG HW
      go_wp2_with fail
      refine (pick_any w0 _ w0.heap.size nb c _ a _ HD4.out (by omega)).mono ?_
      rintro e w5 ⟨z2, rfl, hzz2, hg5, hd5⟩
      have HW5 := Lib.hid (HW4.out.kept hg5 (by omega))
      have HG5 := Lib.hid (grown_trans HG4.out hg5)
      have HD5 := Lib.hid hd5
      have hz8 := HG5.out.size
      clear hg5 hd5 HD4 HG4 HW4
      obtain ⟨u, hu⟩ : ∃ u : Int, (z : Int) - 4 + (z2 : Int) / 39 * 9 = u := ⟨_, rfl⟩
      go_wp2_with (at_builtin; (refine wpList_append_own _ rfl _ _ 23 rfl w.heap.size 3 i3 (.int .i64 0) 1 8 Try.underlying23 HJ.out.1 HJ.out.2.1 HJ.out.2.2.1 HJ.out.2.2.2 rfl (by decide) _ _ (x.map (Value.int .i64)) rfl (World.ownsRow.alloc HW5.out _) ⟨w5.heap.size, 0, none⟩ 1 1 [.int .i64 u] rfl rfl (cell_one_at _ _ _ rfl) (fun x hx => by simp at hx; subst hx; rfl) (by unfold maxLen; omega) (by omega) (by simp; omega) ?_); intro v' w6 hown' hgrow _)
      have HW6 := Lib.hid (show RW w.heap.size w6 v' (x ++ [u]) by
        have := hown'
        unfold RW
        rw [List.length_append, List.map_append]
        exact this)
      have hge := fun i e => (World.ownsRow.lt HW5.out i e).1
      have HD6 := Lib.hid ((HD5.out.grown (World.grownBy_alloc w5 (.cells #[.int .i64 u] 3) none) (fun k e => by cases e)).grown hgrow (fun i e => by have := hge i e; omega))
      have HG6 := Lib.hid (grown_new (grown_alloc HG5.out _) hgrow hge)
      clear hown' hgrow hge
      go_roundg (N - (j + 1))
      case measure => omega
      case rel => exact ⟨j + 1, _, x ++ [u], by omega, rfl, by go_num, by rw [List.length_append, hxl]; rfl, HG6.out, HD6.out, by omega, HW6.out⟩
    · have hjj : j = N := by omega
      subst hjj
      obtain ⟨ax, cx, hv, hrr, hcap⟩ := HW.out.rowD hxl
      subst hv
      have HR := Lib.hid hrr
      clear hrr
      go_wp2
      go_ret
      exact ⟨ax, cx, x, by rw [hxl]; rfl, HS1.out.trans (since_grown HG.out (Nat.le_refl _) HS1.out.size), by omega, HR.out, by rw [hxl]; exact hcap⟩

set_option maxHeartbeats 1000000 in
theorem drawChainValue_any (a : Option Addr) (nb cb : Nat) (w : World) (hc : nb ≤ cb) (h63 : cb ≤ 9223372036854775807) (hb : BytR w a nb) :
    Calls Try.prog 15 #[.slice a nb cb] w fun e w' => ∃ ax cx x, e = .returned (.slice ax (List.length x) cx) ∧ w.Since w.heap.size w' ∧ x.length ≤ 7 ∧ RowR w' ax x ∧ x.length ≤ cx ∧ cx ≤ 9223372036854775807 := by
  have E := Lib.hid (l92Chain_any a nb cb w hc h63 hb)
  clear hb
  go_enter Try.func15, Try.ntmps15
  go_wp2_with fail
  refine (E.out).mono ?_
  rintro e w1 ⟨ax, cx, x, rfl, hs, hx, hr, hcap⟩
  go_wp2
  go_ret
  exact ⟨ax, cx, x, rfl, hs, hx, hr, hcap⟩

set_option maxHeartbeats 1000000 in
theorem drawChainTable_any (a : Option Addr) (nb cb : Nat) (w : World) (hc : nb ≤ cb) (h63 : cb ≤ 9223372036854775807) (hb : BytR w a nb) :
    Calls Try.prog 18 #[.slice a nb cb] w fun e w' => ∃ ax cx x, e = .returned (.slice ax (List.length x) cx) ∧ w.Since w.heap.size w' ∧ x.length ≤ 7 ∧ RowR w' ax x ∧ x.length ≤ cx ∧ cx ≤ 9223372036854775807 := by
  have E := Lib.hid (l92Chain_any a nb cb w hc h63 hb)
  clear hb
  go_enter Try.func18, Try.ntmps18
  go_wp2_with fail
  refine (E.out).mono ?_
  rintro e w1 ⟨ax, cx, x, rfl, hs, hx, hr, hcap⟩
  go_wp2
  go_ret
  exact ⟨ax, cx, x, rfl, hs, hx, hr, hcap⟩

set_option maxHeartbeats 1000000 in
theorem drawChainPairs_any (a : Option Addr) (nb cb : Nat) (w : World) (hc : nb ≤ cb) (h63 : cb ≤ 9223372036854775807) (hb : BytR w a nb) :
    Calls Try.prog 23 #[.slice a nb cb] w fun e w' => ∃ ax cx x, e = .returned (.slice ax (List.length x) cx) ∧ w.Since w.heap.size w' ∧ x.length ≤ 7 ∧ RowR w' ax x ∧ x.length ≤ cx ∧ cx ≤ 9223372036854775807 := by
  have E := Lib.hid (l92Chain_any a nb cb w hc h63 hb)
  clear hb
  go_enter Try.func23, Try.ntmps23
  go_wp2_with fail
  refine (E.out).mono ?_
  rintro e w1 ⟨ax, cx, x, rfl, hs, hx, hr, hcap⟩
  go_wp2
  go_ret
  exact ⟨ax, cx, x, rfl, hs, hx, hr, hcap⟩

set_option maxHeartbeats 1000000 in
theorem drawChainParts_any (a : Option Addr) (nb cb : Nat) (w : World) (hc : nb ≤ cb) (h63 : cb ≤ 9223372036854775807) (hb : BytR w a nb) :
    Calls Try.prog 26 #[.slice a nb cb] w fun e w' => ∃ ax cx x, e = .returned (.slice ax (List.length x) cx) ∧ w.Since w.heap.size w' ∧ x.length ≤ 7 ∧ RowR w' ax x ∧ x.length ≤ cx ∧ cx ≤ 9223372036854775807 := by
  have E := Lib.hid (l92Chain_any a nb cb w hc h63 hb)
  clear hb
  go_enter Try.func26, Try.ntmps26
  go_wp2_with fail
  refine (E.out).mono ?_
  rintro e w1 ⟨ax, cx, x, rfl, hs, hx, hr, hcap⟩
  go_wp2
  go_ret
  exact ⟨ax, cx, x, rfl, hs, hx, hr, hcap⟩

set_option maxHeartbeats 1000000 in
theorem drawChainTurns_any (a : Option Addr) (nb cb : Nat) (w : World) (hc : nb ≤ cb) (h63 : cb ≤ 9223372036854775807) (hb : BytR w a nb) :
    Calls Try.prog 30 #[.slice a nb cb] w fun e w' => ∃ ax cx x, e = .returned (.slice ax (List.length x) cx) ∧ w.Since w.heap.size w' ∧ x.length ≤ 4 ∧ RowR w' ax x ∧ x.length ≤ cx ∧ cx ≤ 9223372036854775807 := by
  have E := Lib.hid (l6Open_any a nb cb w hc h63 hb)
  clear hb
  go_enter Try.func30, Try.ntmps30
  go_wp2_with fail
  refine (E.out).mono ?_
  rintro e w1 ⟨n', c', rfl, hs, hz, hd⟩
  have HD1 := Lib.hid hd
  have HS1 := Lib.hid hs
  have hz1 : w.heap.size < w1.heap.size := by omega
  clear hd hz hs
  go_wp2_with fail
  refine (pick_any w _ w.heap.size n' c' _ a _ HD1.out (by omega)).mono ?_
  rintro e w2 ⟨y, rfl, hy, hg2, hd2⟩
  have HD2 := Lib.hid hd2
  have HG2 := Lib.hid hg2
  have hz2 := hg2.size
  clear hd2 hg2
  go_wp2_with fail
  refine (l92NumbersD_any w w2 w.heap.size n' c' _ y a HD2.out (by omega) (by omega) (by omega)).mono ?_
  rintro e w4 ⟨ax, cx, x, rfl, hx, hr, hcap, hg4⟩
  have HR := Lib.hid hr
  have HG4 := Lib.hid (grown_trans HG2.out hg4)
  have HX := Lib.hid hx
  have hx4 : x.length ≤ 4 := by omega
  rw [← hx] at hcap
  clear hr hg4 hx
  go_wp2
  go_ret
  exact ⟨ax, cx, x, rfl, HS1.out.trans (since_grown HG4.out (Nat.le_refl _) HS1.out.size), hx4, HR.out, hcap⟩
end Go.Proofs.Ytdbomnhlgaohaaa
end

section
namespace Go.Proofs.Ytdbomnhlgaohaaa

def pdF (f : Nat → Int) : Nat → Int
  | 0 => 1
  | n + 1 => pdF f n * f n
theorem pdF_congr {f g : Nat → Int} : ∀ n, (∀ i, i < n → f i = g i) → pdF f n = pdF g n
  | 0, _ => rfl
  | n + 1, h => by
    show pdF f n * f n = pdF g n * g n
    rw [pdF_congr n fun i hi => h i (by omega), h n (by omega)]
def rsF (f : Nat → Int) (m p : Nat) : Int := pdF f p * kf (fun i => f (i + p)) (m - p)
theorem rs_all (f : Nat → Int) (m : Nat) : rsF f m 0 = kf f m := by
  unfold rsF
  rw [show pdF f 0 = 1 from rfl, Int.one_mul]
  rfl
theorem rs_end (f : Nat → Int) (m : Nat) : rsF f m m = pdF f m := by
  unfold rsF
  rw [Nat.sub_self, show kf (fun i => f (i + m)) 0 = 1 from rfl, Int.mul_one]
theorem rs_last (f : Nat → Int) (m : Nat) : rsF f (m + 1) m = pdF f (m + 1) := by
  unfold rsF
  rw [Nat.add_sub_cancel_left, show kf (fun i => f (i + m)) 1 = f (0 + m) from rfl, Nat.zero_add]
  rfl
def wpF (f : Nat → Int) (i j : Nat) : Int := if j < i then f j else f (j + 2)
theorem rs_step (f : Nat → Int) (k p : Nat) : rsF f (p + k + 2) p = rsF f (p + k + 2) (p + 1) + rsF (wpF f p) (p + k) p := by
  unfold rsF
  rw [show p + k + 2 - p = k + 2 by omega, show p + k + 2 - (p + 1) = k + 1 by omega, show p + k - p = k by omega, kf_first]
  have h1 : kf (fun i => (fun i => f (i + p)) (i + 1)) (k + 1) = kf (fun i => f (i + (p + 1))) (k + 1) := kf_congr _ fun i _ => congrArg f (by omega)
  have h2 : kf (fun i => (fun i => f (i + p)) (i + 2)) k = kf (fun i => wpF f p (i + p)) k := kf_congr _ fun i _ => by
    unfold wpF
    rw [if_neg (by omega)]
    exact congrArg f (by omega)
  have h3 : pdF (wpF f p) p = pdF f p := pdF_congr _ fun i hi => by unfold wpF; rw [if_pos hi]
  rw [h1, h2, h3, show pdF f (p + 1) = pdF f p * f p from rfl, show (0 : Nat) + p = p by omega]
  grind
theorem wpF_lt {f : Nat → Int} (h : ∀ j, -9 ≤ f j ∧ f j ≤ 9) (i j : Nat) : -9 ≤ wpF f i j ∧ wpF f i j ≤ 9 := by
  unfold wpF
  split
  · exact h j
  · exact h (j + 2)
theorem pd_bd {f : Nat → Int} (h : ∀ j, -9 ≤ f j ∧ f j ≤ 9) : ∀ n, -(p10 n) ≤ pdF f n ∧ pdF f n ≤ p10 n
  | 0 => by show (-1 : Int) ≤ 1 ∧ (1 : Int) ≤ 1; decide
  | n + 1 => by
    have h1 := pd_bd h n
    have h3 := mul9 (h n) h1
    have hp := p10_pos n
    have e1 : p10 (n + 1) = 10 * p10 n := rfl
    have e : pdF f (n + 1) = f n * pdF f n := Int.mul_comm _ _
    rw [e]
    omega
theorem pd_lt {f : Nat → Int} (h : ∀ j, -9 ≤ f j ∧ f j ≤ 9) {n : Nat} (hn : n ≤ 7) : -10000000 ≤ pdF f n ∧ pdF f n ≤ 10000000 := by
  have h1 := pd_bd h n
  have h2 := p10_le n hn
  omega
theorem mulC {a b c : Int} (ha : -c ≤ a ∧ a ≤ c) (hb : -c ≤ b ∧ b ≤ c) : -(c * c) ≤ a * b ∧ a * b ≤ c * c := by
  have h1 : 0 ≤ (c - a) * (c - b) := Int.mul_nonneg (by omega) (by omega)
  have h2 : 0 ≤ (c + a) * (c + b) := Int.mul_nonneg (by omega) (by omega)
  have h3 : 0 ≤ (c - a) * (c + b) := Int.mul_nonneg (by omega) (by omega)
  have h4 : 0 ≤ (c + a) * (c - b) := Int.mul_nonneg (by omega) (by omega)
  constructor <;> grind
theorem rs_lt {f : Nat → Int} (h : ∀ j, -9 ≤ f j ∧ f j ≤ 9) {m p : Nat} (hm : m ≤ 7) (hp : p ≤ m) : -100000000000000 ≤ rsF f m p ∧ rsF f m p ≤ 100000000000000 := by
  have h1 := pd_lt h (n := p) (by omega)
  have h2 := kf_lt (f := fun i => f (i + p)) (fun j => h (j + p)) (n := m - p) (by omega)
  have h3 := mulC h1 h2
  unfold rsF
  omega
def kQ (f : Nat → Int) : Nat → Int
  | 0 => 0
  | 1 => 0
  | n + 2 => kf f n
theorem kf_kQ (f : Nat → Int) : ∀ n, kf f (n + 1) = f n * kf f n + kQ f (n + 1)
  | 0 => by simp [kf, kQ]
  | _ + 1 => rfl
end Go.Proofs.Ytdbomnhlgaohaaa
end

section
namespace Go.Proofs.Ytdbomnhlgaohaaa
open Go.RowKit Go.Deep

theorem CelR.sub {w : World} {b o : Nat} {f : Nat → Int} {m : Nat} (h : ∀ i, i < m → w.cell? ⟨b, o + i, none⟩ = some (.int .i64 (f i))) (W : World) (hs : w.Since w.heap.size W) (t q k : Nat) (hq : q = o + t ∨ k = 0) (hk : k + t ≤ m) : CelR W (some ⟨b, q, none⟩) (fun i => f (i + t)) k := fun h0 => ⟨b, q, rfl, fun i hi => by
  obtain rfl : q = o + t := by omega
  have := h (i + t) (by omega)
  rw [show o + t + i = o + (i + t) by omega]
  exact (hs.cell (World.block_lt_of_cell? _ _ this)).trans this⟩

set_option maxRecDepth 100000 in
set_option maxHeartbeats 1000000 in
theorem l9Pairs_any : ∀ (m : Nat) (a : Option Addr) (cap : Nat) (f : Nat → Int) (w : World), m ≤ 7 → m ≤ cap → cap ≤ 9223372036854775807 → (∀ j, -9 ≤ f j ∧ f j ≤ 9) → CelR w a f m →
    Calls Try.prog 56 #[.slice a m cap] w fun e w' => e = .returned (.int .i64 (kf f m)) ∧ w.Since w.heap.size w'
  | 0, a, cap, f, w, _, _, _, _, _ => by
    go_enter Try.func56, Try.ntmps56
    go_wp2
    go_ret
    exact ⟨rfl, World.Since.refl _ _⟩
  | 1, a, cap, f, w, h7, hcap, hc63, hf, hm => by
    obtain ⟨b, o, rfl, hc⟩ := hm (by omega)
    have IH := Lib.hid (fun (W : World) (q c : Nat) (h2 : c ≤ 9223372036854775807) => l9Pairs_any 0 (some ⟨b, q, none⟩) c (fun i => f (i + 1)) W (by omega) (Nat.zero_le _) h2 (fun j => hf (j + 1)) fun h => absurd h (Nat.lt_irrefl _))
    have c0 := hc 0 (by omega)
    have hf0 := hf 0
    obtain ⟨y, hy⟩ : ∃ y, f 0 = y := ⟨_, rfl⟩
    rw [show kf f 1 = f 0 from rfl]
    rw [hy] at c0 hf0 ⊢
    rw [Nat.add_zero] at c0
    rw [show kf (fun i => f (i + 1)) 0 = 1 from rfl] at IH
    have HS := Lib.hid (World.Since.refl w.heap.size w)
    have hwy : IntKind.i64.wrap y = y := IntWalk.i64_in _ ⟨by omega, by omega⟩
    clear hc hm hy hf
    rcases Nat.lt_or_eq_of_le (show 1 ≤ cap by omega) with hc1 | rfl
    · have hc2 : ¬ cap = 1 := by omega
      go_enter Try.func56, Try.ntmps56
      go_wp2_with fail
      go_region_held3 (fun w' => w'.cell? ⟨b, o, none⟩ = some (.int .i64 y)) (first | exact c0 | exact c4)
        (first | (go_at_call 56; refine (IH.out _ _ _ (by omega)).mono ?_; rintro e w1 ⟨rfl, hs1⟩; have c4 := (hs1.cell (a := ⟨b, o, none⟩) (World.block_lt_of_cell? _ _ c0)).trans c0; have HS1 := Lib.hid hs1; clear hs1))
      all_goals
        go_wp2_with fail
        go_ret
        exact ⟨rfl, HS.out.trans (since_mono (since_of_drew HS1.out) HS.out.size)⟩
    · clear hcap hc63
      go_enter Try.func56, Try.ntmps56
      go_wp2_with fail
      go_region_held3 (fun w' => w'.cell? ⟨b, o, none⟩ = some (.int .i64 y)) (first | exact c0 | exact c4)
        (first | (go_at_call 56; refine (IH.out _ _ _ (by omega)).mono ?_; rintro e w1 ⟨rfl, hs1⟩; have c4 := (hs1.cell (a := ⟨b, o, none⟩) (World.block_lt_of_cell? _ _ c0)).trans c0; have HS1 := Lib.hid hs1; clear hs1))
      all_goals
        go_wp2_with fail
        go_ret
        exact ⟨rfl, HS.out.trans (since_mono (since_of_drew HS1.out) HS.out.size)⟩
  | n + 2, a, cap, f, w, h7, hcap, hc63, hf, hm => by
    obtain ⟨b, o, rfl, hc⟩ := hm (by omega)
    have IH1 := Lib.hid (fun (W : World) (hs : w.Since w.heap.size W) => l9Pairs_any (n + 1) (some ⟨b, o + 1, none⟩) (cap - 1) (fun i => f (i + 1)) W (by omega) (by omega) (by omega) (fun j => hf (j + 1)) (CelR.sub hc W hs 1 (o + 1) (n + 1) (.inl rfl) (by omega)))
    have IH2 := Lib.hid (fun (W : World) (hs : w.Since w.heap.size W) (q c : Nat) (hq : q = o + 2 ∨ n = 0) (h1 : n ≤ c) (h2 : c ≤ 9223372036854775807) => l9Pairs_any n (some ⟨b, q, none⟩) c (fun i => f (i + 2)) W (by omega) h1 h2 (fun j => hf (j + 2)) (CelR.sub hc W hs 2 q n hq (by omega)))
    have c0 := hc 0 (by omega)
    rw [Nat.add_zero] at c0
    have hf0 := hf 0
    have bP := kf_lt (f := fun i => f (i + 1)) (fun j => hf (j + 1)) (n := n + 1) (by omega)
    have bQ := kf_lt (f := fun i => f (i + 2)) (fun j => hf (j + 2)) (n := n) (by omega)
    have bR := kf_lt hf (n := n + 2) (by omega)
    have hsum := kf_first f n
    obtain ⟨y, hy⟩ : ∃ y, f 0 = y := ⟨_, rfl⟩
    obtain ⟨p, hp⟩ : ∃ p, kf (fun i => f (i + 1)) (n + 1) = p := ⟨_, rfl⟩
    obtain ⟨q, hq⟩ : ∃ q, kf (fun i => f (i + 2)) n = q := ⟨_, rfl⟩
    obtain ⟨r, hr⟩ : ∃ r, kf f (n + 2) = r := ⟨_, rfl⟩
    obtain ⟨z, hz⟩ : ∃ z, y * p = z := ⟨_, rfl⟩
    rw [hy] at c0 hf0 hsum
    rw [hp] at bP hsum IH1
    rw [hq] at bQ hsum IH2
    rw [hr] at bR hsum ⊢
    have hm9 := mul9 (b := p) hf0 (c := 10000000) bP
    rw [hz] at hm9 hsum
    have hw1 : wrap64 (y * p) = z := by rw [hz]; unfold wrap64; omega
    have hw1' : IntKind.i64.wrap (y * p) = z := by rw [hz]; exact IntWalk.i64_in _ ⟨by omega, by omega⟩
    have hw2 : wrap64 (z + q) = r := by rw [← hsum]; unfold wrap64; omega
    have hw2' : IntKind.i64.wrap (z + q) = r := by rw [← hsum]; exact IntWalk.i64_in _ ⟨by omega, by omega⟩
    have HS := Lib.hid (World.Since.refl w.heap.size w)
    have hb0 : (0 : Int) < (n : Int) + 2 := by omega
    have hb1 : (1 : Int) ≤ (n : Int) + 2 := by omega
    have hb2 : (2 : Int) ≤ (n : Int) + 2 := by omega
    have hb3 : (n : Int) + 2 ≤ (cap : Int) := by omega
    have hb4 : ¬ cap = 1 := by omega
    have hb5 : (1 : Int) < (n : Int) + 2 := by omega
    have hb6 : (0 : Int) ≤ (n : Int) := by omega
    clear hc hm hy hf hp hq hr hz hsum
    rcases Nat.lt_or_eq_of_le (show 2 ≤ cap by omega) with hc1 | rfl
    · have hc2 : ¬ cap = 2 := by omega
      go_enter Try.func56, Try.ntmps56
      go_wp2_with fail
      go_region_held3 (fun w' => w'.cell? ⟨b, o, none⟩ = some (.int .i64 y)) (first | exact c0 | exact c4)
        (first | (go_at_call 56; refine (IH1.out _ HS.out.drew).mono ?_; rintro e w1 ⟨rfl, hs1⟩; have c4 := (hs1.cell (a := ⟨b, o, none⟩) (World.block_lt_of_cell? _ _ c0)).trans c0; have HS1 := Lib.hid (HS.out.trans (since_mono (since_of_drew hs1) HS.out.size)); clear hs1))
      all_goals
        go_wp2_with fail
        refine (IH2.out _ HS1.out _ _ (by first | exact .inr rfl | exact .inr trivial | omega) (by omega) (by omega)).mono ?_
        rintro e w2 ⟨rfl, hs2⟩
        go_wp2
        go_ret
        exact ⟨rfl, HS1.out.trans (since_mono hs2 HS1.out.size)⟩
    · obtain rfl : n = 0 := by omega
      clear hcap hc63
      go_enter Try.func56, Try.ntmps56
      go_wp2_with fail
      go_region_held3 (fun w' => w'.cell? ⟨b, o, none⟩ = some (.int .i64 y)) (first | exact c0 | exact c4)
        (first | (go_at_call 56; refine (IH1.out _ HS.out.drew).mono ?_; rintro e w1 ⟨rfl, hs1⟩; have c4 := (hs1.cell (a := ⟨b, o, none⟩) (World.block_lt_of_cell? _ _ c0)).trans c0; have HS1 := Lib.hid (HS.out.trans (since_mono (since_of_drew hs1) HS.out.size)); clear hs1))
      all_goals
        go_wp2_with fail
        refine (IH2.out _ HS1.out _ _ (by first | exact .inr rfl | exact .inr trivial | omega) (by omega) (by omega)).mono ?_
        rintro e w2 ⟨rfl, hs2⟩
        go_wp2
        go_ret
        exact ⟨rfl, HS1.out.trans (since_mono hs2 HS1.out.size)⟩

set_option maxHeartbeats 1000000 in
theorem specChainPairs_any (a : Option Addr) (cap m : Nat) (x : List Int) (w : World) (hn : x.length = m) (hc : m ≤ cap) (h63 : cap ≤ 9223372036854775807) (hm : RowR w a x) :
    Calls Try.prog 25 #[.slice a m cap] w fun e w' => e = .returned (.tuple #[.int .i64 (if l9B x = true then chV x else 0), .bool (l9B x)]) ∧ w.Since w.heap.size w' := by
  have E := l9Chain_any a cap m x w hn (by omega) hm
  cases hok : l9B x with
  | false =>
    rw [hok] at E
    replace E := Lib.hid E
    clear hok hm hn
    go_enter Try.func25, Try.ntmps25
    go_wp2_with fail
    refine (E.out).mono ?_
    rintro e w' ⟨rfl, rfl⟩
    go_wp2
    go_ret2
    exact ⟨rfl, World.Since.refl _ _⟩
  | true =>
    rw [hok] at E
    have h6 := (l9B_of hok).2
    have h9 := l9B_all9 hok
    have E2 := l9Pairs_any m a cap (fun i => x.getD i 0) w (by omega) hc h63 h9 (by rw [← hn]; exact CelR.row hm)
    rw [show kf (fun i => x.getD i 0) m = chV x by unfold chV; rw [hn]] at E2
    replace E := Lib.hid E
    replace E2 := Lib.hid E2
    clear hok hm hn h6 h9
    go_enter Try.func25, Try.ntmps25
    go_wp2_with fail
    refine (E.out).mono ?_
    rintro e w' ⟨rfl, rfl⟩
    go_wp2_with fail
    refine (E2.out).mono ?_
    rintro e w' ⟨rfl, hs⟩
    go_wp2
    go_ret2
    exact ⟨rfl, hs⟩
end Go.Proofs.Ytdbomnhlgaohaaa
end

section
namespace Go.Proofs.Ytdbomnhlgaohaaa
open Go.RowKit Go.Deep

def kT (f : Nat → Int) : Nat → Int
  | 0 => 0
  | n + 1 => kf (fun i => f (i + 1)) n
def kD (f : Nat → Int) : Nat → Int
  | 0 => 0
  | n + 1 => kP (fun i => f (i + 1)) n
def paL (f : Nat → Int) (m : Nat) : List Int := [kf f m, kP f m, kT f m, kD f m]
def resR (ok : Bool) (M : List Int) : List Int := if ok then M else []
theorem in4 (w : World) (p q r s : Int) : InR w.heap.size (w.alloc (.cells #[.int .i64 p, .int .i64 q, .int .i64 r, .int .i64 s] 3)).heap.size (w.alloc (.cells #[.int .i64 p, .int .i64 q, .int .i64 r, .int .i64 s] 3)) (some ⟨w.heap.size, 0, none⟩) [p, q, r, s] := fun _ => ⟨w.heap.size, 0, rfl, ⟨Nat.le_refl _, by simp⟩, fun i hi => by
  have hb := World.alloc_heap_new w (.cells #[.int .i64 p, .int .i64 q, .int .i64 r, .int .i64 s] 3)
  unfold World.cell?
  simp only [List.length_cons, List.length_nil] at hi
  rw [hb]
  match i, hi with
  | 0, _ => rfl
  | 1, _ => rfl
  | 2, _ => rfl
  | 3, _ => rfl
  | i + 4, h => omega⟩

set_option maxRecDepth 100000 in
set_option maxHeartbeats 2000000 in
theorem specChainParts_ok (a : Option Addr) (cap m : Nat) (x : List Int) (w : World) (hn : x.length = m) (hc : m ≤ cap) (h63 : cap ≤ 9223372036854775807) (hm : RowR w a x) (hok : l9B x = true) :
    Calls Try.prog 28 #[.slice a m cap] w fun e w' => ∃ g, e = .returned (.tuple #[.slice (some ⟨g, 0, none⟩) 4 4, .bool true]) ∧ w.Since w.heap.size w' ∧ InR w.heap.size w'.heap.size w' (some ⟨g, 0, none⟩) (paL (fun i => x.getD i 0) m) := by
  have E := l9Chain_any a cap m x w hn (by omega) hm
  rw [hok] at E
  replace E := Lib.hid E
  have h6 := (l9B_of hok).2
  have h9 := l9B_all9 hok
  obtain ⟨f, hf⟩ : ∃ f : Nat → Int, f = fun i => x.getD i 0 := ⟨_, rfl⟩
  have hm' : CelR w a f m := by rw [hf, ← hn]; exact CelR.row hm
  rw [← hf]
  have h9' : ∀ j, -9 ≤ f j ∧ f j ≤ 9 := fun j => by rw [hf]; exact h9 j
  have E0 := Lib.hid (l9Value_any a cap m f w (by omega) h9' hm')
  rw [hn] at h6
  clear hok hm hn h9 hf
  by_cases h0 : m = 0
  · subst h0
    clear hm' h9' h6 hc
    rw [show kf f 0 = 1 from rfl] at E0
    rw [show paL f 0 = [1, 0, 0, 0] from rfl]
    go_enter Try.func28, Try.ntmps28
    go_wp2_with fail
    refine (E.out).mono ?_
    rintro e w' ⟨rfl, rfl⟩
    go_wp2_with fail
    refine (E0.out).mono ?_
    rintro e w' ⟨rfl, rfl⟩
    go_wp2
    go_ret2
    exact ⟨_, rfl, (World.Since.refl _ _).alloc (Nat.le_refl _) _, in4 w 1 0 0 0⟩
  by_cases h1 : m = 1
  · subst h1
    obtain ⟨b, o, rfl, hc1⟩ := hm' (by omega)
    have EV := Lib.hid (fun (W : World) (q c : Nat) => l9Value_any (some ⟨b, q, none⟩) c 0 (fun i => f (i + 1)) W (by omega) (fun j => h9' (j + 1)) fun h => absurd h (Nat.lt_irrefl _))
    rw [show kf (fun i => f (i + 1)) 0 = 1 from rfl] at EV
    rw [show paL f 1 = [kf f 1, 1, 1, 0] from rfl]
    obtain ⟨v, hv⟩ : ∃ v, kf f 1 = v := ⟨_, rfl⟩
    rw [hv] at E0 ⊢
    clear hm' h9' h6 hc1 hv h0
    rcases Nat.lt_or_eq_of_le (show 1 ≤ cap by omega) with hc1 | rfl
    · have hc2 : ¬ cap = 1 := by omega
      have hc3 : (1 : Int) ≤ (cap : Int) := by omega
      go_enter Try.func28, Try.ntmps28
      go_wp2_with fail
      refine (E.out).mono ?_
      rintro e w' ⟨rfl, rfl⟩
      go_wp2_with fail
      refine (E0.out).mono ?_
      rintro e w' ⟨rfl, rfl⟩
      go_wp2_with fail
      refine (EV.out _ _ _).mono ?_
      rintro e w' ⟨rfl, rfl⟩
      go_wp2_with fail
      refine (EV.out _ _ _).mono ?_
      rintro e w' ⟨rfl, rfl⟩
      go_wp2
      go_ret2
      exact ⟨_, rfl, (World.Since.refl _ _).alloc (Nat.le_refl _) _, in4 w v 1 1 0⟩
    · clear hc h63
      go_enter Try.func28, Try.ntmps28
      go_wp2_with fail
      refine (E.out).mono ?_
      rintro e w' ⟨rfl, rfl⟩
      go_wp2_with fail
      refine (E0.out).mono ?_
      rintro e w' ⟨rfl, rfl⟩
      go_wp2_with fail
      refine (EV.out _ _ _).mono ?_
      rintro e w' ⟨rfl, rfl⟩
      go_wp2_with fail
      refine (EV.out _ _ _).mono ?_
      rintro e w' ⟨rfl, rfl⟩
      go_wp2
      go_ret2
      exact ⟨_, rfl, (World.Since.refl _ _).alloc (Nat.le_refl _) _, in4 w v 1 1 0⟩
  obtain ⟨n, rfl⟩ : ∃ n, m = n + 2 := ⟨m - 2, by omega⟩
  obtain ⟨b, o, rfl, hc1⟩ := hm' (by omega)
  have EB := Lib.hid (fun (W : World) (hs : w.Since w.heap.size W) (c : Nat) => l9Value_any (some ⟨b, o, none⟩) c (n + 1) f W (by omega) h9' (CelR.sub hc1 W hs 0 o (n + 1) (.inl rfl) (by omega)))
  have EC := Lib.hid (fun (W : World) (hs : w.Since w.heap.size W) (c : Nat) => l9Value_any (some ⟨b, o + 1, none⟩) c (n + 1) (fun i => f (i + 1)) W (by omega) (fun j => h9' (j + 1)) (CelR.sub hc1 W hs 1 (o + 1) (n + 1) (.inl rfl) (by omega)))
  have ED := Lib.hid (fun (W : World) (hs : w.Since w.heap.size W) (c : Nat) => l9Value_any (some ⟨b, o + 1, none⟩) c n (fun i => f (i + 1)) W (by omega) (fun j => h9' (j + 1)) (CelR.sub hc1 W hs 1 (o + 1) n (.inl rfl) (by omega)))
  rw [show paL f (n + 2) = [kf f (n + 2), kf f (n + 1), kf (fun i => f (i + 1)) (n + 1), kf (fun i => f (i + 1)) n] from rfl]
  obtain ⟨v0, hv0⟩ : ∃ v, kf f (n + 2) = v := ⟨_, rfl⟩
  obtain ⟨v1, hv1⟩ : ∃ v, kf f (n + 1) = v := ⟨_, rfl⟩
  obtain ⟨v2, hv2⟩ : ∃ v, kf (fun i => f (i + 1)) (n + 1) = v := ⟨_, rfl⟩
  obtain ⟨v3, hv3⟩ : ∃ v, kf (fun i => f (i + 1)) n = v := ⟨_, rfl⟩
  rw [hv0] at E0
  rw [hv1] at EB
  rw [hv2] at EC
  rw [hv3] at ED
  rw [hv0, hv1, hv2, hv3]
  clear hm' h9' hc1 hv0 hv1 hv2 hv3 h0 h1
  have hb0 : (0 : Int) < (n : Int) + 2 := by omega
  have hb1 : (1 : Int) ≤ (n : Int) + 2 := by omega
  have hb2 : (n : Int) + 2 ≤ (cap : Int) := by omega
  have hb3 : (0 : Int) ≤ (n : Int) + 1 := by omega
  have hb4 : (1 : Int) ≤ (n : Int) + 1 := by omega
  have hb5 : (n : Int) + 1 ≤ (cap : Int) := by omega
  have hb6 : ¬ cap = 1 := by omega
  have hb7 : (1 : Int) < (n : Int) + 2 := by omega
  have hb8 : ¬ cap = 0 := by omega
  go_enter Try.func28, Try.ntmps28
  go_wp2_with fail
  refine (E.out).mono ?_
  rintro e w' ⟨rfl, rfl⟩
  go_wp2_with fail
  refine (E0.out).mono ?_
  rintro e w' ⟨rfl, rfl⟩
  go_wp2_with fail
  refine (EB.out _ ((World.Since.refl _ _).alloc (Nat.le_refl _) _) _).mono ?_
  rintro e w' ⟨rfl, rfl⟩
  go_wp2_with fail
  refine (EC.out _ ((World.Since.refl _ _).alloc (Nat.le_refl _) _) _).mono ?_
  rintro e w' ⟨rfl, rfl⟩
  go_wp2_with fail
  refine (ED.out _ ((World.Since.refl _ _).alloc (Nat.le_refl _) _) _).mono ?_
  rintro e w' ⟨rfl, rfl⟩
  go_wp2
  go_ret2
  exact ⟨_, rfl, (World.Since.refl _ _).alloc (Nat.le_refl _) _, in4 w v0 v1 v2 v3⟩

set_option maxHeartbeats 1000000 in
theorem specChainParts_any (a : Option Addr) (cap m : Nat) (x : List Int) (w : World) (hn : x.length = m) (hc : m ≤ cap) (h63 : cap ≤ 9223372036854775807) (hm : RowR w a x) :
    Calls Try.prog 28 #[.slice a m cap] w fun e w' => ∃ a' cap', e = .returned (.tuple #[.slice a' (resR (l9B x) (paL (fun i => x.getD i 0) m)).length cap', .bool (l9B x)]) ∧ w.Since w.heap.size w' ∧ InR w.heap.size w'.heap.size w' a' (resR (l9B x) (paL (fun i => x.getD i 0) m)) := by
  cases hok : l9B x with
  | true =>
    refine (specChainParts_ok a cap m x w hn hc h63 hm hok).mono ?_
    rintro e w' ⟨g, rfl, hs, hr⟩
    exact ⟨_, _, rfl, hs, hr⟩
  | false =>
    have E := l9Chain_any a cap m x w hn (by omega) hm
    rw [hok] at E
    replace E := Lib.hid E
    clear hok hm hn
    go_enter Try.func28, Try.ntmps28
    go_wp2_with fail
    refine (E.out).mono ?_
    rintro e w' ⟨rfl, rfl⟩
    go_wp2
    go_ret2
    exact ⟨_, _, rfl, (World.Since.refl _ _).alloc (Nat.le_refl _) _, InR.nil _ _ _ _⟩
end Go.Proofs.Ytdbomnhlgaohaaa
end

section
namespace Go.Proofs.Ytdbomnhlgaohaaa
open Go.RowKit Go.Deep

theorem l9B_split (x : List Int) : l9B x = (rngB x (-9) 9 && decide ((x.length : Int) ≤ 6)) := rfl

set_option maxHeartbeats 1000000 in
theorem newChain_no (a : Option Addr) (cap m : Nat) (x : List Int) (w : World) (hn : x.length = m) (h63 : m ≤ 9223372036854775807) (hm : RowR w a x) (hok : l9B x = false) :
    Calls Try.prog 47 #[.slice a m cap] w fun e w' => e = .returned (.tuple #[.slice none 0 0, .bool false]) ∧ w = w' := by
  by_cases h6 : 6 < m
  · have hb : decide ((6 : Int) < (m : Int)) = true := by simp; omega
    clear hm hn hok
    go_enter Try.func47, Try.ntmps47
    go_wp2
    go_ret2
    exact ⟨rfl, rfl⟩
  · have hr : rngB x (-9) 9 = false := by
      rw [l9B_split, hn, show decide ((m : Int) ≤ 6) = true by simp; omega, Bool.and_true] at hok
      exact hok
    have E := allInRange_any a cap m x (-9) 9 w hn h63 hm
    rw [hr] at E
    replace E := Lib.hid E
    have hb : decide ((6 : Int) < (m : Int)) = false := by simp; omega
    clear hm hn hok hr
    go_enter Try.func47, Try.ntmps47
    go_wp2_with fail
    refine (E.out).mono ?_
    rintro e w' ⟨rfl, rfl⟩
    go_wp2
    go_ret2
    exact ⟨rfl, rfl⟩

theorem copy_all {P : Program} (w : World) (dT sT e : TypeId) (hu : P.underlying dT = some (.slice e)) (hsz : (P.info? e).map (·.size) = some 1) (g m cap : Nat) (a : Option Addr) (C : Array Value) (t : TypeId) (hg : w.heap[g]? = some (.cells C t (0, 0))) (hC : C.size = m)
    (cs : List Value) (hcl : cs.length = m) (hsrc : 0 < m → ∃ ad, a = some ad ∧ ∀ j v, cs[j]? = some v → w.cell? (ad.add j) = some v) (h1 : ∀ v ∈ cs, v.oneCell' = true) :
    ∃ w2, (∀ ty, (Builtin.copy_ #[dT, sT] ty #[.slice (some ⟨g, 0, none⟩) m m, .slice a m cap]).run P w = .ok (.int .i64 m) w2) ∧ w2.heap[g]? = some (.cells cs.toArray t (0, 0)) ∧ Below g w w2 := by
  by_cases h0 : m = 0
  · subst h0
    obtain rfl : cs = [] := List.eq_nil_of_length_eq_zero hcl
    refine ⟨w, fun ty => run_copy_none (P := P) w dT sT ty e (some ⟨g, 0, none⟩) a 0 0 0 cap hu hsz (by simp), ?_, Below.refl _ _⟩
    rw [hg, Array.eq_empty_of_size_eq_zero hC]
  · obtain ⟨ad, rfl, hs⟩ := hsrc (by omega)
    refine ⟨_, fun ty => ?_, setRow_heap w g C cs.toArray t (0, 0) hg, below_setRow (Below.refl g w) (Nat.le_refl _) _⟩
    have := run_copy_row (P := P) w dT sT ty e g 0 m m ad m cap C t cs hu hsz hg (by rw [hcl]; simp) hs (by omega) h1
    rw [this, hcl]
    have e : (C.toList.take 0 ++ cs ++ C.toList.drop (0 + m)) = cs := by
      rw [List.take_zero, List.nil_append, List.drop_eq_nil_of_le (by rw [Array.length_toList]; omega), List.append_nil]
    rw [e]
    rfl

set_option maxRecDepth 100000 in
set_option maxHeartbeats 2000000 in
theorem newChain_ok (a : Option Addr) (cap m : Nat) (x : List Int) (w : World) (hn : x.length = m) (hm : RowR w a x) (hok : l9B x = true) :
    Calls Try.prog 47 #[.slice a m cap] w fun e w' => e = .returned (.tuple #[.slice (some ⟨w.heap.size, 0, none⟩) m m, .bool true]) ∧ w.Since w.heap.size w' ∧ ∀ i, i < m → w'.cell? ⟨w.heap.size, 0 + i, none⟩ = some (.int .i64 (x.getD i 0)) := by
  have h6 := (l9B_of hok).2
  rw [hn] at h6
  have hr : rngB x (-9) 9 = true := by
    rw [l9B_split, Bool.and_eq_true] at hok
    exact hok.1
  have E := allInRange_any a cap m x (-9) 9 w hn (by omega) hm
  rw [hr] at E
  replace E := Lib.hid E
  have hb : decide ((6 : Int) < (m : Int)) = false := by simp; omega
  have hmk := run_make_row' (P := Try.prog) 45 3 (.int .i64 0) 8 Try.underlying45 Try.info3 rfl .i64 .i64 m (by omega) (by omega)
  obtain ⟨i3, hi3⟩ := info3_parts
  have hsz3 : (Try.prog.info? 3).map (·.size) = some 1 := by rw [hi3.1]; exact congrArg some hi3.2.2.1
  obtain ⟨C, hC⟩ : ∃ C, madeCells #[Value.int .i64 0] m = C := ⟨_, rfl⟩
  have hCs : C.size = m := by rw [← hC]; exact made_size m
  rw [hC] at hmk
  obtain ⟨cs, hcs⟩ : ∃ cs, x.map (Value.int .i64) = cs := ⟨_, rfl⟩
  have hcl : cs.length = m := by rw [← hcs, List.length_map, hn]
  obtain ⟨w2, hcopy, hheap, hbel⟩ := copy_all (P := Try.prog) (w.alloc (.cells C 3)) 45 23 3 Try.underlying45 hsz3 w.heap.size m cap a C 3 (World.alloc_heap_new w _) hCs cs hcl (fun h0 => by
    obtain ⟨b, o, rfl, hc⟩ := hm (by omega)
    refine ⟨⟨b, o, none⟩, rfl, fun j v hj => ?_⟩
    obtain ⟨hjl, he⟩ := List.getElem?_eq_some_iff.1 hj
    have hjx : j < x.length := by omega
    have c := hc j hjx
    rw [Go.WideShapes.add_plain]
    rw [cell_alloc_l _ c, ← he]
    subst hcs
    simp [List.getD, hjx]) (fun v hv => by
    rw [← hcs] at hv
    obtain ⟨z, _, rfl⟩ := List.mem_map.1 hv
    rfl)
  have HFIN := Lib.hid (show ∀ i, i < m → w2.cell? ⟨w.heap.size, 0 + i, none⟩ = some (.int .i64 (x.getD i 0)) from fun i hi => by
    unfold World.cell?
    rw [hheap, ← hcs]
    simp [List.getD, show i < x.length by omega])
  have HS := Lib.hid (((World.Since.refl w.heap.size w).alloc (Nat.le_refl _) (.cells C 3)).trans (below_since hbel))
  clear hm hn hok hr hC hCs hcs hcl hi3 hheap hbel hsz3
  go_enter Try.func47, Try.ntmps47
  go_wp2_with fail
  refine (E.out).mono ?_
  rintro e w' ⟨rfl, rfl⟩
  go_wp2
  go_ret2
  exact ⟨rfl, HS.out, HFIN.out⟩

set_option maxHeartbeats 1000000 in
theorem chPart_any (b o m cap i j : Nat) (I J : Int) (w : World) (hI : I = (i : Int)) (hJ : J = (j : Int)) (h1 : i ≤ j) (h2 : j ≤ cap) (_ : cap ≤ 9223372036854775807) :
    Calls Try.prog 81 #[.slice (some ⟨b, o, none⟩) m cap, .int .i64 I, .int .i64 J] w fun e w' => ∃ q, e = .returned (.slice (some ⟨b, q, none⟩) (j - i) (j - i)) ∧ (q = o + i ∨ j - i = 0) ∧ w = w' := by
  subst hI
  subst hJ
  go_enter Try.func81, Try.ntmps81
  go_wp2
  · go_ret
    exact ⟨⟨_, rfl⟩, rfl⟩
  · go_ret
    exact ⟨_, rfl, .inl rfl, rfl⟩

theorem wrap_sub {m j d : Nat} (h : m - j = d) (hj : j ≤ m) (h63 : m ≤ 9223372036854775807) : wrap64 ((m : Int) - (j : Int)) = (d : Int) := by
  subst h
  unfold wrap64
  omega
theorem wrap_addn {i j s : Nat} (h : i + j = s) (h63 : s ≤ 9223372036854775807) : wrap64 ((i : Int) + (j : Int)) = (s : Int) := by
  subst h
  unfold wrap64
  omega

set_option maxHeartbeats 1000000 in
theorem without_ok (b o m cap i j : Nat) (I J v : Int) (w : World) (hI : I = (i : Int)) (hJ : J = (j : Int)) (h : i + j ≤ m) (hc : m ≤ cap) (h63 : cap ≤ 9223372036854775807)
    (hV : ∀ q, (q = o + i ∨ m - j - i = 0) → Calls Try.prog 48 #[.slice (some ⟨b, q, none⟩) (m - j - i) (m - j - i)] w fun e w' => e = .returned (.int .i64 v) ∧ w = w') :
    Calls Try.prog 57 #[.slice (some ⟨b, o, none⟩) m cap, .int .i64 I, .int .i64 J] w fun e w' => e = .returned (.int .i64 v) ∧ w = w' := by
  have hs := wrap_addn (i := i) (j := j) rfl (by omega)
  have hd := wrap_sub (m := m) (j := j) rfl (by omega) (by omega)
  rw [← hI, ← hJ] at hs
  rw [← hJ] at hd
  have EP := Lib.hid (chPart_any b o m cap i (m - j) I ((m - j : Nat) : Int) w hI rfl (by omega) (by omega) h63)
  have EV := Lib.hid hV
  have hb : decide ((m : Int) < ((i + j : Nat) : Int)) = false := by simp; omega
  obtain ⟨s, hs'⟩ : ∃ s : Int, ((i + j : Nat) : Int) = s := ⟨_, rfl⟩
  obtain ⟨d, hd'⟩ : ∃ d : Int, ((m - j : Nat) : Int) = d := ⟨_, rfl⟩
  rw [hs'] at hs hb
  rw [hd'] at hd EP
  clear hV hI hJ hs' hd'
  go_enter Try.func57, Try.ntmps57
  go_wp2_with fail
  refine (EP.out).mono ?_
  rintro e w' ⟨q, rfl, hq, rfl⟩
  go_wp2_with fail
  refine (EV.out q hq).mono ?_
  rintro e w' ⟨rfl, rfl⟩
  go_wp2
  go_ret
  exact ⟨rfl, rfl⟩

set_option maxHeartbeats 1000000 in
theorem without_no (b o m cap i j : Nat) (I J : Int) (w : World) (hI : I = (i : Int)) (hJ : J = (j : Int)) (h : m < i + j) (h63 : i + j ≤ 9223372036854775807) :
    Calls Try.prog 57 #[.slice (some ⟨b, o, none⟩) m cap, .int .i64 I, .int .i64 J] w fun e w' => e = .returned (.int .i64 0) ∧ w = w' := by
  have hs := wrap_addn (i := i) (j := j) rfl (by omega)
  rw [← hI, ← hJ] at hs
  have hb : decide ((m : Int) < ((i + j : Nat) : Int)) = true := by simp; omega
  obtain ⟨s, hs'⟩ : ∃ s : Int, ((i + j : Nat) : Int) = s := ⟨_, rfl⟩
  rw [hs'] at hs hb
  clear hI hJ hs'
  go_enter Try.func57, Try.ntmps57
  go_wp2
  go_ret
  exact ⟨rfl, rfl⟩

set_option maxRecDepth 100000 in
set_option maxHeartbeats 1000000 in
theorem chValue_any (m : Nat) : ∀ (b o cap : Nat) (f : Nat → Int) (w : World), m ≤ 7 → m ≤ cap → cap ≤ 9223372036854775807 → (∀ j, -9 ≤ f j ∧ f j ≤ 9) → (∀ i, i < m → w.cell? ⟨b, o + i, none⟩ = some (.int .i64 (f i))) →
    Calls Try.prog 48 #[.slice (some ⟨b, o, none⟩) m cap] w fun e w' => e = .returned (.int .i64 (kf f m)) ∧ w = w' := by
  induction m using Nat.strongRecOn with
  | _ m ih =>
    intro b o cap f w h7 hcap h63 hf hc
    by_cases h0 : m = 0
    · subst h0
      clear hc hf ih
      go_enter Try.func48, Try.ntmps48
      go_wp2
      go_ret
      exact ⟨rfl, rfl⟩
    · obtain ⟨n, hn⟩ : ∃ n, m = n + 1 := ⟨m - 1, by omega⟩
      have E1 := without_ok b o m cap 0 1 0 1 (kf f n) w rfl rfl (by omega) hcap h63 (fun q hq => by
        have := ih n (by omega) b q n f w (by omega) (Nat.le_refl _) (by omega) hf (fun i hi => by
          obtain rfl : q = o := by omega
          exact hc i (by omega))
        rw [show m - 1 - 0 = n by omega]
        exact this)
      have E2 : Calls Try.prog 57 #[.slice (some ⟨b, o, none⟩) m cap, .int .i64 0, .int .i64 2] w fun e w' => e = .returned (.int .i64 (kQ f m)) ∧ w = w' := by
        by_cases h2 : 2 ≤ m
        · obtain ⟨k, rfl⟩ : ∃ k, m = k + 2 := ⟨m - 2, by omega⟩
          refine without_ok b o (k + 2) cap 0 2 0 2 (kf f k) w rfl rfl (by omega) hcap h63 (fun q hq => ?_)
          have := ih k (by omega) b q k f w (by omega) (Nat.le_refl _) (by omega) hf (fun i hi => by
            obtain rfl : q = o := by omega
            exact hc i (by omega))
          rw [show k + 2 - 2 - 0 = k by omega]
          exact this
        · obtain rfl : m = 1 := by omega
          exact without_no b o 1 cap 0 2 0 2 w rfl rfl (by omega) (by omega)
      have c0 := hc n (by omega)
      rw [show n = m - 1 by omega] at c0
      have hy9 := hf n
      have b1 := kf_lt hf (n := n) (by omega)
      have b3 := kf_lt hf (n := m) h7
      have hk : kf f m = f n * kf f n + kQ f m := by rw [hn]; exact kf_kQ f n
      have hm0 : ((m : Int) == 0) = false := by simp; omega
      have hlt : m - 1 < m := by omega
      have hl1 : (1 : Int) ≤ (m : Int) := by omega
      obtain ⟨y, hy⟩ : ∃ y, f n = y := ⟨_, rfl⟩
      obtain ⟨p, hp⟩ : ∃ p, kf f n = p := ⟨_, rfl⟩
      obtain ⟨q, hq⟩ : ∃ q, kQ f m = q := ⟨_, rfl⟩
      obtain ⟨r, hr⟩ : ∃ r, kf f m = r := ⟨_, rfl⟩
      rw [show m - 1 = n by omega, hy, show n = m - 1 by omega] at c0
      rw [hy] at hy9 hk
      rw [hp] at b1 hk E1
      rw [hq] at hk E2
      rw [hr] at b3 hk ⊢
      have hm9 := mul9 (b := p) hy9 (c := 10000000) b1
      obtain ⟨z, hz⟩ : ∃ z, y * p = z := ⟨_, rfl⟩
      rw [hz] at hm9 hk
      have hw1 : wrap64 (y * p) = z := by rw [hz]; unfold wrap64; omega
      have hw2 : wrap64 (z + q) = r := by rw [← hk]; unfold wrap64; omega
      have HW2 := Lib.hid hw2
      replace E1 := Lib.hid E1
      replace E2 := Lib.hid E2
      clear ih hf hc hn hy hp hq hr hz hk
      go_enter Try.func48, Try.ntmps48
      go_wp2_with fail
      refine (E1.out).mono ?_
      rintro e w' ⟨rfl, rfl⟩
      go_wp2_with fail
      refine (E2.out).mono ?_
      rintro e w' ⟨rfl, rfl⟩
      go_wp2
      go_ret
      exact ⟨ret_int HW2.out, rfl⟩

set_option maxHeartbeats 1000000 in
theorem implChainValue_any (a : Option Addr) (cap m : Nat) (x : List Int) (w : World) (hn : x.length = m) (h63 : m ≤ 9223372036854775807) (hm : RowR w a x) :
    Calls Try.prog 16 #[.slice a m cap] w fun e w' => e = .returned (.tuple #[.int .i64 (if l9B x = true then chV x else 0), .bool (l9B x)]) ∧ w.Since w.heap.size w' := by
  cases hok : l9B x with
  | false =>
    have E := Lib.hid (newChain_no a cap m x w hn h63 hm hok)
    clear hok hm hn
    go_enter Try.func16, Try.ntmps16
    go_wp2_with fail
    refine (E.out).mono ?_
    rintro e w' ⟨rfl, rfl⟩
    go_wp2
    go_ret2
    exact ⟨rfl, World.Since.refl _ _⟩
  | true =>
    have E := Lib.hid (newChain_ok a cap m x w hn hm hok)
    have h6 := (l9B_of hok).2
    rw [hn] at h6
    have HV := Lib.hid (show kf (fun i => x.getD i 0) m = chV x by unfold chV; rw [hn])
    have H9 := Lib.hid (l9B_all9 hok)
    clear hok hm hn
    go_enter Try.func16, Try.ntmps16
    go_wp2_with fail
    refine (E.out).mono ?_
    rintro e w1 ⟨rfl, hs, hc⟩
    have HS := Lib.hid hs
    have HC := Lib.hid hc
    clear hs hc
    go_wp2_with fail
    refine (chValue_any m w.heap.size 0 m (fun i => x.getD i 0) w1 (by omega) (Nat.le_refl _) (by omega) H9.out HC.out).mono ?_
    rintro e w' ⟨rfl, rfl⟩
    rw [HV.out]
    go_wp2
    go_ret2
    exact ⟨rfl, HS.out⟩

end Go.Proofs.Ytdbomnhlgaohaaa
end

section
namespace Go.Proofs.Ytdbomnhlgaohaaa
open Go.RowKit Go.Deep

set_option maxHeartbeats 1000000 in
theorem specChainTable_any (a : Option Addr) (cap n : Nat) (x : List Int) (w : World) (hn : x.length = n) (hc : n ≤ cap) (h63 : cap ≤ 9223372036854775807) (hm : RowR w a x) :
    Calls Try.prog 20 #[.slice a n cap] w (SpecT w (l9B x && decide (0 < n)) (chL (fun i => x.getD i 0) n n)) := by
  by_cases h1 : 0 < n
  · cases hok : l9B x with
    | true =>
      refine (specChainTable_ok a cap n x w hn hc h63 hm hok h1).mono ?_
      rintro e w' ⟨a', cap', rfl, hs, hin⟩
      have ht : (true && decide (0 < n)) = true := by simp [h1]
      refine ⟨a', cap', ?_, hs, ?_⟩
      · rw [ht]
        show _ = Ending.returned (.tuple #[.slice a' (chL _ n n).length cap', .bool true])
        rw [chL_length]
      · rw [ht]
        exact hin
    | false =>
      have E := l9Chain_any a cap n x w hn (by omega) hm
      rw [hok] at E
      replace E := Lib.hid E
      clear hok hm hn
      go_enter Try.func20, Try.ntmps20
      go_wp2_with fail
      refine (E.out).mono ?_
      rintro e w' ⟨rfl, rfl⟩
      go_wp2_with fail
      refine (l1None_any w).mono ?_
      rintro e w' ⟨rfl, hs⟩
      go_wp2
      go_ret2
      exact ⟨_, _, rfl, hs, InT.nil _ _ _ _⟩
  · obtain rfl : n = 0 := by omega
    have E := l9Chain_any a cap 0 x w hn (by omega) hm
    have hf : (l9B x && decide (0 < 0)) = false := by simp
    rw [hf]
    have hok : l9B x = true := by
      rw [l9B_all fun j hj => absurd hj (by omega)]
      simp [hn]
    rw [hok] at E
    replace E := Lib.hid E
    clear hok hm hn
    go_enter Try.func20, Try.ntmps20
    go_wp2_with fail
    refine (E.out).mono ?_
    rintro e w' ⟨rfl, rfl⟩
    go_wp2_with fail
    refine (l1None_any w).mono ?_
    rintro e w' ⟨rfl, hs⟩
    go_wp2
    go_ret2
    exact ⟨_, _, rfl, hs, InT.nil _ _ _ _⟩
end Go.Proofs.Ytdbomnhlgaohaaa
end

section
namespace Go.Proofs.Ytdbomnhlgaohaaa
open Go.RowKit Go.Deep

def timesL (l : List (List Int)) (f : Int) : List (List Int) := tabF l.length (l.getD 0 []).length fun i k => at2 l i k * f
theorem timesL_length (l : List (List Int)) (f : Int) : (timesL l f).length = l.length := tabF_length _ _ _
theorem mul_bd {a b : Int} (h1 : -30 ≤ a) (h2 : a ≤ 30) (h3 : -30 ≤ b) (h4 : b ≤ 30) : -900 ≤ a * b ∧ a * b ≤ 900 := by
  have h : ∀ x : Nat, ∀ y : Nat, x ≤ 30 → y ≤ 30 → x * y ≤ 900 := fun x y hx hy => Nat.le_trans (Nat.mul_le_mul hx hy) (by decide)
  have h5 := h a.natAbs b.natAbs (by omega) (by omega)
  rw [← Int.natAbs_mul] at h5
  omega

noncomputable def timesOk (l : List (List Int)) (f : Int) : Bool := tabIn l && (inB f (-30) 30 && tabIn (timesL l f))
theorem szL_times {l : List (List Int)} (f : Int) (h : TabIn l) : szL (timesL l f) ≤ 1048576 := szL_tabF _ _ _ (by have := h.2.1; omega) (by have := h.width; omega)

end Go.Proofs.Ytdbomnhlgaohaaa
end

section
namespace Go.Proofs.Ytdbomnhlgaohaaa
open Go.RowKit Go.Deep

theorem szL_timesOk (l : List (List Int)) (f : Int) (h : timesOk l f = true) : szL (timesL l f) ≤ 1048576 := by
  unfold timesOk at h
  rw [Bool.and_eq_true] at h
  exact szL_times f (tabIn_of h.1)

end Go.Proofs.Ytdbomnhlgaohaaa
end

section
namespace Go.Proofs.Ytdbomnhlgaohaaa
open Go.RowKit Go.Deep

def sumL (l u : List (List Int)) : List (List Int) := tabF l.length (l.getD 0 []).length fun i k => at2 l i k + at2 u i k
theorem sumL_length (l u : List (List Int)) : (sumL l u).length = l.length := tabF_length _ _ _

def alikeB (l u : List (List Int)) : Bool := (l.length == u.length) && ((l.getD 0 []).length == (u.getD 0 []).length)
noncomputable def sumOk (l u : List (List Int)) : Bool := tabIn l && (tabIn u && (alikeB l u && tabIn (sumL l u)))
theorem szL_sum {l : List (List Int)} (u : List (List Int)) (h : TabIn l) : szL (sumL l u) ≤ 1048576 := szL_tabF _ _ _ (by have := h.2.1; omega) (by have := h.width; omega)

end Go.Proofs.Ytdbomnhlgaohaaa
end

section
namespace Go.Proofs.Ytdbomnhlgaohaaa
open Go.RowKit Go.Deep

end Go.Proofs.Ytdbomnhlgaohaaa
end

section
namespace Go.Proofs.Ytdbomnhlgaohaaa
open Go.RowKit Go.Deep

theorem szL_sumOk (l u : List (List Int)) (h : sumOk l u = true) : szL (sumL l u) ≤ 1048576 := by
  unfold sumOk at h
  rw [Bool.and_eq_true] at h
  exact szL_sum u (tabIn_of h.1)

end Go.Proofs.Ytdbomnhlgaohaaa
end

section
namespace Go.Proofs.Ytdbomnhlgaohaaa
open Go.RowKit Go.Deep

def makeL (l u : List (List Int)) : List (List Int) := tabF l.length (u.getD 0 []).length fun i k => sumN (dotF l u i k) u.length
theorem makeL_length (l u : List (List Int)) : (makeL l u).length = l.length := tabF_length _ _ _

set_option maxRecDepth 100000 in
set_option maxHeartbeats 2000000 in
theorem product_any (a : Option Addr) (cap n : Nat) (l : List (List Int)) (a2 : Option Addr) (cap2 n2 : Nat) (u : List (List Int)) (w : World) (hn : l.length = n) (hT : TabIn l) (hm : MatR w a l) (hu : u.length = n2) (hTu : TabIn u) (huw : (l.getD 0 []).length = n2) (hmu : MatR w a2 u) :
    Calls Try.prog 82 #[.slice a n cap, .slice a2 n2 cap2] w fun e w' => e = .returned (.slice (some ⟨w.heap.size + 1 + 1, 0, none⟩) n n) ∧ w.Since w.heap.size w' ∧ OwnT w.heap.size w'.heap.size w' (some ⟨w.heap.size + 1 + 1, 0, none⟩) (makeL l u) := by
  have hw := hTu.width
  have h6 := hT.2.1
  rw [hn] at h6
  have g6 := hTu.2.1
  have g1 := hTu.1
  rw [hu] at g6 g1
  have hwid := fun (W : World) (hs : w.Since w.heap.size W) => width_any a2 cap2 n2 u W hu (by omega) (by omega) (hmu.since hs)
  obtain ⟨m2, hmm⟩ : ∃ m, (u.getD 0 []).length = m := ⟨_, rfl⟩
  have hnt := fun (W : World) (hs : w.Since w.heap.size W) (hb0 : W.cell? ⟨w.heap.size, 0, none⟩ = some (.slice a n cap)) (hb1 : W.cell? ⟨w.heap.size + 1, 0, none⟩ = some (.slice a2 n2 cap2)) =>
    newTable_any 95 #[.pointer (some ⟨w.heap.size + 1, 0, none⟩), .pointer (some ⟨w.heap.size, 0, none⟩)] n m2 (fun i k => sumN (dotF l u i k) n2) W (by omega) (by omega) (enters_of Try.func95 (by kernel_rfl) rfl)
      (fun W' i k hs' hi hk => prodEntry_any (w.heap.size + 1) w.heap.size i k n n2 n2 m2 cap cap2 a a2 l u W' hn hu hT hTu huw hmm rfl ((hs'.cell (a := ⟨w.heap.size + 1, 0, none⟩) (World.block_lt_of_cell? _ _ hb1)).trans hb1) ((hs'.cell (a := ⟨w.heap.size, 0, none⟩) (World.block_lt_of_cell? _ _ hb0)).trans hb0) (hm.since (hs.trans (since_mono hs' hs.size))) (hmu.since (hs.trans (since_mono hs' hs.size))) hi hk)
  have htl : makeL l u = tabF n m2 (fun i k => sumN (dotF l u i k) n2) := by unfold makeL; rw [hmm, hn, hu]
  rw [hmm] at hwid hw
  rw [htl]
  have HW := Lib.hid hwid
  have HNT := Lib.hid hnt
  have HS1 := Lib.hid (show w.Since w.heap.size ((w.alloc (.cells #[.slice a n cap] 50)).alloc (.cells #[.slice a2 n2 cap2] 50)) from (((World.Since.refl _ _).alloc (Nat.le_refl _) _).alloc (by simp) _))
  have hc0 := cell_new_l w (.slice a n cap) 50
  have hc1 := cell_new_l (w.alloc (.cells #[.slice a n cap] 50)) (.slice a2 n2 cap2) 50
  simp only [World.size_alloc] at hc1
  have hcb0 : ((w.alloc (.cells #[.slice a n cap] 50)).alloc (.cells #[.slice a2 n2 cap2] 50)).cell? ⟨w.heap.size, 0, none⟩ = some (.slice a n cap) := (cell_alloc_l _ hc0.1)
  have hcb1 : ((w.alloc (.cells #[.slice a n cap] 50)).alloc (.cells #[.slice a2 n2 cap2] 50)).cell? ⟨w.heap.size + 1, 0, none⟩ = some (.slice a2 n2 cap2) := hc1.1
  clear hwid hnt hm hT hn hmm htl hc0 hc1 hu hTu huw hmu
  go_enter Try.func82, Try.ntmps82
  go_wp2
  go_region_held3 (fun w' => w'.cell? ⟨w.heap.size, 0, none⟩ = some (.slice a n cap) ∧ w'.cell? ⟨w.heap.size + 1, 0, none⟩ = some (.slice a2 n2 cap2)) (go_keep)
    (first
      | (go_at_call 83; refine (HW.out _ ?_).mono ?_; (exact World.Since.drew HS1.out); rintro e w1 ⟨rfl, rfl⟩)
      | (go_at_call 74; refine (HNT.out _ ?_ ?_ ?_).mono ?_; (exact World.Since.drew HS1.out); (exact hcb0); (exact hcb1); rintro e w1 ⟨rfl, hs2, ho⟩; have hcc := hs2.cell (a := ⟨w.heap.size, 0, none⟩) (World.block_lt_of_cell? _ _ hcb0); simp only [World.cell?_drew, hcb0] at hcc; have hcd := hs2.cell (a := ⟨w.heap.size + 1, 0, none⟩) (World.block_lt_of_cell? _ _ hcb1); simp only [World.cell?_drew, hcb1] at hcd))
  all_goals
    go_wp2
    go_ret
    refine ⟨rfl, HS1.out.trans (since_mono (since_of_drew hs2) (by simp; omega)), ?_⟩
    have hz : ((w.alloc (.cells #[.slice a n cap] 50)).alloc (.cells #[.slice a2 n2 cap2] 50)).drew.heap.size = w.heap.size + 1 + 1 := by simp
    rw [hz] at ho
    exact ho.mono (by omega) (Nat.le_refl _)

noncomputable def makeOk (l u : List (List Int)) : Bool := tabIn l && (tabIn u && (((l.getD 0 []).length == u.length) && tabIn (makeL l u)))
theorem szL_make {l u : List (List Int)} (h : TabIn l) (hu : TabIn u) : szL (makeL l u) ≤ 1048576 := szL_tabF _ _ _ (by have := h.2.1; omega) (by have := hu.width; omega)

end Go.Proofs.Ytdbomnhlgaohaaa
end

section
namespace Go.Proofs.Ytdbomnhlgaohaaa
open Go.RowKit Go.Deep

def partF (f : Nat → Nat → Int) (n2 k j c : Nat) : Int := if c < k then sumN (f c) n2 else if c = k then sumN (f k) j else 0

structure MR (wo wr : World) (m2 : Nat) (f : Nat → Nat → Int) (n2 k j : Nat) : Prop where
  since : wo.Since wo.heap.size wr
  row : wr.rowIs wo.heap.size 3 m2 (fun c => .int .i64 (partF f n2 k j c))
theorem mr_start (wo : World) (m2 : Nat) (f : Nat → Nat → Int) (n2 : Nat) : MR wo (wo.alloc (.cells (madeCells #[.int .i64 0] m2) 3)) m2 f n2 0 0 :=
  ⟨(World.Since.refl _ _).alloc (Nat.le_refl _) _, (World.rowIs_made wo (.int .i64 0) m2 3).congr fun c _ => by
    unfold partF
    rw [if_neg (by omega)]
    by_cases e : c = 0
    · rw [if_pos e]; rfl
    · rw [if_neg e]⟩
theorem MR.facts {wo wr : World} {m2 n2 k j : Nat} {f : Nat → Nat → Int} (h : MR wo wr m2 f n2 k j) (hk : k < m2) : wr.cell? ⟨wo.heap.size, k, none⟩ = some (.int .i64 (sumN (f k) j)) ∧ wr.frozen? ⟨wo.heap.size, k, none⟩ = false := by
  refine ⟨?_, h.row.frozen k⟩
  have := h.row.cell hk
  unfold partF at this
  rw [if_neg (by omega), if_pos rfl] at this
  exact this
theorem MR.store {wo wr : World} {m2 n2 k j : Nat} {f : Nat → Nat → Int} (h : MR wo wr m2 f n2 k j) (q : Nat) (hk : k < m2) : MR wo ((wr.drewN q).setCell ⟨wo.heap.size, k, none⟩ (.int .i64 (sumN (f k) (j + 1)))) m2 f n2 k (j + 1) := by
  have hr : (wr.drewN q).rowIs wo.heap.size 3 m2 (fun c => .int .i64 (partF f n2 k j c)) := h.row
  refine ⟨(since_drewN h.since q).setCell (Nat.le_refl _) _, (hr.set k _).congr fun c _ => ?_⟩
  unfold partF
  by_cases e : c = k
  · subst e; simp
  · rw [if_neg e]
    by_cases e2 : c < k
    · rw [if_pos e2, if_pos e2]
    · rw [if_neg e2, if_neg e, if_neg e2, if_neg e]
theorem MR.next {wo wr : World} {m2 n2 k : Nat} {f : Nat → Nat → Int} (h : MR wo wr m2 f n2 k n2) : MR wo wr m2 f n2 (k + 1) 0 := by
  refine ⟨h.since, h.row.congr fun c _ => ?_⟩
  unfold partF
  by_cases e2 : c < k
  · rw [if_pos e2, if_pos (by omega)]
  · rw [if_neg e2]
    by_cases e : c = k
    · subst e; simp
    · rw [if_neg e, if_neg (by omega)]
      by_cases e3 : c = k + 1
      · rw [if_pos e3]; rfl
      · rw [if_neg e3]
theorem MR.rowB {wo wr : World} {m2 n2 : Nat} {f : Nat → Nat → Int} (h : MR wo wr m2 f n2 m2 0) : RowB wr wo.heap.size ((List.range m2).map fun c => sumN (f c) n2) :=
  RowB.of_rowIs h.row (by simp) fun i hi => by
    simp at hi
    unfold partF
    rw [if_pos hi]
    simp [List.getD, hi]

def makeTo (l u : List (List Int)) (m2 n2 i : Nat) : List (List Int) := tabF i m2 fun i k => sumN (dotF l u i k) n2
theorem makeTo_succ (l u : List (List Int)) (m2 n2 i : Nat) : makeTo l u m2 n2 (i + 1) = makeTo l u m2 n2 i ++ [(List.range m2).map fun k => sumN (dotF l u i k) n2] := by simp [makeTo, tabF, List.range_succ]
theorem makeTo_length (l u : List (List Int)) (m2 n2 i : Nat) : (makeTo l u m2 n2 i).length = i := tabF_length _ _ _
theorem sumN_bd (f : Nat → Int) : ∀ (n : Nat), (∀ j, j < n → -900 ≤ f j ∧ f j ≤ 900) → -(900 * (n : Int)) ≤ sumN f n ∧ sumN f n ≤ 900 * (n : Int)
  | 0, _ => by simp [sumN]
  | n + 1, h => by
    have h1 := sumN_bd f n (fun j hj => h j (by omega))
    have h2 := h n (by omega)
    unfold sumN
    omega

set_option maxRecDepth 100000 in
set_option maxHeartbeats 4000000 in
theorem l1Make_any (a a2 : Option Addr) (cap cap2 n n2 : Nat) (l u : List (List Int)) (w : World) (hn : l.length = n) (hu : u.length = n2) (hm : MatR w a l) (hmu : MatR w a2 u) (hT : TabIn l) (hTu : TabIn u) (hmm : (l.getD 0 []).length = n2) :
    Calls Try.prog 63 #[.slice a n cap, .slice a2 n2 cap2] w fun e w' => ∃ a' cap', e = .returned (.slice a' n cap') ∧ w.Since w.heap.size w' ∧ OwnT w.heap.size w'.heap.size w' a' (makeL l u) := by
  obtain ⟨i42, hi42⟩ := info42_parts
  have HI := Lib.hid hi42
  clear hi42
  have hst := bt_start w (fun _ => none) (fun _ => 0) #[] rfl
  have h6 := hT.2.1
  have h1 := hT.1
  have g6 := hTu.2.1
  have g1 := hTu.1
  have gw := hTu.width
  rw [hn] at h6 h1
  rw [hu] at g6 g1
  obtain ⟨m2, hmm2⟩ : ∃ m, (u.getD 0 []).length = m := ⟨_, rfl⟩
  have htl : makeL l u = makeTo l u m2 n2 n := by unfold makeL makeTo; rw [hmm2, hn, hu]
  rw [hmm2] at gw
  rw [htl]
  have hmk := run_make_row' (P := Try.prog) 23 3 (.int .i64 0) 8 Try.underlying23 Try.info3 rfl .i64 .i64 m2 (by omega) (by omega)
  obtain ⟨bt, ot, At, Ct, rfl, hlen, hcell⟩ := hm.grid hn hT hmm
  obtain ⟨bu, ou, Au, Cu, rfl, hlenu, hcellu⟩ := hmu.grid hu hTu hmm2
  have hcu0 := hlenu 0 (by omega)
  rw [Nat.add_zero] at hcu0
  have hbul : bu < w.heap.size := World.block_lt_of_cell? _ _ hcu0
  have HC := Lib.hid hcell
  have HCU := Lib.hid hcellu
  have HCU0 := Lib.hid hcu0
  have HMK := Lib.hid hmk
  have hmix : Try.prog.follows .mixedOrders = true := by kernel_rfl
  clear hm hn hmm hlen hcell hT hmu hTu hlenu hcellu hu hmm2 htl hcu0 hmk
  go_enter Try.func63, Try.ntmps63
  go_wp2
  go_loopg [5, 6, 7, 8, 9] n (fun g v i _ _ _ wr => ∃ r : Nat, ∃ A C, r ≤ n ∧ g = n - r ∧ i = .int .i64 r ∧ BT w wr v (makeTo l u m2 n2 r) A C)
  case atStart => exact ⟨0, _, _, Nat.zero_le _, rfl, rfl, hst⟩
  case round =>
    obtain ⟨r, A, C, hr, rfl, rfl, hR⟩ := hrel
    clear hst
    by_cases hlt : r < n
    · have HR := Lib.hid hR
      have hsz := hR.since.size
      have hlen := makeTo_length l u m2 n2 r
      have hc0 := HCU0.out
      rw [← hR.since.cell (a := ⟨bu, ou, none⟩) hbul] at hc0
      have hmr := mr_start wr m2 (dotF l u r) n2
      have HMR := Lib.hid hmr
      have hmk := HMK.out
      obtain ⟨wo, hwo⟩ : ∃ wo : World, wo = wr := ⟨_, rfl⟩
      clear hR hmr
      go_wp2
      clear hmk hc0
      subst hwo
      obtain ⟨g, hg⟩ : ∃ g, wo.heap.size = g := ⟨_, rfl⟩
      rw [hg]
      have HG := Lib.hid hg
      have hwg : w.heap.size ≤ g := by omega
      clear hg
      go_loopg [8, 9] m2 (fun g k _ wi => ∃ c : Nat, c ≤ m2 ∧ g = m2 - c ∧ k = .int .i64 c ∧ MR wo wi m2 (dotF l u r) n2 c 0)
      case atStart => exact ⟨0, Nat.zero_le _, rfl, rfl, HMR.out⟩
      case round =>
        obtain ⟨c, hc, rfl, rfl, hI⟩ := hrel
        clear HMR
        have hS := HR.out.since.trans (since_mono hI.since hsz)
        have hc0 := HCU0.out
        rw [← hS.cell (a := ⟨bu, ou, none⟩) hbul] at hc0
        by_cases hcm : c < m2
        · have HII := Lib.hid hI
          clear hI hS
          go_wp2
          clear hc0
          go_loopg [9] n2 (fun g j wj => ∃ j' : Nat, j' ≤ n2 ∧ g = n2 - j' ∧ j = .int .i64 j' ∧ MR wo wj m2 (dotF l u r) n2 c j')
          case atStart => exact ⟨0, Nat.zero_le _, rfl, rfl, HII.out⟩
          case round =>
            obtain ⟨j, hj, rfl, rfl, hJ⟩ := hrel
            clear HII
            by_cases hjn : j < n2
            · obtain ⟨b1, o1, e1, e2, e3⟩ := HC.out r j hlt hjn
              obtain ⟨d1, q1, f1, f2, f3⟩ := HCU.out j c hjn hcm
              have hS := HR.out.since.trans (since_mono hJ.since hsz)
              obtain ⟨k1, k2⟩ := hJ.facts hcm
              have hzz := HR.out.since.size
              have hb1 : bt < w.heap.size := World.block_lt_of_cell? _ _ e1
              have hb2 : b1 < w.heap.size := World.block_lt_of_cell? _ _ e2
              have hb4 : d1 < w.heap.size := World.block_lt_of_cell? _ _ f2
              rw [← hS.cell (a := ⟨bt, ot + r, none⟩) hb1] at e1
              rw [← hS.cell (a := ⟨b1, o1 + j, none⟩) hb2] at e2
              rw [← hS.cell (a := ⟨bu, ou + j, none⟩) hbul] at f1
              rw [← hS.cell (a := ⟨d1, q1 + c, none⟩) hb4] at f2
              have hbd := sumN_bd (dotF l u r c) j (fun j' hj' => by
                obtain ⟨_, _, _, _, b1⟩ := HC.out r j' hlt (by omega)
                obtain ⟨_, _, _, _, b2⟩ := HCU.out j' c (by omega) hcm
                exact mul_bd2 _ _ b1 b2)
              have hsu : sumN (dotF l u r c) (j + 1) = sumN (dotF l u r c) j + at2 l r j * at2 u j c := rfl
              have hN := fun q => hJ.store q hcm
              rw [hsu] at hN
              obtain ⟨p, hp⟩ : ∃ p, at2 l r j = p := ⟨_, rfl⟩
              obtain ⟨q, hq⟩ : ∃ q, at2 u j c = q := ⟨_, rfl⟩
              obtain ⟨s, hs⟩ : ∃ s, sumN (dotF l u r c) j = s := ⟨_, rfl⟩
              rw [hp] at e2 e3 hN
              rw [hq] at f2 f3 hN
              rw [hs] at k1 hbd hN
              have hpq := mul_bd2 p q e3 f3
              have hw1 : IntKind.i64.wrap (p * q) = p * q := IntWalk.i64_in _ ⟨by omega, by omega⟩
              have hw2 : IntKind.i64.wrap (s + p * q) = s + p * q := IntWalk.i64_in _ ⟨by omega, by omega⟩
              rw [HG.out] at k1 k2 hN
              have m1 := cell_set_ne (g := g) (j := c) (v := .int .i64 (s + p * q)) e1 (show bt ≠ g by omega)
              have m2' := cell_set_ne (g := g) (j := c) (v := .int .i64 (s + p * q)) e2 (show b1 ≠ g by omega)
              have m3 := cell_set_ne (g := g) (j := c) (v := .int .i64 (s + p * q)) f1 (show bu ≠ g by omega)
              have m4 := cell_set_ne (g := g) (j := c) (v := .int .i64 (s + p * q)) f2 (show d1 ≠ g by omega)
              have HN := Lib.hid (hN 1)
              clear hN hJ hp hq hs hsu hS hbd
              go_wp2
              go_still_tail 22, hmix
              go_wp2
              go_roundg (n2 - (j + 1))
              case measure => omega
              case rel => exact ⟨j + 1, by omega, rfl, by go_num, HN.out⟩
            · have hjj : j = n2 := by omega
              subst hjj
              have HNN := Lib.hid hJ.next
              clear hJ
              go_wp2
              go_roundg (m2 - (c + 1))
              case measure => omega
              case rel => exact ⟨c + 1, by omega, rfl, by go_num, HNN.out⟩
        · have hcc : c = m2 := by omega
          subst hcc
          have HII := Lib.hid hI
          have hzi := hI.since.size
          clear hI hS
          go_wp2_with (at_builtin; (refine wpList_append_own _ rfl _ _ 28 rfl w.heap.size 23 i42 (.slice none 0 0) 1 24 Try.underlying28 HI.out.1 HI.out.2.1 HI.out.2.2.1 HI.out.2.2.2 rfl (by decide) _ _ _ rfl ((HR.out.later HII.out.since).own.alloc _) ⟨wr.heap.size, 0, none⟩ 1 1 [.slice (some ⟨g, 0, none⟩) c c] rfl rfl (cell_one_at _ _ _ rfl) (fun x hx => by simp at hx; subst hx; rfl) (by unfold maxLen; omega) (by omega) (by simp; omega) ?_); intro v' w1 hown' hgrow _)
          have hP := (HR.out.later HII.out.since).push (rv := .slice (some ⟨g, 0, none⟩) c c) (x := (List.range c).map fun k => sumN (dotF l u r k) n2) (a := some ⟨g, 0, none⟩) (cp := c) (by simp)
            (fun _ => ⟨g, rfl, hwg, by rw [← HG.out]; exact HII.out.rowB⟩) (fun _ => HR.out.fresh rfl (by rw [HG.out]; exact Nat.le_refl _)) hown' hgrow
          rw [← makeTo_succ] at hP
          have HP := Lib.hid hP
          clear hP hown' hgrow hlen
          go_roundg (n - (r + 1))
          case measure => omega
          case rel => exact ⟨r + 1, _, _, by omega, rfl, by go_num, HP.out⟩
    · have : r = n := by omega
      subst this
      obtain ⟨a, cap, rfl, hin⟩ := hR.ownT
      have HS := Lib.hid hR.since
      clear hR
      go_wp2
      go_ret
      exact ⟨a, cap, by show Ending.returned (.slice a (makeTo l u m2 n2 r).length cap) = _; rw [makeTo_length], HS.out, hin⟩

theorem szL_makeOk (l u : List (List Int)) (h : makeOk l u = true) : szL (makeL l u) ≤ 1048576 := by
  unfold makeOk at h
  rw [Bool.and_eq_true, Bool.and_eq_true] at h
  exact szL_make (tabIn_of h.1) (tabIn_of h.2.1)

end Go.Proofs.Ytdbomnhlgaohaaa
end

section
namespace Go.Proofs.Ytdbomnhlgaohaaa
open Go.RowKit Go.Deep

theorem MatR.gridR {w : World} {a : Option Addr} {l : List (List Int)} {n m : Nat} (h : MatR w a l) (hn : l.length = n) (hT : Rec l) (hm : (l.getD 0 []).length = m) :
    ∃ (b o : Nat) (A : Nat → Option Addr) (C : Nat → Nat), a = some ⟨b, o, none⟩ ∧ (∀ i, i < n → w.cell? ⟨b, o + i, none⟩ = some (.slice (A i) m (C i))) ∧
      ∀ i j, i < n → j < m → ∃ b' o', w.cell? ⟨b, o + i, none⟩ = some (.slice (some ⟨b', o', none⟩) m (C i)) ∧ w.cell? ⟨b', o' + j, none⟩ = some (.int .i64 (at2 l i j)) := by
  subst hn
  have hrow : ∀ r, r < l.length → (l.getD r []).length = m := fun r hr => by rw [hT.row hr, hm]
  obtain ⟨b, o, A, C, e, hc⟩ := h hT.low
  refine ⟨b, o, A, C, e, fun i hi => by rw [(hc i hi).1, hrow i hi], fun i j hi hj => ?_⟩
  obtain ⟨hc1, hc2⟩ := hc i hi
  have hrl := hrow i hi
  obtain ⟨b', o', e', h3⟩ := hc2 (by omega)
  rw [e', hrl] at hc1
  exact ⟨b', o', hc1, h3 j (by omega)⟩

end Go.Proofs.Ytdbomnhlgaohaaa
end

section
namespace Go.Proofs.Ytdbomnhlgaohaaa
open Go.RowKit Go.Deep

set_option maxRecDepth 100000 in
set_option maxHeartbeats 4000000 in
theorem l1MakeR_any (a a2 : Option Addr) (cap cap2 n n2 : Nat) (l u : List (List Int)) (w : World) (hn : l.length = n) (hu : u.length = n2) (hm : MatR w a l) (hmu : MatR w a2 u) (hT : Rec l) (hTu : Rec u) (hmm : (l.getD 0 []).length = n2) (hB : ∀ i j k, i < n → j < n2 → k < (u.getD 0 []).length → -1000000000000 ≤ at2 l i j * at2 u j k ∧ at2 l i j * at2 u j k ≤ 1000000000000) :
    Calls Try.prog 63 #[.slice a n cap, .slice a2 n2 cap2] w fun e w' => ∃ a' cap', e = .returned (.slice a' n cap') ∧ w.Since w.heap.size w' ∧ OwnT w.heap.size w'.heap.size w' a' (makeL l u) := by
  obtain ⟨i42, hi42⟩ := info42_parts
  have HI := Lib.hid hi42
  clear hi42
  have hst := bt_start w (fun _ => none) (fun _ => 0) #[] rfl
  have h6 := hT.high
  have h1 := hT.low
  have g6 := hTu.high
  have g1 := hTu.low
  have gw := hTu.width
  rw [hn] at h6 h1
  rw [hu] at g6 g1
  obtain ⟨m2, hmm2⟩ : ∃ m, (u.getD 0 []).length = m := ⟨_, rfl⟩
  have htl : makeL l u = makeTo l u m2 n2 n := by unfold makeL makeTo; rw [hmm2, hn, hu]
  rw [hmm2] at gw hB
  have HB := Lib.hid hB
  clear hB
  rw [htl]
  have hmk := run_make_row' (P := Try.prog) 23 3 (.int .i64 0) 8 Try.underlying23 Try.info3 rfl .i64 .i64 m2 (by omega) (by omega)
  obtain ⟨bt, ot, At, Ct, rfl, hlen, hcell⟩ := hm.gridR hn hT hmm
  obtain ⟨bu, ou, Au, Cu, rfl, hlenu, hcellu⟩ := hmu.gridR hu hTu hmm2
  have hcu0 := hlenu 0 (by omega)
  rw [Nat.add_zero] at hcu0
  have hbul : bu < w.heap.size := World.block_lt_of_cell? _ _ hcu0
  have HC := Lib.hid hcell
  have HCU := Lib.hid hcellu
  have HCU0 := Lib.hid hcu0
  have HMK := Lib.hid hmk
  have hmix : Try.prog.follows .mixedOrders = true := by kernel_rfl
  clear hm hn hmm hlen hcell hT hmu hTu hlenu hcellu hu hmm2 htl hcu0 hmk
  go_enter Try.func63, Try.ntmps63
  go_wp2
  go_loopg [5, 6, 7, 8, 9] n (fun g v i _ _ _ wr => ∃ r : Nat, ∃ A C, r ≤ n ∧ g = n - r ∧ i = .int .i64 r ∧ BT w wr v (makeTo l u m2 n2 r) A C)
  case atStart => exact ⟨0, _, _, Nat.zero_le _, rfl, rfl, hst⟩
  case round =>
    obtain ⟨r, A, C, hr, rfl, rfl, hR⟩ := hrel
    clear hst
    by_cases hlt : r < n
    · have HR := Lib.hid hR
      have hsz := hR.since.size
      have hlen := makeTo_length l u m2 n2 r
      have hc0 := HCU0.out
      rw [← hR.since.cell (a := ⟨bu, ou, none⟩) hbul] at hc0
      have hmr := mr_start wr m2 (dotF l u r) n2
      have HMR := Lib.hid hmr
      have hmk := HMK.out
      obtain ⟨wo, hwo⟩ : ∃ wo : World, wo = wr := ⟨_, rfl⟩
      clear hR hmr
      go_wp2
      clear hmk hc0
      subst hwo
      obtain ⟨g, hg⟩ : ∃ g, wo.heap.size = g := ⟨_, rfl⟩
      rw [hg]
      have HG := Lib.hid hg
      have hwg : w.heap.size ≤ g := by omega
      clear hg
      go_loopg [8, 9] m2 (fun g k _ wi => ∃ c : Nat, c ≤ m2 ∧ g = m2 - c ∧ k = .int .i64 c ∧ MR wo wi m2 (dotF l u r) n2 c 0)
      case atStart => exact ⟨0, Nat.zero_le _, rfl, rfl, HMR.out⟩
      case round =>
        obtain ⟨c, hc, rfl, rfl, hI⟩ := hrel
        clear HMR
        have hS := HR.out.since.trans (since_mono hI.since hsz)
        have hc0 := HCU0.out
        rw [← hS.cell (a := ⟨bu, ou, none⟩) hbul] at hc0
        by_cases hcm : c < m2
        · have HII := Lib.hid hI
          clear hI hS
          go_wp2
          clear hc0
          go_loopg [9] n2 (fun g j wj => ∃ j' : Nat, j' ≤ n2 ∧ g = n2 - j' ∧ j = .int .i64 j' ∧ MR wo wj m2 (dotF l u r) n2 c j')
          case atStart => exact ⟨0, Nat.zero_le _, rfl, rfl, HII.out⟩
          case round =>
            obtain ⟨j, hj, rfl, rfl, hJ⟩ := hrel
            clear HII
            by_cases hjn : j < n2
            · obtain ⟨b1, o1, e1, e2⟩ := HC.out r j hlt hjn
              obtain ⟨d1, q1, f1, f2⟩ := HCU.out j c hjn hcm
              have hS := HR.out.since.trans (since_mono hJ.since hsz)
              obtain ⟨k1, k2⟩ := hJ.facts hcm
              have hzz := HR.out.since.size
              have hb1 : bt < w.heap.size := World.block_lt_of_cell? _ _ e1
              have hb2 : b1 < w.heap.size := World.block_lt_of_cell? _ _ e2
              have hb4 : d1 < w.heap.size := World.block_lt_of_cell? _ _ f2
              rw [← hS.cell (a := ⟨bt, ot + r, none⟩) hb1] at e1
              rw [← hS.cell (a := ⟨b1, o1 + j, none⟩) hb2] at e2
              rw [← hS.cell (a := ⟨bu, ou + j, none⟩) hbul] at f1
              rw [← hS.cell (a := ⟨d1, q1 + c, none⟩) hb4] at f2
              have hbd := sumN_bdB (f := dotF l u r c) (B := 1000000000000) j (fun j' hj' => HB.out r j' c hlt (by omega) hcm)
              have hpq := HB.out r j c hlt hjn hcm
              have hsu : sumN (dotF l u r c) (j + 1) = sumN (dotF l u r c) j + at2 l r j * at2 u j c := rfl
              have hN := fun q => hJ.store q hcm
              rw [hsu] at hN
              obtain ⟨p, hp⟩ : ∃ p, at2 l r j = p := ⟨_, rfl⟩
              obtain ⟨q, hq⟩ : ∃ q, at2 u j c = q := ⟨_, rfl⟩
              obtain ⟨s, hs⟩ : ∃ s, sumN (dotF l u r c) j = s := ⟨_, rfl⟩
              rw [hp] at e2 hpq hN
              rw [hq] at f2 hpq hN
              rw [hs] at k1 hbd hN
              have hw1 : IntKind.i64.wrap (p * q) = p * q := IntWalk.i64_in _ ⟨by omega, by omega⟩
              have hw2 : IntKind.i64.wrap (s + p * q) = s + p * q := IntWalk.i64_in _ ⟨by omega, by omega⟩
              rw [HG.out] at k1 k2 hN
              have m1 := cell_set_ne (g := g) (j := c) (v := .int .i64 (s + p * q)) e1 (show bt ≠ g by omega)
              have m2' := cell_set_ne (g := g) (j := c) (v := .int .i64 (s + p * q)) e2 (show b1 ≠ g by omega)
              have m3 := cell_set_ne (g := g) (j := c) (v := .int .i64 (s + p * q)) f1 (show bu ≠ g by omega)
              have m4 := cell_set_ne (g := g) (j := c) (v := .int .i64 (s + p * q)) f2 (show d1 ≠ g by omega)
              have HN := Lib.hid (hN 1)
              clear hN hJ hp hq hs hsu hS hbd
              go_wp2
              go_still_tail 22, hmix
              go_wp2
              go_roundg (n2 - (j + 1))
              case measure => omega
              case rel => exact ⟨j + 1, by omega, rfl, by go_num, HN.out⟩
            · have hjj : j = n2 := by omega
              subst hjj
              have HNN := Lib.hid hJ.next
              clear hJ
              go_wp2
              go_roundg (m2 - (c + 1))
              case measure => omega
              case rel => exact ⟨c + 1, by omega, rfl, by go_num, HNN.out⟩
        · have hcc : c = m2 := by omega
          subst hcc
          have HII := Lib.hid hI
          have hzi := hI.since.size
          clear hI hS
          go_wp2_with (at_builtin; (refine wpList_append_own _ rfl _ _ 28 rfl w.heap.size 23 i42 (.slice none 0 0) 1 24 Try.underlying28 HI.out.1 HI.out.2.1 HI.out.2.2.1 HI.out.2.2.2 rfl (by decide) _ _ _ rfl ((HR.out.later HII.out.since).own.alloc _) ⟨wr.heap.size, 0, none⟩ 1 1 [.slice (some ⟨g, 0, none⟩) c c] rfl rfl (cell_one_at _ _ _ rfl) (fun x hx => by simp at hx; subst hx; rfl) (by unfold maxLen; omega) (by omega) (by simp; omega) ?_); intro v' w1 hown' hgrow _)
          have hP := (HR.out.later HII.out.since).push (rv := .slice (some ⟨g, 0, none⟩) c c) (x := (List.range c).map fun k => sumN (dotF l u r k) n2) (a := some ⟨g, 0, none⟩) (cp := c) (by simp)
            (fun _ => ⟨g, rfl, hwg, by rw [← HG.out]; exact HII.out.rowB⟩) (fun _ => HR.out.fresh rfl (by rw [HG.out]; exact Nat.le_refl _)) hown' hgrow
          rw [← makeTo_succ] at hP
          have HP := Lib.hid hP
          clear hP hown' hgrow hlen
          go_roundg (n - (r + 1))
          case measure => omega
          case rel => exact ⟨r + 1, _, _, by omega, rfl, by go_num, HP.out⟩
    · have : r = n := by omega
      subst this
      obtain ⟨a, cap, rfl, hin⟩ := hR.ownT
      have HS := Lib.hid hR.since
      clear hR
      go_wp2
      go_ret
      exact ⟨a, cap, by show Ending.returned (.slice a (makeTo l u m2 n2 r).length cap) = _; rw [makeTo_length], HS.out, hin⟩

end Go.Proofs.Ytdbomnhlgaohaaa
end

section
namespace Go.Proofs.Ytdbomnhlgaohaaa
open Go.RowKit Go.Deep

def tuF9 (f : Nat → Int) (k : Nat) (i j : Nat) : Int := if i = 0 then (if j = 0 then kf f k else kP f k) else if k = 0 then (if j = 0 then 0 else 1) else if j = 0 then kT f k else kD f k
def tuM (f : Nat → Int) (k : Nat) : List (List Int) := [[tuF9 f k 0 0, tuF9 f k 0 1], [tuF9 f k 1 0, tuF9 f k 1 1]]
theorem tuM_zero (f : Nat → Int) : tuM f 0 = unitL 2 2 := by
  simp [tuM, tuF9, unitL, tabF, unitF, kf, kP, List.range_succ]
theorem kT_step (f : Nat → Int) : ∀ k, kT f (k + 1) = if k = 0 then 1 else f k * kT f k + kD f k
  | 0 => rfl
  | k + 1 => by
    rw [if_neg (by omega)]
    show kf (fun i => f (i + 1)) (k + 1) = f (k + 1) * kf (fun i => f (i + 1)) k + kP (fun i => f (i + 1)) k
    rw [kf_step]
theorem kD_step (f : Nat → Int) : ∀ k, kD f (k + 1) = kT f k
  | 0 => rfl
  | _ + 1 => rfl
theorem tuM_succ (f : Nat → Int) (k : Nat) : makeL (tuM f k) [[f k, 1], [1, 0]] = tuM f (k + 1) := by
  have h1 := kf_step f k
  have h2 := kP_succ f k
  have h3 := kT_step f k
  have h4 := kD_step f k
  have hl : (tuM f k).length = 2 := rfl
  unfold makeL
  rw [hl]
  simp only [tuM, tuF9, tabF, sumN, dotF, at2, List.range_succ, List.range_zero, List.map_cons, List.map_nil, List.getD_cons_zero, List.getD_cons_succ, List.length_cons, List.length_nil, List.nil_append, List.cons_append]
  by_cases hk : k = 0
  · subst hk
    simp [h4, kf, kP, kT]
  · rw [if_neg hk] at h3
    simp [hk, h1, h2, h3, h4]
    grind
theorem tuF9_lt {f : Nat → Int} (h : ∀ j, -9 ≤ f j ∧ f j ≤ 9) {k : Nat} (hk : k ≤ 6) (i j : Nat) : -10000000 ≤ tuF9 f k i j ∧ tuF9 f k i j ≤ 10000000 := by
  have h1 := kf_lt h (n := k) (by omega)
  have h2 := kP_lt h (n := k) (by omega)
  have h3 : -10000000 ≤ kT f k ∧ kT f k ≤ 10000000 := by
    cases k with
    | zero => show (-10000000 : Int) ≤ 0 ∧ (0 : Int) ≤ 10000000; decide
    | succ k => exact kf_lt (f := fun i => f (i + 1)) (fun j => h (j + 1)) (n := k) (by omega)
  have h4 : -10000000 ≤ kD f k ∧ kD f k ≤ 10000000 := by
    cases k with
    | zero => show (-10000000 : Int) ≤ 0 ∧ (0 : Int) ≤ 10000000; decide
    | succ k => exact kP_lt (f := fun i => f (i + 1)) (fun j => h (j + 1)) (n := k) (by omega)
  unfold tuF9
  split
  · split <;> omega
  · split
    · split <;> omega
    · split <;> omega
theorem rec22 (a b c d : Int) : Rec [[a, b], [c, d]] := ⟨by simp, by simp, by simp, fun {r} hr => by
  rcases Nat.lt_or_ge r 1 with h | h
  · obtain rfl : r = 0 := by omega
    rfl
  · obtain rfl : r = 1 := by
      simp only [List.length_cons, List.length_nil] at hr
      omega
    rfl⟩
theorem two_cases {i : Nat} (h : i < 2) : i = 0 ∨ i = 1 := by omega
theorem tu_prod {f : Nat → Int} (h : ∀ j, -9 ≤ f j ∧ f j ≤ 9) {r : Nat} (hr : r ≤ 6) {y : Int} (hy : -9 ≤ y ∧ y ≤ 9) (i j k : Nat) (hi : i < 2) (hj : j < 2) (hk : k < 2) : -1000000000000 ≤ at2 (tuM f r) i j * at2 [[y, 1], [1, 0]] j k ∧ at2 (tuM f r) i j * at2 [[y, 1], [1, 0]] j k ≤ 1000000000000 := by
  have hb : -10000000 ≤ at2 (tuM f r) i j ∧ at2 (tuM f r) i j ≤ 10000000 := by
    rcases two_cases hi with rfl | rfl <;> rcases two_cases hj with rfl | rfl
    · exact tuF9_lt h hr 0 0
    · exact tuF9_lt h hr 0 1
    · exact tuF9_lt h hr 1 0
    · exact tuF9_lt h hr 1 1
  have hu : -9 ≤ at2 [[y, 1], [1, 0]] j k ∧ at2 [[y, 1], [1, 0]] j k ≤ 9 := by
    rcases two_cases hj with rfl | rfl <;> rcases two_cases hk with rfl | rfl
    · exact hy
    · exact ⟨by show (-9 : Int) ≤ 1; decide, by show (1 : Int) ≤ 9; decide⟩
    · exact ⟨by show (-9 : Int) ≤ 1; decide, by show (1 : Int) ≤ 9; decide⟩
    · exact ⟨by show (-9 : Int) ≤ 0; decide, by show (0 : Int) ≤ 9; decide⟩
  have := mul9 (b := at2 (tuM f r) i j) hu (c := 10000000) hb
  rw [Int.mul_comm (at2 (tuM f r) i j)]
  omega
theorem lit22 (W : World) (y : Int) : MatR (((W.alloc (.cells #[.int .i64 y, .int .i64 1] 3)).alloc (.cells #[.int .i64 1, .int .i64 0] 3)).alloc (.cells #[.slice (some ⟨W.heap.size, 0, none⟩) 2 2, .slice (some ⟨W.heap.size + 1, 0, none⟩) 2 2] 23)) (some ⟨W.heap.size + 1 + 1, 0, none⟩) [[y, 1], [1, 0]] := by
  obtain ⟨W1, hW1⟩ : ∃ V, W.alloc (.cells #[.int .i64 y, .int .i64 1] 3) = V := ⟨_, rfl⟩
  have z1 : W1.heap.size = W.heap.size + 1 := by rw [← hW1]; simp
  have a1 := World.alloc_heap_new W (.cells #[.int .i64 y, .int .i64 1] 3)
  rw [hW1] at a1 ⊢
  obtain ⟨W2, hW2⟩ : ∃ V, W1.alloc (.cells #[.int .i64 1, .int .i64 0] 3) = V := ⟨_, rfl⟩
  have z2 : W2.heap.size = W.heap.size + 1 + 1 := by rw [← hW2]; simp [z1]
  have a2 := World.alloc_heap_new W1 (.cells #[.int .i64 1, .int .i64 0] 3)
  have s2 : W1.Since W1.heap.size W2 := by rw [← hW2]; exact (World.Since.refl _ _).alloc (Nat.le_refl _) _
  rw [hW2] at a2 ⊢
  obtain ⟨W3, hW3⟩ : ∃ V, W2.alloc (.cells #[.slice (some ⟨W.heap.size, 0, none⟩) 2 2, .slice (some ⟨W.heap.size + 1, 0, none⟩) 2 2] 23) = V := ⟨_, rfl⟩
  have a3 := World.alloc_heap_new W2 (.cells #[.slice (some ⟨W.heap.size, 0, none⟩) 2 2, .slice (some ⟨W.heap.size + 1, 0, none⟩) 2 2] 23)
  have s3 : W2.Since W2.heap.size W3 := by rw [← hW3]; exact (World.Since.refl _ _).alloc (Nat.le_refl _) _
  rw [hW3] at a3 ⊢
  rw [z1] at a2
  rw [z2] at a3
  have r1 : RowR W1 (some ⟨W.heap.size, 0, none⟩) [y, 1] := fun _ => ⟨_, _, rfl, fun i hi => by
    unfold World.cell?
    rw [a1]
    rcases two_cases hi with rfl | rfl <;> rfl⟩
  have r2 : RowR W2 (some ⟨W.heap.size + 1, 0, none⟩) [1, 0] := fun _ => ⟨_, _, rfl, fun i hi => by
    unfold World.cell?
    rw [a2]
    rcases two_cases hi with rfl | rfl <;> rfl⟩
  refine fun _ => ⟨_, _, fun r => some ⟨W.heap.size + r, 0, none⟩, fun _ => 2, rfl, fun r hr => ?_⟩
  rcases two_cases hr with rfl | rfl
  · exact ⟨by unfold World.cell?; rw [a3]; rfl, (r1.since s2).since s3⟩
  · exact ⟨by unfold World.cell?; rw [a3]; rfl, r2.since s3⟩

set_option maxRecDepth 100000 in
set_option maxHeartbeats 4000000 in
theorem specChainTurns_ok (a : Option Addr) (cap n : Nat) (x : List Int) (w : World) (hn : x.length = n) (hc : n ≤ cap) (h63 : cap ≤ 9223372036854775807) (hm : RowR w a x) (hok : l9B x = true) :
    Calls Try.prog 32 #[.slice a n cap] w (SpecT w (tabIn (tuM (fun i => x.getD i 0) n)) (tuM (fun i => x.getD i 0) n)) := by
  have E := l9Chain_any a cap n x w hn (by omega) hm
  rw [hok] at E
  replace E := Lib.hid E
  have h6 := (l9B_of hok).2
  rw [hn] at h6
  have h9 := l9B_all9 hok
  obtain ⟨f, hf⟩ : ∃ f : Nat → Int, f = fun i => x.getD i 0 := ⟨_, rfl⟩
  have hm' : CelR w a f n := by rw [hf, ← hn]; exact CelR.row hm
  rw [← hf]
  have h9' : ∀ j, -9 ≤ f j ∧ f j ≤ 9 := fun j => by rw [hf]; exact h9 j
  have H9 := Lib.hid h9'
  have HM := Lib.hid hm'
  clear hok hm hn hf h9 h9' hm'
  go_enter Try.func32, Try.ntmps32
  go_wp2_with fail
  refine (E.out).mono ?_
  rintro e w' ⟨rfl, rfl⟩
  go_wp2_with fail
  refine (specUnit_any 2 w (by omega)).mono ?_
  rintro e w1 ⟨A0, C0, rfl, hs1, hin1⟩
  rw [← tuM_zero f] at hin1
  have HI1 := Lib.hid hin1
  have HS1 := Lib.hid hs1
  clear hin1 hs1
  go_wp2
  go_loopg [4, 5] n (fun g v i wr => ∃ r : Nat, ∃ A C, r ≤ n ∧ g = n - r ∧ i = .int .i64 r ∧ v = .slice A 2 C ∧ w.Since w.heap.size wr ∧ InT w.heap.size wr.heap.size wr A (tuM f r))
  case atStart => exact ⟨0, A0, C0, Nat.zero_le _, rfl, rfl, rfl, HS1.out, HI1.out⟩
  case round =>
    obtain ⟨r, A, C, hr, rfl, rfl, rfl, hS, hI⟩ := hrel
    clear HI1 HS1
    have HS := Lib.hid hS
    have HI := Lib.hid hI
    clear hS hI
    by_cases hlt : r < n
    · obtain ⟨b, o, rfl, hcx⟩ := HM.out (by omega)
      have cx0 := hcx r hlt
      have cx := (HS.out.cell (a := ⟨b, o + r, none⟩) (World.block_lt_of_cell? _ _ cx0)).trans cx0
      obtain ⟨y, hy⟩ : ∃ y, f r = y := ⟨_, rfl⟩
      rw [hy] at cx
      have hy9 := H9.out r
      rw [hy] at hy9
      have hmk := tuM_succ f r
      rw [hy] at hmk
      have HB := Lib.hid (fun i j k hi hj hk => tu_prod H9.out (r := r) (by omega) hy9 i j k hi hj hk)
      have HK := Lib.hid hmk
      clear hcx cx0 hy hmk
      go_wp2_with fail
      have HS3 := Lib.hid (((HS.out.alloc HS.out.size (.cells #[.int .i64 y, .int .i64 1] 3)).alloc (by have := HS.out.size; simp; omega) (.cells #[.int .i64 1, .int .i64 0] 3)).alloc (by have := HS.out.size; simp; omega) (.cells #[.slice (some ⟨wr.heap.size, 0, none⟩) 2 2, .slice (some ⟨wr.heap.size + 1, 0, none⟩) 2 2] 23))
      have hww : wr.Since wr.heap.size (((wr.alloc (.cells #[.int .i64 y, .int .i64 1] 3)).alloc (.cells #[.int .i64 1, .int .i64 0] 3)).alloc (.cells #[.slice (some ⟨wr.heap.size, 0, none⟩) 2 2, .slice (some ⟨wr.heap.size + 1, 0, none⟩) 2 2] 23)) := (((World.Since.refl _ _).alloc (Nat.le_refl _) _).alloc (by simp) _).alloc (by simp; omega) _
      refine (l1MakeR_any A _ C 2 2 2 (tuM f r) [[y, 1], [1, 0]] _ rfl rfl (HI.out.matR.since hww) (lit22 wr y) (rec22 _ _ _ _) (rec22 _ _ _ _) rfl HB.out).mono ?_
      rintro e w' ⟨a', c', rfl, hs', hin'⟩
      rw [HK.out] at hin'
      have hn' := hin'.inT
      have HN := Lib.hid (hn'.mono HS3.out.size (Nat.le_refl _))
      have HSN := Lib.hid (HS3.out.trans (since_mono hs' HS3.out.size))
      clear hin' hn' hs' hww
      go_wp2
      go_roundg (n - (r + 1))
      case measure => omega
      case rel => exact ⟨r + 1, _, _, by omega, rfl, by go_num, rfl, HSN.out, HN.out⟩
    · have : r = n := by omega
      subst this
      have hszl : szL (tuM f r) ≤ 1048576 := by
        simp [szL, sumTo, tuM]
      go_wp2_with fail
      refine (l1Done_any _ _ _ _ _ (tuM f r) _ rfl hszl HI.out).mono ?_
      rintro e w' ⟨a', cap', rfl, hs, hin⟩
      go_wp2
      go_ret2
      exact ⟨a', cap', rfl, HS.out.trans (since_mono hs HS.out.size), hin.mono (Nat.le_refl _) hs.size⟩

set_option maxHeartbeats 1000000 in
theorem specChainTurns_any (a : Option Addr) (cap n : Nat) (x : List Int) (w : World) (hn : x.length = n) (hc : n ≤ cap) (h63 : cap ≤ 9223372036854775807) (hm : RowR w a x) :
    Calls Try.prog 32 #[.slice a n cap] w (SpecT w (l9B x && tabIn (tuM (fun i => x.getD i 0) n)) (tuM (fun i => x.getD i 0) n)) := by
  cases hok : l9B x with
  | true =>
    rw [Bool.true_and]
    exact specChainTurns_ok a cap n x w hn hc h63 hm hok
  | false =>
    rw [Bool.false_and]
    have E := l9Chain_any a cap n x w hn (by omega) hm
    rw [hok] at E
    replace E := Lib.hid E
    clear hok hm hn
    go_enter Try.func32, Try.ntmps32
    go_wp2_with fail
    refine (E.out).mono ?_
    rintro e w' ⟨rfl, rfl⟩
    go_wp2_with fail
    refine (l1None_any w).mono ?_
    rintro e w' ⟨rfl, hs⟩
    go_wp2
    go_ret2
    exact ⟨_, _, rfl, hs, InT.nil _ _ _ _⟩
end Go.Proofs.Ytdbomnhlgaohaaa
end

section
namespace Go.Proofs.Ytdbomnhlgaohaaa
open Go.RowKit Go.Deep Go.Shelf
attribute [local go_sem] Oper.semAt_some

theorem lsum_bdR {n : Nat} (f : Nat → Int) (hf : ∀ j, j < n → -1000000000000 ≤ f j ∧ f j ≤ 1000000000000) (pre : List {i : Nat // i < n}) : -(1000000000000 * (pre.length : Int)) ≤ lsum f pre ∧ lsum f pre ≤ 1000000000000 * (pre.length : Int) := by
  have H : ∀ (pre : List {i : Nat // i < n}) (s : Int), s - 1000000000000 * (pre.length : Int) ≤ pre.foldl (fun s x => s + f x.1) s ∧ pre.foldl (fun s x => s + f x.1) s ≤ s + 1000000000000 * (pre.length : Int) := by
    intro pre
    induction pre with
    | nil => intro s; simp
    | cons x xs ih =>
      intro s
      have h1 := ih (s + f x.1)
      have h2 := hf x.1 x.2
      simp only [List.foldl_cons, List.length_cons]
      omega
  have := H pre 0
  unfold lsum
  omega

set_option maxRecDepth 100000 in
set_option maxHeartbeats 2000000 in
theorem prodEntryR_any (pu pt i k n n2 m m2 cap cap2 : Nat) (a a2 : Option Addr) (l u : List (List Int)) (w : World) (hn : l.length = n) (hu : u.length = n2) (hT : Rec l) (hTu : Rec u) (hmm : (l.getD 0 []).length = m) (hmm2 : (u.getD 0 []).length = m2) (hmn : m = n2)
    (hbu : w.cell? ⟨pu, 0, none⟩ = some (.slice a2 n2 cap2)) (hbt : w.cell? ⟨pt, 0, none⟩ = some (.slice a n cap)) (hm : MatR w a l) (hmu : MatR w a2 u) (hi : i < n) (hk : k < m2) (hB : ∀ j, j < n2 → -1000000000000 ≤ dotF l u i k j ∧ dotF l u i k j ≤ 1000000000000) :
    Calls Try.prog 95 #[.int .i64 i, .int .i64 k, .pointer (some ⟨pu, 0, none⟩), .pointer (some ⟨pt, 0, none⟩)] w fun e w' => e = .returned (.int .i64 (sumN (dotF l u i k) n2)) ∧ w.Since w.heap.size w' := by
  subst hmn
  have h6 := hT.high
  have g6 := hTu.high
  have h1 := hT.low
  have g1 := hTu.low
  have hw := hT.width
  have gw := hTu.width
  rw [hn] at h6 h1
  rw [hu] at g6 g1
  rw [hmm] at hw
  rw [hmm2] at gw
  obtain ⟨bt, ot, At, Ct, rfl, hlen, hcell⟩ := hm.gridR hn hT hmm
  obtain ⟨bu, ou, Au, Cu, rfl, hlenu, hcellu⟩ := hmu.gridR hu hTu hmm2
  have hpu : pu < w.heap.size := World.block_lt_of_cell? _ _ hbu
  have hpt : pt < w.heap.size := World.block_lt_of_cell? _ _ hbt
  have hbul : bu < w.heap.size := World.block_lt_of_cell? _ _ (hlenu 0 (by omega))
  have hbtl : bt < w.heap.size := World.block_lt_of_cell? _ _ (hlen 0 (by omega))
  have hpow : 2 ^ m - 1 ≤ 63 := by have : 2 ^ m ≤ 2 ^ 6 := Nat.pow_le_pow_right (by omega) g6; omega
  have HC := Lib.hid hcell
  have HCU := Lib.hid hcellu
  have HLU := Lib.hid hlenu
  obtain ⟨f, hf⟩ : ∃ f, f = dotF l u i k := ⟨_, rfl⟩
  rw [← hf]
  have HBF := Lib.hid (show ∀ j, j < m → -1000000000000 ≤ f j ∧ f j ≤ 1000000000000 by rw [hf]; exact hB)
  have HF := Lib.hid hf
  have hmix : Try.prog.follows .mixedOrders = true := by kernel_rfl
  clear hm hmu hT hTu hn hu hmm hmm2 hlen hcell hlenu hcellu hf hB
  refine (callsIn_wide (n := 9)).1 ?_
  refine callsIn_of_wp_marks Try.func95 rfl trivial ?_ rfl
  simp only [Try.ntmps95, List.size_toArray, List.length_cons, List.length_nil, Nat.reduceAdd, Nat.reduceSub, Array.replicate_succ, Array.replicate_zero, List.push_toArray, List.append_toArray, List.nil_append, List.cons_append]
  have hbuA := fun (o1 o2 o3 : Obj) => cell_alloc_l o3 (cell_alloc_l o2 (cell_alloc_l o1 hbu))
  gi_wp2
  gi_region_with_o (first
    | (refine ⟨trivial, ?_⟩; gi_at_call 88; refine (callsIn_wide.2 (allRows_any _ _ _ _ g6)).mono ?_; rintro e w' ⟨rfl, rfl⟩)
    | (refine ⟨trivial, ?_⟩; gi_at_call 87; refine (callsIn_wide.2 (rows_any _ _ _ _ _)).mono ?_; rintro e w' ⟨rfl, rfl⟩))
  all_goals
    gi_wp2
    obtain ⟨W0, hW0⟩ : ∃ W0, W0 = (((((w.alloc (.cells #[.int .i64 i] 3)).alloc (.cells #[.int .i64 k] 3)).alloc (.cells #[.int .i64 0] 3)).alloc (.cells #[.slice (some ⟨bu, ou, none⟩) m cap2] 50)).alloc (.cells #[.int .i64 (2 ^ m - 1 : Nat)] 3)).drew := ⟨_, rfl⟩
    rw [← hW0]
    obtain ⟨hsz0, hB0, d0, d1, d2, d2f, d3, d4⟩ := prod_world w (.int .i64 i) (.int .i64 k) (.int .i64 0) (.slice (some ⟨bu, ou, none⟩) m cap2) (.int .i64 (2 ^ m - 1 : Nat)) 50 W0 hW0
    have hc0' : ∀ j, j < m → W0.cell? ⟨bu, ou + j, none⟩ = some (.slice (Au j) m2 (Cu j)) := fun j hj => (hB0.cell (p := ⟨bu, ou + j, none⟩) hbul).trans (HLU.out j hj)
    have hstops := rows_stopsB 8 (by omega) (w.heap.size + 1 + 1) W0.heap.size (w.heap.size + 1 + 1 + 1) (w.heap.size + 1 + 1 + 1 + 1) bu ou m cap2 (2 ^ m - 1) (by omega) hpow Au (fun _ => m2) Cu W0 (Nat.le_refl _) (by omega) (by omega) (by omega) (by omega) (by omega) d3 d4 hc0'
    clear hc0' d3 d4 hbuA
    refine wpIn_rangeFunc_ownF (F := Fence.wide) (n := 9) rfl (by omega) (gf := 96) (lb := #[.pointer (some ⟨w.heap.size + 1 + 1 + 1, 0, none⟩), .pointer (some ⟨w.heap.size + 1 + 1 + 1 + 1, 0, none⟩)]) rfl trivial (enters_of Try.func96 (by kernel_rfl) rfl)
      hstops kpB_t (kpB_b (Nat.le_refl _)) (Below.refl _ _) (fun _ => rfl)
      (fun pre W => (W.cell? ⟨w.heap.size, 0, none⟩ = some (.int .i64 i) ∧ W.cell? ⟨w.heap.size + 1, 0, none⟩ = some (.int .i64 k) ∧ W.cell? ⟨w.heap.size + 1 + 1, 0, none⟩ = some (.int .i64 (lsum f pre)) ∧ W.frozen? ⟨w.heap.size + 1 + 1, 0, none⟩ = false) ∧ Below w.heap.size w W)
      (fun _ _ _ => False)
      (OwnFrom.and (Own.from (fun s A B row hs hg hr => ⟨cell_kept hs.1 hg hr, cell_kept hs.2.1 hg hr, cell_kept hs.2.2.1 hg hr, (frozen_kept hs.2.2.1 hg hr).trans hs.2.2.2⟩) _) (ownFrom_below (Nat.le_refl _) (by omega)))
      (fun c => fun s A B row hs hg hr => hs)
      ⟨⟨d0, d1, d2, d2f⟩, hB0⟩
      (fun x => { tmps := #[.int .i64 i, .int .i64 k, .pointer (some ⟨pu, 0, none⟩), .pointer (some ⟨pt, 0, none⟩), .pointer (some ⟨w.heap.size, 0, none⟩), .pointer (some ⟨w.heap.size + 1, 0, none⟩), .int .i64 0,
          .pointer (some ⟨w.heap.size + 1 + 1, 0, none⟩), .int .i64 x.1, .slice (Au x.1) m2 (Cu x.1), .slice (some ⟨bu, ou, none⟩) m cap2, .slice (some ⟨bu, ou, none⟩) m cap2, .int .i64 (2 ^ m - 1 : Nat),
          .func (.func 96) #[] #[.pointer (some ⟨w.heap.size + 1 + 1 + 1, 0, none⟩), .pointer (some ⟨w.heap.size + 1 + 1 + 1 + 1, 0, none⟩)],
          .int .i64 x.1, .slice (Au x.1) m2 (Cu x.1), undef, undef, undef, undef, undef, undef, undef, undef, undef, undef, undef, undef, undef, undef, undef], defers := [] }) ?assign ?body ?done ?stop
    case assign =>
      intro lp x W K hK
      gi_wp2
      exact hK
    case body =>
      rintro lp pre x W ⟨⟨g0, g1, g2, g2f⟩, gB⟩ hlen
      have hx2 := x.2
      obtain ⟨j, hj⟩ : ∃ j, x.1 = j := ⟨_, rfl⟩
      rw [hj] at hx2 ⊢
      obtain ⟨bi, oi, e1, e2⟩ := HC.out i j hi hx2
      obtain ⟨bj, oj, f1, f2⟩ := HCU.out j k hx2 hk
      have hAu : Au j = some ⟨bj, oj, none⟩ := by
        have := (HLU.out j hx2).symm.trans f1
        simp at this
        exact this
      rw [hAu]
      have hsn := lsum_snoc f pre x
      rw [hj] at hsn
      have hfj : f j = at2 l i j * at2 u j k := by rw [HF.out]; rfl
      have hlb := lsum_bdR f HBF.out pre
      have hpj := HBF.out j hx2
      have hl7 : pre.length ≤ 6 := by omega
      obtain ⟨p, hp⟩ : ∃ p, at2 l i j = p := ⟨_, rfl⟩
      obtain ⟨q, hq⟩ : ∃ q, at2 u j k = q := ⟨_, rfl⟩
      obtain ⟨s, hs⟩ : ∃ s, lsum f pre = s := ⟨_, rfl⟩
      rw [hp] at e2 hfj
      rw [hq] at f2 hfj
      rw [hs] at g2 hsn hlb
      rw [hfj] at hpj
      have hw1 : IntKind.i64.wrap (p * q) = p * q := IntWalk.i64_in _ ⟨by omega, by omega⟩
      have hw2 : IntKind.i64.wrap (s + p * q) = s + p * q := IntWalk.i64_in _ ⟨by omega, by omega⟩
      rw [hfj] at hsn
      have HSN := Lib.hid hsn
      have E0 := (gB.cell (p := ⟨pt, 0, none⟩) hpt).trans hbt
      have E1 := (gB.cell (p := ⟨bt, ot + i, none⟩) hbtl).trans e1
      have E2 := (gB.cell (p := ⟨bi, oi + j, none⟩) (World.block_lt_of_cell? _ _ e2)).trans e2
      have F2 := (gB.cell (p := ⟨bj, oj + k, none⟩) (World.block_lt_of_cell? _ _ f2)).trans f2
      clear hj hp hq hs hsn hlb hfj e1 e2 f1 f2 hAu hpj hl7
      gi_wp2
      refine round_still_tail 14 hmix (by kernel_rfl) (by kernel_rfl) ?hno ?_
      case hno =>
        rintro ⟨a, w, h⟩
        exact h
      simp only [List.take_succ_cons, List.take_zero, List.drop_succ_cons, List.drop_zero]
      repeat still_step
      refine wpStill_nil ?_
      go_wp2
      rw [← HSN.out] at hw2 ⊢
      have hset : ∀ v, (W.setCell ⟨w.heap.size + 1 + 1, 0, none⟩ v).frozen? ⟨w.heap.size + 1 + 1, 0, none⟩ = false := fun v => (W.frozen?_setCell _ _ _).trans g2f
      refine ⟨(KeepsOthers.setCell _ _ _).trans (KeepsOthers.drew _), ⟨?_, fun b h1 _ => ?_⟩, ⟨?_, ?_, ?_, ?_⟩, (gB.setCell (p := ⟨w.heap.size + 1 + 1, 0, none⟩) (by simp; omega) _).drew⟩
      · simp
      · exact Below.heap_setCell _ _ _ _ h1
      · exact (World.cell?_setCell_other _ _ _ _ (fun e => by injection e with e1; omega)).trans g0
      · exact (World.cell?_setCell_other _ _ _ _ (fun e => by injection e with e1; omega)).trans g1
      · exact World.cell?_setCell_same' _ _ _ (by rw [g2]; rfl)
      · exact hset _
    case done => 
      rintro D ys W hD rfl ⟨⟨g0, g1, g2, g2f⟩, gB⟩ hK
      gi_wp2
      refine ⟨by simp, .inl ⟨_, _, rfl, run_takeDeferred hK, ?_⟩⟩
      refine ⟨.int .i64 (sumN f m), ?_, rfl, below_since (gB.trans (belowK_b (w := w) (Nat.le_refl _) W D _ _ (by omega) hK rfl rfl))⟩
      have hls := lsum_sel f (2 ^ m - 1) m (fun i hi => by rw [Nat.testBit_two_pow_sub_one]; simpa using hi) m (Nat.le_refl _)
      simp [results, Try.f95, go_sem, hls]
    case stop =>
      rintro D c pre W hD hpre hF hK
      exact hF.elim

set_option maxRecDepth 100000 in
set_option maxHeartbeats 2000000 in
theorem productT_any (a : Option Addr) (cap n : Nat) (l : List (List Int)) (a2 : Option Addr) (cap2 n2 : Nat) (u : List (List Int)) (w : World) (hn : l.length = n) (hT : Rec l) (hm : MatR w a l) (hu : u.length = n2) (hTu : Rec u) (huw : (l.getD 0 []).length = n2) (hmu : MatR w a2 u) (hB : ∀ i j k, i < n → j < n2 → k < (u.getD 0 []).length → -1000000000000 ≤ at2 l i j * at2 u j k ∧ at2 l i j * at2 u j k ≤ 1000000000000) :
    Calls Try.prog 82 #[.slice a n cap, .slice a2 n2 cap2] w fun e w' => e = .returned (.slice (some ⟨w.heap.size + 1 + 1, 0, none⟩) n n) ∧ w.Since w.heap.size w' ∧ OwnT w.heap.size w'.heap.size w' (some ⟨w.heap.size + 1 + 1, 0, none⟩) (makeL l u) := by
  have hw := hTu.width
  have h6 := hT.high
  rw [hn] at h6
  have g6 := hTu.high
  have g1 := hTu.low
  rw [hu] at g6 g1
  have hwid := fun (W : World) (hs : w.Since w.heap.size W) => width_any a2 cap2 n2 u W hu (by omega) (by omega) (hmu.since hs)
  obtain ⟨m2, hmm⟩ : ∃ m, (u.getD 0 []).length = m := ⟨_, rfl⟩
  rw [hmm] at hB
  have hnt := fun (W : World) (hs : w.Since w.heap.size W) (hb0 : W.cell? ⟨w.heap.size, 0, none⟩ = some (.slice a n cap)) (hb1 : W.cell? ⟨w.heap.size + 1, 0, none⟩ = some (.slice a2 n2 cap2)) =>
    newTable_any 95 #[.pointer (some ⟨w.heap.size + 1, 0, none⟩), .pointer (some ⟨w.heap.size, 0, none⟩)] n m2 (fun i k => sumN (dotF l u i k) n2) W (by omega) (by omega) (enters_of Try.func95 (by kernel_rfl) rfl)
      (fun W' i k hs' hi hk => prodEntryR_any (w.heap.size + 1) w.heap.size i k n n2 n2 m2 cap cap2 a a2 l u W' hn hu hT hTu huw hmm rfl ((hs'.cell (a := ⟨w.heap.size + 1, 0, none⟩) (World.block_lt_of_cell? _ _ hb1)).trans hb1) ((hs'.cell (a := ⟨w.heap.size, 0, none⟩) (World.block_lt_of_cell? _ _ hb0)).trans hb0) (hm.since (hs.trans (since_mono hs' hs.size))) (hmu.since (hs.trans (since_mono hs' hs.size))) hi hk (fun j hj => hB i j k hi hj hk))
  have htl : makeL l u = tabF n m2 (fun i k => sumN (dotF l u i k) n2) := by unfold makeL; rw [hmm, hn, hu]
  rw [hmm] at hwid hw
  rw [htl]
  have HW := Lib.hid hwid
  have HNT := Lib.hid hnt
  have HS1 := Lib.hid (show w.Since w.heap.size ((w.alloc (.cells #[.slice a n cap] 50)).alloc (.cells #[.slice a2 n2 cap2] 50)) from (((World.Since.refl _ _).alloc (Nat.le_refl _) _).alloc (by simp) _))
  have hc0 := cell_new_l w (.slice a n cap) 50
  have hc1 := cell_new_l (w.alloc (.cells #[.slice a n cap] 50)) (.slice a2 n2 cap2) 50
  simp only [World.size_alloc] at hc1
  have hcb0 : ((w.alloc (.cells #[.slice a n cap] 50)).alloc (.cells #[.slice a2 n2 cap2] 50)).cell? ⟨w.heap.size, 0, none⟩ = some (.slice a n cap) := (cell_alloc_l _ hc0.1)
  have hcb1 : ((w.alloc (.cells #[.slice a n cap] 50)).alloc (.cells #[.slice a2 n2 cap2] 50)).cell? ⟨w.heap.size + 1, 0, none⟩ = some (.slice a2 n2 cap2) := hc1.1
  clear hwid hnt hm hT hn hmm htl hc0 hc1 hu hTu huw hmu hB
  go_enter Try.func82, Try.ntmps82
  go_wp2
  go_region_held3 (fun w' => w'.cell? ⟨w.heap.size, 0, none⟩ = some (.slice a n cap) ∧ w'.cell? ⟨w.heap.size + 1, 0, none⟩ = some (.slice a2 n2 cap2)) (go_keep)
    (first
      | (go_at_call 83; refine (HW.out _ ?_).mono ?_; (exact World.Since.drew HS1.out); rintro e w1 ⟨rfl, rfl⟩)
      | (go_at_call 74; refine (HNT.out _ ?_ ?_ ?_).mono ?_; (exact World.Since.drew HS1.out); (exact hcb0); (exact hcb1); rintro e w1 ⟨rfl, hs2, ho⟩; have hcc := hs2.cell (a := ⟨w.heap.size, 0, none⟩) (World.block_lt_of_cell? _ _ hcb0); simp only [World.cell?_drew, hcb0] at hcc; have hcd := hs2.cell (a := ⟨w.heap.size + 1, 0, none⟩) (World.block_lt_of_cell? _ _ hcb1); simp only [World.cell?_drew, hcb1] at hcd))
  all_goals
    go_wp2
    go_ret
    refine ⟨rfl, HS1.out.trans (since_mono (since_of_drew hs2) (by simp; omega)), ?_⟩
    have hz : ((w.alloc (.cells #[.slice a n cap] 50)).alloc (.cells #[.slice a2 n2 cap2] 50)).drew.heap.size = w.heap.size + 1 + 1 := by simp
    rw [hz] at ho
    exact ho.mono (by omega) (Nat.le_refl _)

end Go.Proofs.Ytdbomnhlgaohaaa
end

section
namespace Go.Proofs.Ytdbomnhlgaohaaa
open Go.RowKit Go.Deep

set_option maxHeartbeats 1000000 in
theorem chEntry_any (b o pc n cap i k : Nat) (f : Nat → Int) (w : World) (hi : i < n) (h7 : n ≤ 7) (_ : k < n) (hbc : w.cell? ⟨pc, 0, none⟩ = some (.slice (some ⟨b, o, none⟩) n cap)) (hc : w.cell? ⟨b, o + i, none⟩ = some (.int .i64 (f i))) :
    Calls Try.prog 75 #[.int .i64 i, .int .i64 k, .pointer (some ⟨pc, 0, none⟩)] w fun e w' => e = .returned (.int .i64 (chF f i k)) ∧ w.Since w.heap.size w' := by
  obtain ⟨y, hy⟩ : ∃ y, f i = y := ⟨_, rfl⟩
  rw [hy] at hc
  by_cases h1 : k = i
  · have hv : chF f i k = y := by unfold chF; rw [if_pos h1.symm, hy]
    have b1 : ((k : Int) == (i : Int)) = true := by simp; omega
    rw [hv]
    clear hy hv h1
    go_enter Try.func75, Try.ntmps75
    go_wp2
    go_ret
    exact ⟨rfl, World.Since.refl _ _⟩
  have b1 : ((k : Int) == (i : Int)) = false := by simp; omega
  by_cases h2 : k = i + 1
  · have hv : chF f i k = 1 := by unfold chF; rw [if_neg (by omega), if_pos h2]
    have b2 : ((k : Int) == (i : Int) + 1) = true := by simp; omega
    rw [hv]
    clear hy hv h1 h2
    go_enter Try.func75, Try.ntmps75
    go_wp2
    go_ret
    exact ⟨rfl, World.Since.refl _ _⟩
  have b2 : ((k : Int) == (i : Int) + 1) = false := by simp; omega
  have hw3 : wrap64 ((i : Int) - 1) = (i : Int) - 1 := by unfold wrap64; omega
  by_cases h3 : i = k + 1
  · have hv : chF f i k = -1 := by unfold chF; rw [if_neg (by omega), if_neg (by omega), if_pos h3]
    have b3 : ((k : Int) == (i : Int) - 1) = true := by simp; omega
    rw [hv]
    clear hy hv h1 h2 h3
    go_enter Try.func75, Try.ntmps75
    go_wp2
    go_ret
    exact ⟨rfl, World.Since.refl _ _⟩
  · have hv : chF f i k = 0 := by unfold chF; rw [if_neg (by omega), if_neg (by omega), if_neg h3]
    have b3 : ((k : Int) == (i : Int) - 1) = false := by simp; omega
    rw [hv]
    clear hy hv h1 h2 h3
    go_enter Try.func75, Try.ntmps75
    go_wp2
    go_ret
    exact ⟨rfl, World.Since.refl _ _⟩

set_option maxHeartbeats 1000000 in
theorem chTable_any (b o n cap : Nat) (f : Nat → Int) (w : World) (h7 : n ≤ 7) (hc : ∀ i, i < n → w.cell? ⟨b, o + i, none⟩ = some (.int .i64 (f i))) :
    Calls Try.prog 51 #[.slice (some ⟨b, o, none⟩) n cap] w fun e w' => e = .returned (.slice (some ⟨w.heap.size + 1, 0, none⟩) n n) ∧ w.Since w.heap.size w' ∧ OwnT w.heap.size w'.heap.size w' (some ⟨w.heap.size + 1, 0, none⟩) (chL f n n) := by
  obtain ⟨W, hW⟩ : ∃ W, w.alloc (.cells #[.slice (some ⟨b, o, none⟩) n cap] 45) = W := ⟨_, rfl⟩
  have hcb := (cell_new_l w (.slice (some ⟨b, o, none⟩) n cap) 45).1
  have hsz : W.heap.size = w.heap.size + 1 := by rw [← hW]; simp
  have hS : w.Since w.heap.size W := by rw [← hW]; exact (World.Since.refl _ _).alloc (Nat.le_refl _) _
  rw [hW] at hcb
  have E := newTable_any 75 #[.pointer (some ⟨w.heap.size, 0, none⟩)] n n (chF f) W (by omega) (by omega) (enters_of Try.func75 (by kernel_rfl) rfl)
    (fun W' i k hs' hi hk => chEntry_any b o w.heap.size n cap i k f W' hi h7 hk ((hs'.cell (a := ⟨w.heap.size, 0, none⟩) (World.block_lt_of_cell? _ _ hcb)).trans hcb) (by
      have c1 := (hS.cell (World.block_lt_of_cell? _ _ (hc i hi))).trans (hc i hi)
      exact (hs'.cell (World.block_lt_of_cell? _ _ c1)).trans c1))
  rw [hsz] at E
  replace E := Lib.hid E
  have HS := Lib.hid hS
  clear hc hS hsz
  subst hW
  go_enter Try.func51, Try.ntmps51
  go_wp2_with fail
  refine (E.out).mono ?_
  rintro e w' ⟨rfl, hs, ho⟩
  go_wp2
  go_ret
  exact ⟨rfl, HS.out.trans (since_mono hs (Nat.le_succ _)), ho.mono (by omega) (Nat.le_refl _)⟩

theorem ch_tab {f : Nat → Int} (h : ∀ j, -9 ≤ f j ∧ f j ≤ 9) (n : Nat) (h6 : n ≤ 6) : tabIn (chL f n n) = decide (0 < n) := by
  by_cases h0 : 0 < n
  · rw [decide_eq_true h0]
    refine tabIn_true ⟨by rw [chL_length]; exact h0, by rw [chL_length]; exact h6, fun r hr => ?_⟩
    rw [chL_length] at hr
    unfold chL
    refine ⟨by rw [tabF_len _ _ _ _ hr, tabF_len _ _ _ _ h0], by rw [tabF_len _ _ _ _ hr]; exact h0, by rw [tabF_len _ _ _ _ hr]; exact h6, fun k hk => ?_⟩
    rw [tabF_len _ _ _ _ hr] at hk
    rw [tabF_at _ _ _ _ _ hr hk]
    have := h r
    unfold chF
    split
    · omega
    · split
      · omega
      · split <;> omega
  · rw [decide_eq_false h0]
    obtain rfl : n = 0 := by omega
    refine tabIn_false fun hT => ?_
    have := hT.1
    rw [chL_length] at this
    omega

set_option maxHeartbeats 1000000 in
theorem implChainTable_any (a : Option Addr) (cap m : Nat) (x : List Int) (w : World) (hn : x.length = m) (h63 : m ≤ 9223372036854775807) (hm : RowR w a x) :
    Calls Try.prog 19 #[.slice a m cap] w (ImplT w (l9B x && decide (0 < m)) (chL (fun i => x.getD i 0) m m)) := by
  cases hok : l9B x with
  | false =>
    rw [Bool.false_and]
    have E := Lib.hid (newChain_no a cap m x w hn h63 hm hok)
    clear hok hm hn
    go_enter Try.func19, Try.ntmps19
    go_wp2_with fail
    refine (E.out).mono ?_
    rintro e w' ⟨rfl, rfl⟩
    go_wp2
    go_ret2
    exact ⟨_, _, rfl, World.Since.refl _ _, OwnT.nil _ _ _ _⟩
  | true =>
    rw [Bool.true_and]
    have E := Lib.hid (newChain_ok a cap m x w hn hm hok)
    have h6 := (l9B_of hok).2
    rw [hn] at h6
    have HT := Lib.hid (ch_tab (l9B_all9 hok) m h6)
    clear hok hm hn
    go_enter Try.func19, Try.ntmps19
    go_wp2_with fail
    refine (E.out).mono ?_
    rintro e w1 ⟨rfl, hs, hc⟩
    have HS := Lib.hid hs
    have HC := Lib.hid hc
    clear hs hc
    go_wp2_with fail
    refine (chTable_any w.heap.size 0 m m (fun i => x.getD i 0) w1 (by omega) HC.out).mono ?_
    rintro e w2 ⟨rfl, hs2, ho⟩
    have HS2 := Lib.hid (HS.out.trans (since_mono hs2 HS.out.size))
    have HO := Lib.hid (ho.mono HS.out.size (Nat.le_refl _))
    clear hs2 ho
    go_wp2_with fail
    refine (result_any _ _ _ _ _ (chL (fun i => x.getD i 0) m m) w2 (chL_length _ _ _) (szL_tabF _ _ _ (by omega) (by omega)) HO.out).mono ?_
    rintro e w3 ⟨a', cap', rfl, hs3, ho3⟩
    rw [HT.out] at ho3 ⊢
    have HS3 := Lib.hid (HS2.out.trans (since_mono hs3 HS2.out.size))
    have HO3 := Lib.hid (ho3.mono (Nat.le_refl _) hs3.size)
    clear hs3 ho3
    go_wp2
    go_ret2
    exact ⟨a', cap', rfl, HS3.out, HO3.out⟩

set_option maxRecDepth 100000 in
set_option maxHeartbeats 4000000 in
theorem chTurns_any (b o n cap : Nat) (f : Nat → Int) (w : World) (h6 : n ≤ 6) (hf : ∀ j, -9 ≤ f j ∧ f j ≤ 9) (hc : ∀ i, i < n → w.cell? ⟨b, o + i, none⟩ = some (.int .i64 (f i))) :
    Calls Try.prog 61 #[.slice (some ⟨b, o, none⟩) n cap] w fun e w' => ∃ A C, e = .returned (.slice A 2 C) ∧ w.Since w.heap.size w' ∧ OwnT w.heap.size w'.heap.size w' A (tuM f n) := by
  have H9 := Lib.hid hf
  have HC := Lib.hid hc
  clear hf hc
  go_enter Try.func61, Try.ntmps61
  go_wp2_with fail
  refine (unitTable_any 2 (by omega) w).mono ?_
  rintro e w1 ⟨rfl, hs1, hin1⟩
  rw [← tuM_zero f] at hin1
  have HI1 := Lib.hid hin1
  have HS1 := Lib.hid hs1
  clear hin1 hs1
  go_wp2
  go_loopg [3, 5, 9] n (fun g v _ i wr => ∃ r : Nat, ∃ A C, r ≤ n ∧ g = n - r ∧ i = .int .i64 r ∧ v = .slice A 2 C ∧ w.Since w.heap.size wr ∧ OwnT w.heap.size wr.heap.size wr A (tuM f r))
  case atStart => exact ⟨0, _, _, Nat.zero_le _, rfl, rfl, rfl, HS1.out, HI1.out⟩
  case round =>
    obtain ⟨r, A, C, hr, rfl, rfl, rfl, hS, hI⟩ := hrel
    clear HI1 HS1
    have HS := Lib.hid hS
    have HI := Lib.hid hI
    clear hS hI
    by_cases hlt : r < n
    · have cx0 := HC.out r hlt
      have cx := (HS.out.cell (a := ⟨b, o + r, none⟩) (World.block_lt_of_cell? _ _ cx0)).trans cx0
      obtain ⟨y, hy⟩ : ∃ y, f r = y := ⟨_, rfl⟩
      rw [hy] at cx
      have hy9 := H9.out r
      rw [hy] at hy9
      have hmk := tuM_succ f r
      rw [hy] at hmk
      have HB := Lib.hid (fun i j k hi hj hk => tu_prod H9.out (r := r) (by omega) hy9 i j k hi hj hk)
      have HK := Lib.hid hmk
      clear cx0 hy hmk
      go_wp2_with fail
      have HS3 := Lib.hid (((HS.out.alloc HS.out.size (.cells #[.int .i64 y, .int .i64 1] 3)).alloc (by have := HS.out.size; simp; omega) (.cells #[.int .i64 1, .int .i64 0] 3)).alloc (by have := HS.out.size; simp; omega) (.cells #[.slice (some ⟨wr.heap.size, 0, none⟩) 2 2, .slice (some ⟨wr.heap.size + 1, 0, none⟩) 2 2] 23))
      have hww : wr.Since wr.heap.size (((wr.alloc (.cells #[.int .i64 y, .int .i64 1] 3)).alloc (.cells #[.int .i64 1, .int .i64 0] 3)).alloc (.cells #[.slice (some ⟨wr.heap.size, 0, none⟩) 2 2, .slice (some ⟨wr.heap.size + 1, 0, none⟩) 2 2] 23)) := (((World.Since.refl _ _).alloc (Nat.le_refl _) _).alloc (by simp) _).alloc (by simp; omega) _
      refine (productT_any A C 2 (tuM f r) _ 2 2 [[y, 1], [1, 0]] _ rfl (rec22 _ _ _ _) (HI.out.matR.since hww) rfl (rec22 _ _ _ _) rfl (lit22 wr y) HB.out).mono ?_
      rintro e w' ⟨rfl, hs', hin'⟩
      rw [HK.out] at hin'
      have HN := Lib.hid (hin'.mono HS3.out.size (Nat.le_refl _))
      have HSN := Lib.hid (HS3.out.trans (since_mono hs' HS3.out.size))
      clear hin' hs' hww
      go_wp2
      go_roundg (n - (r + 1))
      case measure => omega
      case rel => exact ⟨r + 1, _, _, by omega, rfl, by go_num, rfl, HSN.out, (by have := HN.out; simp only [World.size_alloc] at this; exact this)⟩
    · have : r = n := by omega
      subst this
      go_wp2
      go_ret
      exact ⟨_, _, rfl, HS.out, HI.out⟩

set_option maxHeartbeats 1000000 in
theorem implChainTurns_any (a : Option Addr) (cap m : Nat) (x : List Int) (w : World) (hn : x.length = m) (h63 : m ≤ 9223372036854775807) (hm : RowR w a x) :
    Calls Try.prog 31 #[.slice a m cap] w (ImplT w (l9B x && tabIn (tuM (fun i => x.getD i 0) m)) (tuM (fun i => x.getD i 0) m)) := by
  cases hok : l9B x with
  | false =>
    rw [Bool.false_and]
    have E := Lib.hid (newChain_no a cap m x w hn h63 hm hok)
    clear hok hm hn
    go_enter Try.func31, Try.ntmps31
    go_wp2_with fail
    refine (E.out).mono ?_
    rintro e w' ⟨rfl, rfl⟩
    go_wp2
    go_ret2
    exact ⟨_, _, rfl, World.Since.refl _ _, OwnT.nil _ _ _ _⟩
  | true =>
    rw [Bool.true_and]
    have E := Lib.hid (newChain_ok a cap m x w hn hm hok)
    have h6 := (l9B_of hok).2
    rw [hn] at h6
    have H9 := Lib.hid (l9B_all9 hok)
    obtain ⟨f, hf⟩ : ∃ f : Nat → Int, f = fun i => x.getD i 0 := ⟨_, rfl⟩
    rw [← hf]
    have HX := Lib.hid (show ∀ i, x.getD i 0 = f i from fun i => by rw [hf])
    have hsz : szL (tuM f m) ≤ 1048576 := by simp [szL, sumTo, tuM]
    have HZ := Lib.hid hsz
    obtain ⟨ok, hok'⟩ : ∃ ok, tabIn (tuM f m) = ok := ⟨_, rfl⟩
    have HT := Lib.hid hok'
    rw [hok']
    clear hok hm hn hf hsz hok'
    go_enter Try.func31, Try.ntmps31
    go_wp2_with fail
    refine (E.out).mono ?_
    rintro e w1 ⟨rfl, hs, hc⟩
    have HS := Lib.hid hs
    have HC := Lib.hid hc
    clear hs hc
    go_wp2_with fail
    refine (chTurns_any w.heap.size 0 m m f w1 h6 (fun j => by rw [← HX.out j]; exact H9.out j) (fun i hi => by rw [← HX.out i]; exact HC.out i hi)).mono ?_
    rintro e w2 ⟨A, C, rfl, hs2, ho⟩
    have HS2 := Lib.hid (HS.out.trans (since_mono hs2 HS.out.size))
    have HO := Lib.hid (ho.mono HS.out.size (Nat.le_refl _))
    clear hs2 ho
    go_wp2_with fail
    refine (result_any _ _ _ _ _ (tuM f m) w2 rfl HZ.out HO.out).mono ?_
    rintro e w3 ⟨a', cap', rfl, hs3, ho3⟩
    rw [HT.out] at ho3 ⊢
    have HS3 := Lib.hid (HS2.out.trans (since_mono hs3 HS2.out.size))
    have HO3 := Lib.hid (ho3.mono (Nat.le_refl _) hs3.size)
    clear hs3 ho3
    go_wp2
    go_ret2
    exact ⟨a', cap', rfl, HS3.out, HO3.out⟩

end Go.Proofs.Ytdbomnhlgaohaaa
end

section
namespace Go.Proofs.Ytdbomnhlgaohaaa

theorem tq_sq {m : Nat} {f : Nat → Nat → Int} (hT : tabIn (tabF m m f) = true) : sqB (tabF m m f) = true := by
  have h := (tabIn_of hT).1
  rw [tabF_length] at h
  unfold sqB
  rw [hT, tabF_length, tabF_len _ _ _ _ (by omega)]
  simp
theorem tq_rows {l : List (List Int)} (h : szL l ≤ 1048576) : ∀ r, r < l.length → (l.getD r []).length ≤ 9223372036854775807 := fun r hr => by
  have := row_le l hr
  unfold szL at h
  omega
theorem tq_ord {m : Nat} (f : Nat → Nat → Int) (hm : m ≤ 6) : ordF (tabF m m f) m m 0 = dt m f := by
  rw [ordF_all _ hm]
  exact dt_congr m fun i j hi hj => tabF_at _ _ _ _ _ hi hj

end Go.Proofs.Ytdbomnhlgaohaaa
end

section
namespace Go.Proofs.Ytdbomnhlgaohaaa
open Go.RowKit Go.Deep

theorem since_of_map {W w' : World} {o : Obj} (hg : (W.alloc o).grownBy w' (some W.heap.size)) : W.Since W.heap.size w' := by
  have h0 := (World.Since.refl W.heap.size W).alloc (Nat.le_refl _) o
  have h1 := hg.size
  simp only [World.size_alloc] at h1
  exact ⟨hg.os.trans h0.os, hg.tape.trans h0.tape, hg.output.trans h0.output, by omega, fun k hk => (hg.block k (by simp; omega) (by intro e; injection e with e; omega)).trans (h0.block k hk)⟩

set_option maxHeartbeats 800000 in
theorem square_0 (a : Option Addr) (cap n : Nat) (l : List (List Int)) (x : Int) (w : World) (hn : l.length = n) (hsz : szL l ≤ 1048576) (hm : MatR w a l) (ht : sqB l = true → ∀ W', MatR W' a l → Calls Try.prog 91 #[.slice a n cap] W' (fun e w' => e = .returned (.int .i64 x) ∧ W'.Since W'.heap.size w')) :
    Calls Try.prog 54 #[.slice a n cap, .int .i64 0] w (SpecW w (sqB l) x) := by
  have E := isSquare_any a cap n l w hn hsz hm
  cases hs : sqB l with
  | false =>
    rw [hs] at E
    replace E := Lib.hid E
    clear hs hm hn hsz ht
    go_enter Try.func54, Try.ntmps54
    go_wp2_with fail
    refine (E.out).mono ?_
    rintro e w1 ⟨rfl, hd⟩
    have HD := Lib.hid hd
    clear hd
    go_wp2
    go_ret2
    exact ⟨rfl, HD.out⟩
  | true =>
    rw [hs] at E
    replace E := Lib.hid E
    have E2 := Lib.hid (fun (W : World) (hd : w.Since w.heap.size W) => roads_0 W.heap.size a n cap x (W.alloc (.map #[] 0)) (roads_made W) (fun W' hg => ht hs W' (hm.since (hd.trans (since_mono (since_of_map hg) hd.size)))))
    clear hs hm hn hsz ht
    have hmm := @run_makeMap Try.prog
    go_enter Try.func54, Try.ntmps54
    go_wp2_with fail
    refine (E.out).mono ?_
    rintro e w1 ⟨rfl, hd⟩
    have HD := Lib.hid hd
    clear hd
    go_wp2_with fail
    refine (E2.out w1 HD.out).mono ?_
    rintro e w2 ⟨rfl, hg, hr⟩
    have HS2 := Lib.hid (HD.out.trans (since_mono (since_of_map hg) HD.out.size))
    clear hg hr
    go_wp2
    go_ret2
    exact ⟨rfl, HS2.out⟩

set_option maxHeartbeats 400000 in
theorem implValueOrders_of (a : Option Addr) (cap n : Nat) (l : List (List Int)) (x : Int) (w : World) (hn : l.length = n) (hsz : szL l ≤ 1048576) (hm : MatR w a l) (ht : sqB l = true → ∀ W', MatR W' a l → Calls Try.prog 91 #[.slice a n cap] W' (fun e w' => e = .returned (.int .i64 x) ∧ W'.Since W'.heap.size w')) :
    Calls Try.prog 22 #[.slice a n cap] w (SpecW w (sqB l) x) := by
  have E := square_0 a cap n l x w hn hsz hm ht
  unfold SpecW at E ⊢
  generalize (if (sqB l) = true then x else 0) = y at E ⊢
  generalize (sqB l) = b at E ⊢
  replace E := Lib.hid E
  clear hn hsz hm ht
  go_enter Try.func22, Try.ntmps22
  go_wp2_with fail
  refine (E.out).mono ?_
  rintro e w1 ⟨rfl, hd⟩
  go_wp2
  go_ret2
  exact ⟨rfl, hd⟩

set_option maxHeartbeats 800000 in
theorem square_1 (a : Option Addr) (cap n : Nat) (l : List (List Int)) (x : Int) (w : World) (hn : l.length = n) (hsz : szL l ≤ 1048576) (hm : MatR w a l) (ht : sqB l = true → ∀ W', MatR W' a l → Calls Try.prog 92 #[.slice a n cap] W' (fun e w' => e = .returned (.int .i64 x) ∧ W'.Since W'.heap.size w')) :
    Calls Try.prog 54 #[.slice a n cap, .int .i64 1] w (SpecW w (sqB l) x) := by
  have E := isSquare_any a cap n l w hn hsz hm
  cases hs : sqB l with
  | false =>
    rw [hs] at E
    replace E := Lib.hid E
    clear hs hm hn hsz ht
    go_enter Try.func54, Try.ntmps54
    go_wp2_with fail
    refine (E.out).mono ?_
    rintro e w1 ⟨rfl, hd⟩
    have HD := Lib.hid hd
    clear hd
    go_wp2
    go_ret2
    exact ⟨rfl, HD.out⟩
  | true =>
    rw [hs] at E
    replace E := Lib.hid E
    have E2 := Lib.hid (fun (W : World) (hd : w.Since w.heap.size W) => roads_1 W.heap.size a n cap x (W.alloc (.map #[] 0)) (roads_made W) (fun W' hg => ht hs W' (hm.since (hd.trans (since_mono (since_of_map hg) hd.size)))))
    clear hs hm hn hsz ht
    have hmm := @run_makeMap Try.prog
    go_enter Try.func54, Try.ntmps54
    go_wp2_with fail
    refine (E.out).mono ?_
    rintro e w1 ⟨rfl, hd⟩
    have HD := Lib.hid hd
    clear hd
    go_wp2_with fail
    refine (E2.out w1 HD.out).mono ?_
    rintro e w2 ⟨rfl, hg, hr⟩
    have HS2 := Lib.hid (HD.out.trans (since_mono (since_of_map hg) HD.out.size))
    clear hg hr
    go_wp2
    go_ret2
    exact ⟨rfl, HS2.out⟩

set_option maxHeartbeats 800000 in
theorem square_2 (a : Option Addr) (cap n : Nat) (l : List (List Int)) (x : Int) (w : World) (hn : l.length = n) (hsz : szL l ≤ 1048576) (hm : MatR w a l) (ht : sqB l = true → ∀ W', MatR W' a l → Calls Try.prog 93 #[.slice a n cap] W' (fun e w' => e = .returned (.int .i64 x) ∧ W'.Since W'.heap.size w')) :
    Calls Try.prog 54 #[.slice a n cap, .int .i64 2] w (SpecW w (sqB l) x) := by
  have E := isSquare_any a cap n l w hn hsz hm
  cases hs : sqB l with
  | false =>
    rw [hs] at E
    replace E := Lib.hid E
    clear hs hm hn hsz ht
    go_enter Try.func54, Try.ntmps54
    go_wp2_with fail
    refine (E.out).mono ?_
    rintro e w1 ⟨rfl, hd⟩
    have HD := Lib.hid hd
    clear hd
    go_wp2
    go_ret2
    exact ⟨rfl, HD.out⟩
  | true =>
    rw [hs] at E
    replace E := Lib.hid E
    have E2 := Lib.hid (fun (W : World) (hd : w.Since w.heap.size W) => roads_2 W.heap.size a n cap x (W.alloc (.map #[] 0)) (roads_made W) (fun W' hg => ht hs W' (hm.since (hd.trans (since_mono (since_of_map hg) hd.size)))))
    clear hs hm hn hsz ht
    have hmm := @run_makeMap Try.prog
    go_enter Try.func54, Try.ntmps54
    go_wp2_with fail
    refine (E.out).mono ?_
    rintro e w1 ⟨rfl, hd⟩
    have HD := Lib.hid hd
    clear hd
    go_wp2_with fail
    refine (E2.out w1 HD.out).mono ?_
    rintro e w2 ⟨rfl, hg, hr⟩
    have HS2 := Lib.hid (HD.out.trans (since_mono (since_of_map hg) HD.out.size))
    clear hg hr
    go_wp2
    go_ret2
    exact ⟨rfl, HS2.out⟩

set_option maxHeartbeats 800000 in
theorem square_3 (a : Option Addr) (cap n : Nat) (l : List (List Int)) (x : Int) (ok : Bool) (w : World) (hn : l.length = n) (hsz : szL l ≤ 1048576) (hm : MatR w a l) (ht : sqB l = true → ∀ W', MatR W' a l → Calls Try.prog 94 #[.slice a n cap] W' (fun e w' => e = .returned (.tuple #[.int .i64 (if ok then x else 0), .bool ok]) ∧ W'.Since W'.heap.size w')) :
    Calls Try.prog 54 #[.slice a n cap, .int .i64 3] w (SpecW w (sqB l && ok) x) := by
  have E := isSquare_any a cap n l w hn hsz hm
  cases hs : sqB l with
  | false =>
    rw [hs] at E
    replace E := Lib.hid E
    clear hs hm hn hsz ht
    go_enter Try.func54, Try.ntmps54
    go_wp2_with fail
    refine (E.out).mono ?_
    rintro e w1 ⟨rfl, hd⟩
    have HD := Lib.hid hd
    clear hd
    go_wp2
    go_ret2
    exact ⟨rfl, HD.out⟩
  | true =>
    rw [hs] at E
    replace E := Lib.hid E
    have E2 := Lib.hid (fun (W : World) (hd : w.Since w.heap.size W) => roads_3 W.heap.size a n cap (if ok then x else 0) ok (W.alloc (.map #[] 0)) (roads_made W) (fun W' hg => ht hs W' (hm.since (hd.trans (since_mono (since_of_map hg) hd.size)))))
    clear hs hm hn hsz ht
    generalize hy : (if ok = true then x else 0) = y at E2
    have hmm := @run_makeMap Try.prog
    go_enter Try.func54, Try.ntmps54
    go_wp2_with fail
    refine (E.out).mono ?_
    rintro e w1 ⟨rfl, hd⟩
    have HD := Lib.hid hd
    clear hd
    go_wp2_with fail
    refine (E2.out w1 HD.out).mono ?_
    rintro e w2 ⟨rfl, hg, hr⟩
    have HS2 := Lib.hid (HD.out.trans (since_mono (since_of_map hg) HD.out.size))
    clear hg hr
    go_wp2
    go_ret2
    exact ⟨by rw [← hy]; cases ok <;> rfl, HS2.out⟩

end Go.Proofs.Ytdbomnhlgaohaaa
end

section
namespace Go.Proofs.Ytdbomnhlgaohaaa
open Go.RowKit Go.Deep

def ColsAt (w : World) (g n : Nat) (cs : List Nat) : Prop := w.ownsRow 0 3 1 (.slice (some ⟨g, 0, none⟩) cs.length n) cs.length ((ints cs).map (Value.int .i64))
theorem ColsAt.init {w : World} {g n : Nat} {cs : List Nat} {k : Nat} (h : ColsAt w g n (cs ++ [k])) : ColsAt w g n cs := by
  unfold ColsAt at h ⊢
  rw [show (cs ++ [k]).length = cs.length + 1 by simp] at h
  refine ⟨by simp [ints], ?_⟩
  rcases h.2 with ⟨h', _⟩ | ⟨g', cap', cur, h', hb, hg, hle, hm, hs, ht⟩
  · simp at h'
  · simp only [Value.slice.injEq, Option.some.injEq, Addr.mk.injEq, and_true, true_and] at h'
    obtain ⟨rfl, rfl⟩ := h'
    refine .inr ⟨g, n, cur, rfl, hb, hg, by omega, hm, hs, ?_⟩
    have e := congrArg (List.take cs.length) ht
    rw [List.take_take, Nat.min_eq_left (by omega)] at e
    rw [Nat.mul_one, e]
    simp [ints]
theorem ColsAt.row {w : World} {g n : Nat} {cs : List Nat} (h : ColsAt w g n cs) : RowR w (some ⟨g, 0, none⟩) (ints cs) := fun _ =>
  ⟨g, 0, rfl, fun i hi => by
    have e := World.ownsRow.cellAt h i (by rw [ints_length] at hi; omega)
    rw [Nat.zero_add, e, List.getElem?_map]
    simp [List.getD, hi]⟩
theorem ColsAt.kept {w w' : World} {g n : Nat} {cs : List Nat} (h : ColsAt w g n cs) (hs : w.Since w.heap.size w') : ColsAt w' g n cs := World.ownsRow.kept h (grown_of_since (row := none) hs) (by simp [Value.ownBlock])
theorem ints_snoc (cs : List Nat) (k : Nat) : (ints (cs ++ [k])).map (Value.int .i64) = (ints cs).map (Value.int .i64) ++ [.int .i64 (k : Int)] := by simp [ints]

set_option maxRecDepth 100000 in
set_option maxHeartbeats 4000000 in
theorem sumOfOrders_any (a : Option Addr) (cap n : Nat) (l : List (List Int)) (g : Nat) (hn : l.length = n) (hT : TabIn l) (hw : (l.getD 0 []).length = n) : ∀ (m : Nat) (cs : List Nat) (W : World), cs.length + m = n → (∀ c ∈ cs, c < n) → ColsAt W g n cs → (∀ W', W.grownBy W' (some g) → MatR W' a l) →
    Calls Try.prog 100 #[.slice a n cap, .slice (some ⟨g, 0, none⟩) cs.length n] W fun e w' => e = .returned (.int .i64 (ordS l n m cs)) ∧ W.grownBy w' (some g) ∧ ColsAt w' g n cs := by
  have h6 := hT.2.1
  rw [hn] at h6
  intro m
  induction m with
  | zero =>
    intro cs W hl hc hcols hmat
    have hx : cs.length = n := by omega
    have E := orderedProduct_any a cap n l g n cs W hn hT hw (hmat W (World.grownBy.refl _ _)) hx hc (Nat.le_refl _) (by omega) hcols.row
    rw [hx]
    replace E := Lib.hid E
    have HC := Lib.hid hcols
    clear hmat hcols hl hc hx
    go_enter Try.func100, Try.ntmps100
    go_wp2_with fail
    refine (E.out).mono ?_
    rintro e w1 ⟨rfl, hs⟩
    have HK := HC.out.kept hs
    go_wp2
    go_ret
    exact ⟨rfl, grown_of_since hs, HK⟩
  | succ m ih =>
    intro cs W hl hc hcols hmat
    obtain ⟨i3, hi3⟩ := info3_parts
    have HJ := Lib.hid hi3
    have hbd := fun q (hq : q ≤ n) => ordP_bd (l := l) (n := n) (m := m) (cs := cs) h6 (fun i j hi hj => hT.at (by omega) (by omega)) hl hc hq
    have hb6 := b6_le (m + 1) (by omega)
    have hb6' : b6 (m + 1) = 6 * b6 m := rfl
    rw [ordS_succ]
    obtain ⟨F, hF⟩ : ∃ F : Nat → Int, F = fun k => if k ∈ cs then 0 else ordS l n m (cs ++ [k]) := ⟨_, rfl⟩
    simp only [← hF] at hbd ⊢
    have hd : cs.length < n := by omega
    have hne : ((cs.length : Int) == (n : Int)) = false := by simp; omega
    have HIH := Lib.hid (fun (k : Nat) (hk : k < n) (V : World) (h1 : ColsAt V g n (cs ++ [k])) (h2 : ∀ W', V.grownBy W' (some g) → MatR W' a l) => ih (cs ++ [k]) V (by simp; omega) (fun c h => by
      rcases List.mem_append.1 h with h | h
      · exact hc c h
      · simp at h; omega) h1 h2)
    have HIN := Lib.hid (fun (k : Nat) (V : World) (h1 : ColsAt V g n cs) => contains_any (some ⟨g, 0, none⟩) n cs.length (ints cs) k V (ints_length cs) (by omega) h1.row)
    have HM := Lib.hid hmat
    have HC := Lib.hid hcols
    have HF := Lib.hid hF
    have HB := Lib.hid hbd
    have HMEM : ∀ k : Nat, ((k : Int) ∈ ints cs) ↔ k ∈ cs := fun k => by
      simp only [ints, List.mem_map]
      constructor
      · rintro ⟨c, h1, h2⟩
        have : c = k := by omega
        exact this ▸ h1
      · exact fun h => ⟨k, h, rfl⟩
    have HME := Lib.hid HMEM
    obtain ⟨d, hdd⟩ : ∃ d, d = cs.length := ⟨_, rfl⟩
    have HD := Lib.hid hdd
    rw [← hdd] at hd hne ⊢
    simp only [← hdd] at HIN
    clear ih hmat hcols hF hbd hc hi3 HMEM hdd hT hw hn
    go_enter Try.func100, Try.ntmps100
    go_wp2
    go_loopg [5, 6, 17] n (fun q s _ i wr => ∃ k : Nat, k ≤ n ∧ q = n - k ∧ i = .int .i64 k ∧ s = .int .i64 (sumN F k) ∧ W.grownBy wr (some g) ∧ ColsAt wr g n cs)
    case atStart => exact ⟨0, Nat.zero_le _, rfl, rfl, rfl, World.grownBy.refl _ _, HC.out⟩
    case round =>
      obtain ⟨k, hk, rfl, rfl, rfl, hG, hCo⟩ := hrel
      obtain ⟨s0, hs0⟩ : ∃ s, s = sumN F k := ⟨_, rfl⟩
      have e : sumN F (k + 1) = s0 + F k := by rw [hs0]; rfl
      rw [← hs0]
      by_cases hlt : k < n
      · have hsb := HB.out (k + 1) (by omega)
        rw [e] at hsb
        have E1 := HIN.out k wr hCo
        have HE := Lib.hid e
        have HG := Lib.hid hG
        have HCo := Lib.hid hCo
        clear e hs0 hG
        by_cases hmem : k ∈ cs
        · rw [decide_eq_true ((HME.out k).2 hmem)] at E1
          replace E1 := Lib.hid E1
          have hF0 : F k = 0 := by rw [HF.out]; exact if_pos hmem
          clear hCo
          go_wp2_with fail
          refine (E1.out).mono ?_
          rintro e w' ⟨rfl, rfl⟩
          go_wp2
          go_roundg (n - (k + 1))
          case measure => omega
          case rel => exact ⟨k + 1, by omega, rfl, by go_num, by rw [HE.out, hF0]; simp, HG.out, HCo.out⟩
        · rw [decide_eq_false (fun h => hmem ((HME.out k).1 h))] at E1
          replace E1 := Lib.hid E1
          obtain ⟨f2, hf2⟩ : ∃ f, f = F k := ⟨_, rfl⟩
          rw [← hf2] at hsb
          have hF0 : f2 = ordS l n m (cs ++ [k]) := by rw [hf2, HF.out]; exact if_neg hmem
          have hws : IntKind.i64.wrap (s0 + f2) = s0 + f2 := IntWalk.i64_in _ ⟨by omega, by omega⟩
          have HH := Lib.hid hf2
          have EI := fun (V : World) (h1 : ColsAt V g n (cs ++ [k])) (h2 : V.heap.size ≥ 0 ∧ W.grownBy V (some g)) => HIH.out k hlt V h1 (fun W' hW' => HM.out W' (h2.2.trans hW'))
          rw [show (cs ++ [k]).length = d + 1 by rw [HD.out]; simp, ← hF0] at EI
          replace EI := Lib.hid EI
          have hown : wr.ownsRow 0 3 1 (.slice (some ⟨g, 0, none⟩) d n) d ((ints cs).map (Value.int .i64)) := by rw [HD.out]; exact hCo
          have HOWN := Lib.hid hown
          clear hf2 hsb hF0 hCo hown
          go_wp2_with (first
            | (go_at_call 111; refine (E1.out).mono ?_; rintro e w' ⟨rfl, rfl⟩)
            | (at_builtin; (refine wpList_append_fits _ rfl _ _ 23 rfl 0 3 i3 1 Try.underlying23 HJ.out.1 HJ.out.2.2.1 g d n ((ints cs).map (Value.int .i64)) rfl (HOWN.out.alloc _) ⟨wr.heap.size, 0, none⟩ 1 1 [.int .i64 k] rfl rfl (cell_one_at _ _ _ rfl) (fun x hx => by simp at hx; subst hx; rfl) (by omega) ?_); intro w1 hown' hgrow; have hc1 : ColsAt w1 g n (cs ++ [k]) := (by unfold ColsAt; rw [ints_snoc, show (cs ++ [k]).length = d + 1 by rw [HD.out]; simp]; exact hown'); have hg1 : W.grownBy w1 (some g) := HG.out.trans ((World.grownBy_alloc wr _ _).trans hgrow); clear hown' hgrow; have HC1 := Lib.hid hc1; have HG1 := Lib.hid hg1; clear hc1 hg1)
            | (go_at_call 100; refine (EI.out w1 HC1.out ⟨Nat.zero_le _, HG1.out⟩).mono ?_; rintro e w2 ⟨rfl, hg2, hc2⟩; have HG2 := Lib.hid (HG1.out.trans hg2); have HC2 := Lib.hid hc2.init; clear hg2 hc2))
          go_roundg (n - (k + 1))
          case measure => omega
          case rel => exact ⟨k + 1, by omega, rfl, by go_num, by rw [HE.out, ← HH.out], HG2.out, HC2.out⟩
      · have hqn : n = k := by omega
        subst hqn
        go_wp2
        go_ret
        exact ⟨by rw [hs0]; rfl, hG, hCo⟩

theorem since_fresh {W w1 w2 : World} (h : W.grownBy w1 none) (h2 : w1.grownBy w2 (some W.heap.size)) : W.Since W.heap.size w2 :=
  ⟨h2.os.trans h.os, h2.tape.trans h.tape, h2.output.trans h.output, Nat.le_trans h.size h2.size, fun k hk => (h2.block k (by have := h.size; omega) (by intro e; injection e with e; omega)).trans (h.block k hk (by simp))⟩

set_option maxRecDepth 100000 in
set_option maxHeartbeats 1000000 in
theorem byOrders_any (a : Option Addr) (cap n : Nat) (l : List (List Int)) (w : World) (hn : l.length = n) (hT : TabIn l) (hw : (l.getD 0 []).length = n) (hm : MatR w a l) :
    Calls Try.prog 91 #[.slice a n cap] w fun e w' => e = .returned (.int .i64 (ordF l n n 0)) ∧ w.Since w.heap.size w' := by
  have h6 := hT.2.1
  rw [hn] at h6
  obtain ⟨i3, hi3⟩ := info3_parts
  have HJ := Lib.hid hi3
  have E := fun (V : World) (hc : ColsAt V w.heap.size n []) (hg : w.grownBy V none) => sumOfOrders_any a cap n l w.heap.size hn hT hw n [] V (by simp) (by simp) hc (fun W' hW' => hm.since (since_fresh hg hW'))
  rw [ordS_all l n h6] at E
  replace E := Lib.hid E
  clear hi3 hn hT hw hm
  go_enter Try.func91, Try.ntmps91
  go_wp2_with (first
    | (at_make; (refine wpList_make_own _ rfl _ _ 23 rfl 0 3 i3 (.int .i64 0) 1 Try.underlying23 HJ.out.1 HJ.out.2.1 HJ.out.2.2.1 .i64 .i64 n n rfl rfl rfl (by rw [HJ.out.2.2.2]; omega) (by unfold maxLen; omega) (Nat.zero_le _) ?_); intro w1 hown hgrow; have HO := Lib.hid (show ColsAt w1 w.heap.size n [] from hown); have HG := Lib.hid hgrow; clear hown hgrow)
    | (go_at_call 100; refine (E.out w1 HO.out HG.out).mono ?_; rintro e w2 ⟨rfl, hg2, hc2⟩; have HS := Lib.hid (since_fresh HG.out hg2); clear hg2 hc2))
  go_ret
  exact ⟨rfl, HS.out⟩

theorem implValueOrders_any (a : Option Addr) (cap n : Nat) (l : List (List Int)) (w : World) (hn : l.length = n) (hsz : szL l ≤ 1048576) (hm : MatR w a l) :
    Calls Try.prog 22 #[.slice a n cap] w (SpecW w (sqB l) (ordF l n n 0)) :=
  implValueOrders_of a cap n l (ordF l n n 0) w hn hsz hm fun hs W' hm' => by
    obtain ⟨hT, hw⟩ := sqB_of hs
    exact byOrders_any a cap n l W' hn hT (by rw [← hw, hn]) hm'

end Go.Proofs.Ytdbomnhlgaohaaa
end

section
namespace Go.Proofs.Ytdbomnhlgaohaaa
open Go.RowKit Go.Deep

set_option maxHeartbeats 1000000 in
theorem sameInts_same (a b : Option Addr) (ca cb n : Nat) (l : List Int) (w : World) (hn : l.length = n) (h63 : n ≤ 9223372036854775807) (ha : RowR w a l) (hb : RowR w b l) :
    Calls Try.prog 29 #[.slice a n ca, .slice b n cb] w fun e w' => e = .returned (.bool true) ∧ Drawn w w' := by
  have H := Lib.hid hn; clear hn
  go_enter Try.func29, Try.ntmps29
  go_wp2
  go_loopg [5] n (fun g i wr => ∃ k : Nat, k ≤ n ∧ g = n - k ∧ i = .int .i64 k ∧ Drawn w wr)
  case atStart => exact ⟨0, Nat.zero_le _, rfl, rfl, Drawn.refl w⟩
  case round =>
    obtain ⟨k, hk, rfl, rfl, hD⟩ := hrel
    by_cases hlt : k < n
    · obtain ⟨b1, o1, rfl, hc1⟩ := ha (by rw [H.out]; omega)
      obtain ⟨b2, o2, rfl, hc2⟩ := hb (by rw [H.out]; omega)
      have c1 := hc1 k (by rw [H.out]; exact hlt)
      have c2 := hc2 k (by rw [H.out]; exact hlt)
      obtain ⟨x, hx⟩ : ∃ x, x = l.getD k 0 := ⟨_, rfl⟩
      rw [← hx] at c1 c2
      rw [← hD.cell] at c1 c2
      clear hx hc1 hc2 ha hb
      go_wp2
      go_quiet (fail)
      go_wp2
      go_roundg (n - (k + 1))
      case measure => omega
      case rel => exact ⟨k + 1, by omega, rfl, by go_num, hD.trans (Drawn.mk _ _)⟩
    · go_wp2
      go_ret
      exact ⟨rfl, hD⟩

set_option maxHeartbeats 1000000 in
theorem sameRows_same (a b : Option Addr) (ca cb n : Nat) (l : List (List Int)) (w : World) (hn : l.length = n) (h63 : n ≤ 9223372036854775807) (hl : ∀ r, r < l.length → (l.getD r []).length ≤ 9223372036854775807)
    (ha : MatR w a l) (hb : MatR w b l) :
    Calls Try.prog 21 #[.slice a n ca, .slice b n cb] w fun e w' => e = .returned (.bool true) ∧ Drawn w w' := by
  have H := Lib.hid hn; clear hn
  go_enter Try.func21, Try.ntmps21
  go_wp2
  go_loopg [5] n (fun g i wr => ∃ k : Nat, k ≤ n ∧ g = n - k ∧ i = .int .i64 k ∧ Drawn w wr)
  case atStart => exact ⟨0, Nat.zero_le _, rfl, rfl, Drawn.refl w⟩
  case round =>
    obtain ⟨k, hk, rfl, rfl, hD⟩ := hrel
    by_cases hlt : k < n
    · obtain ⟨b1, o1, A1, C1, rfl, hc1⟩ := ha (by rw [H.out]; omega)
      obtain ⟨b2, o2, A2, C2, rfl, hc2⟩ := hb (by rw [H.out]; omega)
      obtain ⟨c1, r1⟩ := hc1 k (by rw [H.out]; exact hlt)
      obtain ⟨c2, r2⟩ := hc2 k (by rw [H.out]; exact hlt)
      have hlk := hl k (by rw [H.out]; exact hlt)
      obtain ⟨x, hx⟩ : ∃ x, x = l.getD k [] := ⟨_, rfl⟩
      rw [← hx] at c1 c2 r1 r2 hlk
      obtain ⟨m, hm⟩ : ∃ m, x.length = m := ⟨_, rfl⟩
      rw [hm] at c1 c2 hlk
      have HM := Lib.hid hm
      clear hx hc1 hc2 ha hb hl hm
      have r1 := r1.drawn hD
      have r2 := r2.drawn hD
      rw [← hD.cell] at c1 c2
      have e1 := fun (p : Nat) => sameInts_same (A1 k) (A2 k) (C1 k) (C2 k) m x (wr.drewN p) HM.out hlk r1 r2
      have E1 := Lib.hid e1; clear e1 r1 r2
      go_wp2
      go_quiet ((go_at_call 29; exact Calls.quiet_of (E1.out _)))
      go_wp2
      go_roundg (n - (k + 1))
      case measure => omega
      case rel => exact ⟨k + 1, by omega, rfl, by go_num, hD.trans (Drawn.mk _ _)⟩
    · go_wp2
      go_ret
      exact ⟨rfl, hD⟩

end Go.Proofs.Ytdbomnhlgaohaaa
end

section
namespace Go.Proofs.Ytdbomnhlgaohaaa
open Go.RowKit Go.Deep

theorem ch_val (f : Nat → Int) {m : Nat} (h6 : m ≤ 6) : ordF (chL f m m) m m 0 = kf f m := by
  unfold chL
  rw [tq_ord _ h6, dt_ch]

set_option maxRecDepth 100000 in
set_option maxHeartbeats 4000000 in
theorem fnChainTable (a : Option Addr) (cap n : Nat) (w : World) (hc : n ≤ cap) (h63 : cap ≤ 9223372036854775807) (hb : BytR w a n) :
    Calls Try.prog 4 #[.slice a n cap] w fun e w' => e = .returned (.bool true) ∧ w.Since w.heap.size w' := by
  by_cases hlen : 1048576 < n
  · have hl' : decide ((1048576 : Int) < (n : Int)) = true := by simp; omega
    clear hb
    go_enter Try.func4, Try.ntmps4
    go_wp2
    go_ret
    exact ⟨rfl, World.Since.refl _ _⟩
  · have hl' : decide ((1048576 : Int) < (n : Int)) = false := by simp; omega
    have ED := Lib.hid (drawChainTable_any a n cap w hc h63 hb)
    clear hb
    go_enter Try.func4, Try.ntmps4
    go_wp2_with fail
    refine (ED.out).mono ?_
    rintro e w1 ⟨ax, cx, x, rfl, hs1, hx7, hr, hcap⟩
    obtain ⟨m, hm⟩ : ∃ m, x.length = m := ⟨_, rfl⟩
    rw [hm] at hx7 hcap ⊢
    have HS1 := Lib.hid hs1
    have E1 := implChainTable_any ax cx m x w1 hm (by omega) hr
    have E2 := fun (W : World) (h : w1.Since w1.heap.size W) => specChainTable_any ax cx m x W hm hcap.1 hcap.2 (hr.since h)
    obtain ⟨ok, hok⟩ : ∃ ok, (l9B x && decide (0 < m)) = ok := ⟨_, rfl⟩
    obtain ⟨M, hM⟩ : ∃ M, resT ok (chL (fun i => x.getD i 0) m m) = M := ⟨_, rfl⟩
    have hMsz : szL M ≤ 1048576 := by
      rw [← hM]
      cases ok with
      | false => simp [resT, szL, sumTo]
      | true => exact szL_tabF _ _ _ (by omega) (by omega)
    unfold ImplT at E1
    unfold SpecT at E2
    rw [hok, hM] at E1
    simp only [hok, hM] at E2
    obtain ⟨q, hq⟩ : ∃ q, M.length = q := ⟨_, rfl⟩
    rw [hq] at E1
    simp only [hq] at E2
    have hq63 : q ≤ 9223372036854775807 := by unfold szL at hMsz; omega
    replace E1 := Lib.hid E1
    replace E2 := Lib.hid E2
    have HQ := Lib.hid hq
    have HMS := Lib.hid hMsz
    have HOK := Lib.hid hok
    have HMM := Lib.hid hM
    clear hs1 hq hMsz hok hM
    go_wp2_with fail
    refine (E1.out).mono ?_
    rintro e w2 ⟨a2, c2, rfl, hs2, ho2⟩
    have HO := Lib.hid (fun (W : World) (h : w2.Since w2.heap.size W) => ho2.matR.since h)
    have HS2 := Lib.hid hs2
    clear ho2 hs2
    go_wp2_with fail
    refine (E2.out w2 HS2.out).mono ?_
    rintro e w3 ⟨a3, c3, rfl, hs3, hi3⟩
    have ES := Lib.hid (fun (W : World) (h : w3.Since w3.heap.size W) => sameRows_same a2 a3 c2 c3 q M W HQ.out hq63 (tq_rows HMS.out) (HO.out W (hs3.trans (since_mono h hs3.size))) (hi3.matR.since h))
    have HS3 := Lib.hid hs3
    clear hi3 hs3
    go_wp2_with fail
    refine (ES.out w3 (World.Since.refl _ _)).mono ?_
    rintro e w4 ⟨rfl, hd4⟩
    have hs4 := hd4.since w3.heap.size
    have HS4 := Lib.hid ((HS2.out.trans (since_mono HS3.out HS2.out.size)).trans (since_mono hs4 (by have := HS2.out.size; have := HS3.out.size; omega)))
    have HS24 := Lib.hid (HS3.out.trans (since_mono hs4 HS3.out.size))
    cases ok with
    | false =>
      clear hd4
      go_wp2_with fail
      refine (ES.out w4 hs4).mono ?_
      rintro e w5 ⟨rfl, hd5⟩
      have HS5 := Lib.hid (hd5.since w4.heap.size)
      clear hd5
      go_wp2
      go_ret
      exact ⟨rfl, HS1.out.trans (since_mono (HS4.out.trans (since_mono HS5.out HS4.out.size)) HS1.out.size)⟩
    | true =>
      have hML : chL (fun i => x.getD i 0) m m = M := HMM.out
      have hMO := HO.out
      clear hs4 hd4
      have hok2 := HOK.out
      rw [Bool.and_eq_true, decide_eq_true_eq] at hok2
      obtain ⟨hok9, h1⟩ := hok2
      have h6 := (l9B_of hok9).2
      rw [hm] at h6
      have hv := ch_val (fun i => x.getD i 0) h6
      have hkv : kf (fun i => x.getD i 0) m = chV x := by unfold chV; rw [hm]
      have hq : M.length = m := by rw [← hML]; exact chL_length _ _ _
      have hqm : q = m := by rw [← HQ.out]; exact hq
      subst hqm
      have hT : tabIn M = true := by rw [← hML, ch_tab (l9B_all9 hok9) q h6]; exact decide_eq_true h1
      have hsq : sqB M = true := by rw [← hML] at hT ⊢; exact tq_sq hT
      have E3 := fun (W : World) (h : w1.Since w1.heap.size W) => implChainValue_any ax cx q x W hm (by omega) (hr.since h)
      have E4 := fun (W : World) (h : w2.Since w2.heap.size W) => implValueOrders_any a2 c2 q M W hq HMS.out (hMO W h)
      unfold SpecW at E4
      rw [hML, hkv] at hv
      obtain ⟨v, hvv⟩ : ∃ v, chV x = v := ⟨_, rfl⟩
      rw [hvv] at hv
      simp only [hok9, hvv] at E3
      simp only [hsq, hv] at E4
      have EE3 := Lib.hid E3
      have EE4 := Lib.hid E4
      clear hv hML hMO hsq hT hvv hq E3 E4 hok9 hr hkv
      go_wp2_with fail
      refine (EE3.out w4 HS4.out).mono ?_
      rintro e w5 ⟨rfl, hs5⟩
      have HS5 := Lib.hid (HS24.out.trans (since_mono hs5 HS24.out.size))
      have HS15 := Lib.hid (HS4.out.trans (since_mono hs5 HS4.out.size))
      clear hs5
      go_wp2_with fail
      refine (EE4.out w5 HS5.out).mono ?_
      rintro e w6 ⟨rfl, hs6⟩
      have HS6 := Lib.hid (HS15.out.trans (since_mono hs6 HS15.out.size))
      clear hs6
      go_wp2
      go_ret
      exact ⟨rfl, HS1.out.trans (since_mono HS6.out HS1.out.size)⟩

end Go.Proofs.Ytdbomnhlgaohaaa
end

section
namespace Go.Proofs.Ytdbomnhlgaohaaa
open Go.ChangeShapes Go.WideShapes Go.ChangeAt Go.RowKit Go.Deep

theorem below_since' {B : Nat} {w w' : World} (h : Below B w w') : w.Since B w' := ⟨h.os, h.tape, h.output, h.size, h.block⟩
theorem since_below' {B : Nat} {w w' : World} (h : w.Since B w') : Below B w w' := ⟨h.os, h.tape, h.output, h.size, h.block⟩

section
variable {H : Type} {enc : TypeId × Value → H} {P : Program}
theorem post_of_below {f : Func} {s : ChangeSpec} {apart fresh handsOn again : Bool} {W W' : World} {args : Array Value} {v : Value} {ds gs : List (DataW H)} {before pa pv : List MemPlace}
    (hW : DataW.Whole enc P f.params.toList s.vars apart W args.toList ds gs before)
    (hres : ∀ (b : Nat) (sp : Nat → Bool) (hd : Bool), DataW.TrodAll enc P W' b sp hd f.resultTypes.toList (v.resultList f.resultTypes.size) (s.fn H (ds ++ gs)).results [])
    (hargs : ∀ sp : Nat → Bool, (∀ p ∈ before, sp p.block = true) → DataW.TrodAll enc P W' 0 sp true f.params.toList args.toList (s.fn H (ds ++ gs)).args pa)
    (hvars : ∀ sp : Nat → Bool, (∀ p ∈ before, sp p.block = true) → DataW.TrodVars enc P W' sp s.vars (s.fn H (ds ++ gs)).vars pv)
    (hps : before = pa ++ pv) (hb : Below W.heap.size W W') (hag : again = false) :
    s.post enc P f apart fresh handsOn again W args v W' := by
  have hlt : ∀ p ∈ before, p.block < W.heap.size := fun p hp => hW.lt p hp
  have hold : ∀ p ∈ before, (fun b => decide (b < W.heap.size)) p.block = true := fun p hp => by simpa using hlt p hp
  refine ⟨ds, gs, before, [], pa, pv, hW, hres _ _ _, hargs _ hold, hvars _ hold, World.keptBut_mono (fun p hp => ⟨hp, ?_⟩) (hb.frame (· ∈ before)), fun h => ?_⟩
  · rw [hps, List.mem_append] at hp
    exact Or.inr hp
  · rw [hag] at h; cases h

theorem open_mat {W : World} {t e q : TypeId} {a : Option Addr} {n cap : Nat} {d : DataW H} {p : List MemPlace} (ht : P.underlying t = some (.slice e)) (he : P.underlying e = some (.slice q)) (hq : P.underlying q = some (.int .i64))
    (ce : P.cellsOf e = 1) (cq : P.cellsOf q = 1) (h : DataW.Trod enc P W 0 (fun _ => true) true t (.slice a n cap) d p) :
    ∃ l : List (List Int), l.length = n ∧ MatR W a l ∧ n ≤ 9223372036854775807 ∧ ∀ r, r < l.length → (l.getD r []).length ≤ 9223372036854775807 := by
  obtain ⟨fuel, hf⟩ := h
  rcases open_int_rows ht he hq ce cq hf with ⟨hcs, _⟩ | ⟨a', len', cap', A, L, C, Z, hcs, _, hl, hm, _, hrows⟩
  · simp [Value.cells] at hcs
    obtain ⟨rfl, rfl, rfl⟩ := hcs
    exact ⟨[], rfl, (fun h => by simp at h), by omega, fun r hr => by simp at hr⟩
  · simp [Value.cells] at hcs
    obtain ⟨rfl, rfl, rfl⟩ := hcs
    have hmx : maxLen = 9223372036854775807 := rfl
    have hlen : ∀ r, r < n → ((Z r).take (L r)).length = L r := fun r hr => by
      obtain ⟨_, h1, _, h2, _⟩ := hrows r (by omega)
      rw [List.length_take]; omega
    have hget : ∀ r, r < n → ((List.range n).map fun r => (Z r).take (L r)).getD r [] = (Z r).take (L r) := fun r hr => by simp [List.getD, hr]
    refine ⟨(List.range n).map fun r => (Z r).take (L r), by simp, fun h => ?_, by omega, fun r hr => ?_⟩
    · obtain ⟨b, o, spot⟩ := a'
      simp at h
      have hspot : spot = none := by simpa [Addr.add] using World.cell?_spot (hrows 0 (by omega)).1
      subst hspot
      refine ⟨b, o, A, C, rfl, fun r hr => ?_⟩
      simp at hr
      rw [hget r hr, hlen r hr]
      obtain ⟨g1, g2, g3, g4, g5, g6, g7⟩ := hrows r (by omega)
      refine ⟨by rw [← add_plain]; exact g1, fun h0 => ?_⟩
      rw [hlen r hr] at h0
      cases hA : A r with
      | none => have := g6 hA; omega
      | some a'' =>
        obtain ⟨_, hcell⟩ := g7 a'' hA
        obtain ⟨b', o', sp⟩ := a''
        have hs : sp = none := by simpa [Addr.add] using World.cell?_spot (hcell 0 (by omega))
        subst hs
        refine ⟨b', o', rfl, fun i hi => ?_⟩
        rw [hlen r hr] at hi
        rw [← add_plain, hcell i (by omega)]
        congr 2
        simp [List.getD, hi]
    · simp at hr
      rw [hget r hr, hlen r hr]
      obtain ⟨_, h1, h2, _⟩ := hrows r (by omega)
      omega
end

theorem Try.own : ownKnob Try.prog.godebug = none := by kernel_rfl
theorem Try.laidOut : laidOutB Try.prog = true := by kernel_rfl
theorem Try.cellsR : Try.prog.cellsOf 23 = 1 := by kernel_rfl
theorem Try.cellsI : Try.prog.cellsOf 3 = 1 := by kernel_rfl

end Go.Proofs.Ytdbomnhlgaohaaa
end

section
namespace Go.Proofs.Ytdbomnhlgaohaaa
open Go.ChangeShapes Go.WideShapes Go.ChangeAt Go.RowKit Go.Deep

theorem wf_u8_of {n : Int} (h : (Lit.int .u8 n).wf = true) : 0 ≤ n ∧ n ≤ 255 := by
  have h2 : (0 : Int) ≤ n ∧ n ≤ 255 := by simpa [Lit.wf, IntKind.min, IntKind.max, IntKind.signed, IntKind.bits] using h
  exact h2

theorem open_bytes {H : Type} {enc : TypeId × Value → H} {P : Program} {W : World} {t e : TypeId} {a : Option Addr} {n cap : Nat} {d : DataW H} {p : List MemPlace} (ht : P.underlying t = some (.slice e)) (he : P.underlying e = some (.int .u8)) (ce : P.cellsOf e = 1)
    (h : DataW.Trod enc P W 0 (fun _ => true) true t (.slice a n cap) d p) : BytR W a n ∧ n ≤ cap ∧ cap ≤ 9223372036854775807 := by
  obtain ⟨fuel, hf⟩ := h
  rcases open_ints ht he ce hf with ⟨hcs, _⟩ | ⟨a', len, cap', zs, hcs, _, hl, hm, hlen, _, hcell, hwf⟩
  · simp [Value.cells] at hcs
    obtain ⟨rfl, rfl, rfl⟩ := hcs
    exact ⟨fun h => absurd h (by omega), by omega, by omega⟩
  · simp [Value.cells] at hcs
    obtain ⟨rfl, rfl, rfl⟩ := hcs
    have hmx : maxLen = 9223372036854775807 := rfl
    have hzl : zs.length = cap := by simpa using hlen
    refine ⟨fun h0 => ?_, by omega, by omega⟩
    obtain ⟨b, o, spot⟩ := a'
    have hspot : spot = none := by simpa [Addr.add] using World.cell?_spot (hcell 0 (by omega))
    subst hspot
    refine ⟨b, o, rfl, fun i hi => ?_⟩
    have hi' : i < zs.length := by omega
    have hw := wf_u8_of (hwf (zs.getD i 0) (by simp [List.getD, hi']))
    obtain ⟨z, hz⟩ := Int.eq_ofNat_of_zero_le hw.1
    refine ⟨z, by omega, ?_⟩
    rw [← add_plain, hcell i hi', hz]

theorem Try.cellsB : Try.prog.cellsOf 5 = 1 := by kernel_rfl

end Go.Proofs.Ytdbomnhlgaohaaa
end
