import Derived.Test.YtdodchmelepkeaaChipL
import Derived.Laws.IdiomStrings
import Derived.Laws.Concat
import Derived.Test.YtdodchmelepkeaaUnitSpec
import Derived.Test.YtdodchmelepkeaaNetU
import Derived.Test.YtdodchmelepkeaaIter
import Derived.RangeFuncFrom
import Derived.RangeFuncBox
import Derived.RangeFuncNested
import Derived.Test.YtdodchmelepkeaaNetV
import Derived.Test.YtdodchmelepkeaaUnitImpl
import Derived.Test.YtdodchmelepkeaaNetO
import Derived.Test.YtdodchmelepkeaaMakeImplR
import Derived.Test.YtdodchmelepkeaaRows
import Derived.Test.YtdodchmelepkeaaData
import Derived.ProofKit
import Derived.Deep.Matrix
import Derived.Deep.Slices

section
namespace Go.Proofs.Ytdodchmelepkeaa
open Go.RowKit Go.Deep

def digX (k : Nat) : UInt8 := UInt8.ofNat (48 + k % 10)
def goX : Nat → Nat → ByteArray → ByteArray
  | 0, _, out => out
  | f + 1, k, out => if k = 0 then out else goX f (k / 10) (⟨#[digX k]⟩ ++ out)
theorem goX_zero (f : Nat) (out : ByteArray) : goX f 0 out = out := by cases f <;> simp [goX]
theorem goX_step {f k : Nat} (out : ByteArray) (hk : 0 < k) : goX (f + 1) k out = goX f (k / 10) (⟨#[digX k]⟩ ++ out) := by
  show (if k = 0 then _ else _) = _
  rw [if_neg (by omega)]
def tenP : Nat → Nat
  | 0 => 1
  | f + 1 => 10 * tenP f
theorem tenP_le {f : Nat} (h : f ≤ 7) : tenP f ≤ 10000000 := by
  have : ∀ j : Fin 8, tenP j.val ≤ 10000000 := by decide
  exact this ⟨f, by omega⟩
def txtX (k : Nat) : ByteArray := ⟨#[109]⟩ ++ goX 7 k ByteArray.empty

theorem digX_val (k : Nat) : ((digX k).toNat : Int) = 48 + (k : Int) % 10 := by
  unfold digX
  rw [UInt8.toNat_ofNat']
  have : (48 + k % 10) % 2 ^ 8 = 48 + k % 10 := Nat.mod_eq_of_lt (by omega)
  rw [this]
  omega

set_option maxRecDepth 100000 in
set_option maxHeartbeats 400000 in
theorem markText_any (k : Nat) (w : World) (h0 : 0 < k) (hk : k < 10000000) :
    Calls Try.prog 61 #[.int .i64 k] w fun e w' => e = .returned (.string (txtX k)) ∧ w.Since w.heap.size w' := by
  unfold txtX
  obtain ⟨R, hR⟩ : ∃ R, goX 7 k ByteArray.empty = R := ⟨_, rfl⟩
  rw [hR]
  go_enter Try.func61, Try.ntmps61
  go_wp2_with fail
  go_loopg [0, 3] 8 (fun g q i wr => ∃ (f j : Nat) (out : ByteArray), g = f + 1 ∧ f ≤ 7 ∧ j < tenP f ∧ q = .int .i64 j ∧ i = .string out ∧ out.size + f ≤ 7 ∧ goX f j out = R ∧ w.Since w.heap.size wr)
  case atStart => exact ⟨7, k, ByteArray.empty, rfl, by omega, by simp [tenP]; omega, rfl, rfl, by simp, hR, World.Since.refl _ _⟩
  case round =>
    obtain ⟨f, j, out, rfl, hf, hj, rfl, rfl, hs, hg, hS⟩ := hrel
    by_cases hj0 : j = 0
    · subst hj0
      rw [goX_zero] at hg
      subst hg
      have hadd := run_string_add_sum (P := Try.prog) (w := wr) ⟨#[109]⟩ out (by have : (⟨#[109]⟩ : ByteArray).size = 1 := rfl; omega)
      go_wp2_with fail
      go_ret
      exact ⟨rfl, hS⟩
    · obtain ⟨f, rfl⟩ : ∃ f', f = f' + 1 := ⟨f - 1, by
        cases f with
        | zero => simp [tenP] at hj; omega
        | succ n => omega⟩
      rw [goX_step out (by omega)] at hg
      have hj7 : tenP (f + 1) = 10 * tenP f := rfl
      have hd := digX_val j
      have HS := Lib.hid hS
      clear hR hS
      have hcv := run_convert_bytes_back (P := Try.prog) (wr.alloc (.cells #[.int .u8 (48 + (j : Int) % 10)] 5)) 96 9 5 ⟨wr.heap.size, 0, none⟩ 1 [digX j] Try.underlying96 Try.underlying5 Try.underlying9 (fun i hi => by
        obtain rfl : i = 0 := by simp at hi; omega
        show (wr.alloc _).cell? ⟨wr.heap.size, 0, none⟩ = _
        rw [World.cell?_alloc_new]
        show some (Value.int .u8 (48 + (j : Int) % 10)) = some (.int .u8 ((digX j).toNat : Int))
        rw [hd])
      have hcv2 : Sem.run Try.prog (convert 96 9 (.slice (some ⟨wr.heap.size, 0, none⟩) 1 1)) (wr.alloc (.cells #[.int .u8 (48 + (j : Int) % 10)] 5)) = .ok (.string ⟨#[digX j]⟩) (wr.alloc (.cells #[.int .u8 (48 + (j : Int) % 10)] 5)) := hcv
      have hadd := fun W => run_string_add_sum (P := Try.prog) (w := W) ⟨#[digX j]⟩ out (by have : (⟨#[digX j]⟩ : ByteArray).size = 1 := rfl; omega)
      have hten := tenP_le (show f + 1 ≤ 7 by omega)
      have hwd : wrap64 ((j : Int) / 10) = (j : Int) / 10 := IntWalk.wrap64_in _ ⟨by omega, by omega⟩
      clear hcv hd hten
      go_wp2_with fail
      go_roundg (f + 1)
      case measure => omega
      case rel => exact ⟨f, j / 10, ⟨#[digX j]⟩ ++ out, rfl, by omega, by omega, by simp [hwd], rfl, by rw [ByteArray.size_append]; have : (⟨#[digX j]⟩ : ByteArray).size = 1 := rfl; omega, hg, HS.out.alloc (by simpa using HS.out.size) _⟩

def markC (k : Nat) (r : Nat) : RC := ⟨txtX (k + 3 * r), (k + 3 * r + 1 : Nat), (k + 3 * r + 2 : Nat)⟩
def mixC (k : Nat) (cs : List RC) (r : Nat) : List RC := (List.range cs.length).map fun i => if i < r then markC k i else cs.getD i rc0
theorem mixC_len (k : Nat) (cs : List RC) (r : Nat) : (mixC k cs r).length = cs.length := by simp [mixC]
theorem mixC_get {k : Nat} {cs : List RC} {r i : Nat} (h : i < cs.length) : (mixC k cs r).getD i rc0 = if i < r then markC k i else cs.getD i rc0 := by simp [mixC, List.getD, h]
theorem mixC_zero (k : Nat) (cs : List RC) : mixC k cs 0 = cs := by
  refine List.ext_getElem (mixC_len _ _ _) fun i h1 h2 => ?_
  simp [mixC, List.getD, h2]

theorem frame_set {lo hi : Nat} (w : World) (p : Addr) (v : Value) (h : lo ≤ p.block ∧ p.block < hi) : Frame lo hi w (w.setCell p v) :=
  ⟨rfl, rfl, rfl, by simp, fun k _ ho => blk_setCell_other w p v k (by omega)⟩
theorem OwnC.at {lo hi : Nat} {w : World} {a : Option Addr} {cs : List RC} (h : OwnC lo hi w a cs) {r : Nat} (hr : r < cs.length) : ∃ g, a = some ⟨g, 0, none⟩ ∧ (lo ≤ g ∧ g < hi) ∧ w.cell? ⟨g, r * 3, none⟩ = some (.string (cs.getD r rc0).k) ∧ w.cell? ⟨g, r * 3 + 1, none⟩ = some (.int .i64 (cs.getD r rc0).l) ∧ w.cell? ⟨g, r * 3 + 2, none⟩ = some (.int .i64 (cs.getD r rc0).w) ∧
    w.frozen? ⟨g, r * 3, none⟩ = false ∧ w.frozen? ⟨g, r * 3 + 1, none⟩ = false ∧ w.frozen? ⟨g, r * 3 + 2, none⟩ = false := by
  obtain ⟨g, e, hg, hc⟩ := h (by omega)
  obtain ⟨⟨c1, c2, c3⟩, f1, f2, f3⟩ := hc r hr
  exact ⟨g, e, hg, c1, c2, c3, f1, f2, f3⟩

theorem OwnC.mark {lo hi : Nat} {w : World} {g k : Nat} {cs : List RC} {r : Nat} (h : OwnC lo hi w (some ⟨g, 0, none⟩) (mixC k cs r)) (hr : r < cs.length) :
    OwnC lo hi (((w.setCell ⟨g, r * 3, none⟩ (.string (txtX (k + 3 * r)))).setCell ⟨g, r * 3 + 1, none⟩ (.int .i64 (k + 3 * r + 1 : Nat))).setCell ⟨g, r * 3 + 2, none⟩ (.int .i64 (k + 3 * r + 2 : Nat))) (some ⟨g, 0, none⟩) (mixC k cs (r + 1)) := by
  obtain ⟨g', e, hg, hc⟩ := h (by rw [mixC_len]; omega)
  injection e with e; injection e with e
  subst e
  rw [mixC_len] at hc
  intro _
  refine ⟨g, rfl, hg, fun i hi => ?_⟩
  rw [mixC_len] at hi
  obtain ⟨⟨k1, k2, k3⟩, m1, m2, m3⟩ := hc i hi
  obtain ⟨⟨c1, c2, c3⟩, -, -, -⟩ := hc r hr
  rw [mixC_get hi] at k1 k2 k3 ⊢
  have hne : ∀ (W : World) (q s : Nat) (v : Value), q ≠ s → (W.setCell ⟨g, s, none⟩ v).cell? ⟨g, q, none⟩ = W.cell? ⟨g, q, none⟩ := fun W q s v hq => World.cell?_setCell_other _ _ _ _ (fun e => hq (by injection e with _ e2; exact e2.symm))
  have hsm : ∀ (W : World) (q : Nat) (v : Value), (W.cell? ⟨g, q, none⟩).isSome = true → (W.setCell ⟨g, q, none⟩ v).cell? ⟨g, q, none⟩ = some v := fun W q v hq => World.cell?_setCell_same' _ _ _ hq
  refine ⟨⟨?_, ?_, ?_⟩, by simp only [World.frozen?_setCell]; exact m1, by simp only [World.frozen?_setCell]; exact m2, by simp only [World.frozen?_setCell]; exact m3⟩
  · rw [hne _ _ _ _ (by omega), hne _ _ _ _ (by omega)]
    by_cases e : i = r
    · subst e
      rw [hsm _ _ _ (by rw [c1]; rfl), if_pos (by omega)]
      rfl
    · rw [hne _ _ _ _ (by omega), k1]
      split <;> split <;> first | rfl | omega
  · rw [hne _ _ _ _ (by omega)]
    by_cases e : i = r
    · subst e
      rw [hsm _ _ _ (by rw [hne _ _ _ _ (by omega), c2]; rfl), if_pos (by omega)]
      rfl
    · rw [hne _ _ _ _ (by omega), hne _ _ _ _ (by omega), k2]
      split <;> split <;> first | rfl | omega
  · by_cases e : i = r
    · subst e
      rw [hsm _ _ _ (by rw [hne _ _ _ _ (by omega), hne _ _ _ _ (by omega), c3]; rfl), if_pos (by omega)]
      rfl
    · rw [hne _ _ _ _ (by omega), hne _ _ _ _ (by omega), hne _ _ _ _ (by omega), k3]
      split <;> split <;> first | rfl | omega

set_option maxRecDepth 100000 in
set_option maxHeartbeats 400000 in
theorem markChipS_any (a : Option Addr) (lo hi cap N k : Nat) (cs : List RC) (w : World) (hN : cs.length = N) (h20 : N ≤ 1048576) (h0 : 0 < k) (hk : k ≤ 4000000) (hO : OwnC lo hi w a cs) :
    Calls Try.prog 21 #[.slice a N cap, .int .i64 k] w fun e w' => e = .returned (.int .i64 (k + 3 * N : Nat)) ∧ OwnC lo hi w' a (mixC k cs N) ∧ Frame lo hi w w' := by
  have HN := Lib.hid hN
  have HO : Hid (OwnC lo hi w a (mixC k cs 0)) := Lib.hid (by rw [mixC_zero]; exact hO)
  clear hN hO
  go_enter Try.func21, Try.ntmps21
  go_wp2_with fail
  go_loopg [1, 5] N (fun g q i wr => ∃ r : Nat, r ≤ N ∧ g = N - r ∧ i = .int .i64 r ∧ q = .int .i64 (k + 3 * r : Nat) ∧ OwnC lo hi wr a (mixC k cs r) ∧ Frame lo hi w wr)
  case atStart => exact ⟨0, Nat.zero_le _, rfl, rfl, rfl, HO.out, Frame.refl _ _ _⟩
  case round =>
    obtain ⟨r, hr, rfl, rfl, rfl, hO, hF⟩ := hrel
    by_cases hlt : r < N
    · have hrl : r < cs.length := by rw [HN.out]; exact hlt
      obtain ⟨g, rfl, hg, -, -, -, -, -, -⟩ := hO.at (show r < (mixC k cs r).length by rw [mixC_len]; exact hrl)
      obtain ⟨p, hp⟩ : ∃ p, k + 3 * r = p := ⟨_, rfl⟩
      have hp1 : 0 < p := by omega
      have hp2 : p < 9000000 := by omega
      have hm := Lib.hid (fun (W : World) (h : OwnC lo hi W (some ⟨g, 0, none⟩) (mixC k cs r)) => h.mark hrl)
      rw [hp] at hm ⊢
      have E := Lib.hid (fun (W : World) => markText_any p W hp1 (by omega))
      have HO2 := Lib.hid hO
      have HF := Lib.hid hF
      have HG := Lib.hid hg
      have HP := Lib.hid hp
      clear hO hF HO hp hg
      go_wp2_with (go_at_call 61; refine (E.out _).mono ?_; rintro e w1 ⟨rfl, hs1⟩; have ho1 := HO2.out.since hs1; obtain ⟨g', e', -, c1, c2, c3, f1, f2, f3⟩ := ho1.at (show r < (mixC k cs r).length by rw [mixC_len]; exact hrl); injection e' with e'; injection e' with e'; subst e'; have HM := Lib.hid (hm.out _ ho1); have HS1 := Lib.hid hs1; clear ho1 hs1)
      go_roundg (N - (r + 1))
      case measure => omega
      case rel =>
        refine ⟨r + 1, by omega, rfl, by go_num, ?_, ?_, ?_⟩
        · have := HP.out
          rw [show k + 3 * (r + 1) = p + 3 by omega]
          push_cast
          rw [Int.add_assoc, Int.add_assoc]
        · have := HM.out
          push_cast at this
          rw [Int.add_assoc]
          exact this
        · exact (((HF.out.trans (frame_since HS1.out lo hi)).trans (frame_set _ _ _ HG.out)).trans (frame_set _ _ _ HG.out)).trans (frame_set _ _ _ HG.out)
    · obtain rfl : r = N := by omega
      have HH := Lib.hid (And.intro hO hF)
      clear hO hF HO
      go_wp2_with fail
      go_ret
      exact ⟨rfl, HH.out.1, HH.out.2⟩

set_option maxRecDepth 100000 in
set_option maxHeartbeats 400000 in
theorem heldChipS_any (a : Option Addr) (cap N k : Nat) (cs : List RC) (w : World) (hN : cs.length = N) (h20 : N ≤ 1048576) (h0 : 0 < k) (hk : k ≤ 4000000) (hm : ChipsR w a (mixC k cs N)) :
    Calls Try.prog 30 #[.slice a N cap, .int .i64 k] w fun e w' => e = .returned (.int .i64 (k + 3 * N : Nat)) ∧ w.Since w.heap.size w' := by
  have HN := Lib.hid hN
  have HM := Lib.hid hm
  clear hN hm
  go_enter Try.func30, Try.ntmps30
  go_wp2_with fail
  go_loopg [1, 5] N (fun g q i wr => ∃ r : Nat, r ≤ N ∧ g = N - r ∧ i = .int .i64 r ∧ q = .int .i64 (k + 3 * r : Nat) ∧ w.Since w.heap.size wr)
  case atStart => exact ⟨0, Nat.zero_le _, rfl, rfl, rfl, World.Since.refl _ _⟩
  case round =>
    obtain ⟨r, hr, rfl, rfl, rfl, hS⟩ := hrel
    by_cases hlt : r < N
    · have hrl : r < cs.length := by rw [HN.out]; exact hlt
      obtain ⟨g, o, rfl, k1, k2, k3⟩ := HM.out.at (show r < (mixC k cs N).length by rw [mixC_len]; exact hrl)
      rw [mixC_get hrl, if_pos hlt] at k1 k2 k3
      dsimp only [markC] at k1 k2 k3
      obtain ⟨p, hp⟩ : ∃ p, k + 3 * r = p := ⟨_, rfl⟩
      have hp1 : 0 < p := by omega
      have hp2 : p < 9000000 := by omega
      rw [hp] at k1 k2 k3 ⊢
      push_cast at k2 k3
      have c1 := (hS.cell (World.block_lt_of_cell? _ _ k1)).trans k1
      have c2 := (hS.cell (World.block_lt_of_cell? _ _ k2)).trans k2
      have c3 := (hS.cell (World.block_lt_of_cell? _ _ k3)).trans k3
      have E := Lib.hid (fun (W : World) => markText_any p W hp1 (by omega))
      have HP := Lib.hid hp
      have HS := Lib.hid hS
      clear k1 k2 k3 hp hS
      go_wp2_with fail
      go_region_held3 (fun W' => W'.cell? ⟨g, o + r * 3, none⟩ = some (.string (txtX p)) ∧ W'.cell? ⟨g, o + r * 3 + 1, none⟩ = some (.int .i64 (p + 1)) ∧ W'.cell? ⟨g, o + r * 3 + 2, none⟩ = some (.int .i64 (p + 2)))
        (first | exact ⟨c1, c2, c3⟩ | exact g9)
        (first | (go_at_call 61; refine (E.out _).mono ?_; rintro e w1 ⟨rfl, hs1⟩; have g9 : w1.cell? ⟨g, o + r * 3, none⟩ = some (.string (txtX p)) ∧ w1.cell? ⟨g, o + r * 3 + 1, none⟩ = some (.int .i64 (p + 1)) ∧ w1.cell? ⟨g, o + r * 3 + 2, none⟩ = some (.int .i64 (p + 2)) := ⟨(hs1.cell (World.block_lt_of_cell? wr _ c1)).trans c1, (hs1.cell (World.block_lt_of_cell? wr _ c2)).trans c2, (hs1.cell (World.block_lt_of_cell? wr _ c3)).trans c3⟩; have HS1 := Lib.hid (HS.out.trans (since_mono (since_of_drew hs1) HS.out.size)); clear hs1))
      all_goals
        obtain ⟨d1, d2, d3⟩ := g9
        have e2 : (p : Int) + 1 + 1 = p + 2 := by omega
        go_wp2_with fail
        go_roundg (N - (r + 1))
        case measure => omega
        case rel =>
          refine ⟨r + 1, by omega, rfl, by go_num, ?_, HS1.out⟩
          have := HP.out
          rw [show k + 3 * (r + 1) = p + 3 by omega]
          push_cast
          rw [Int.add_assoc, Int.add_assoc]
          rfl
    · obtain rfl : r = N := by omega
      have HS := Lib.hid hS
      clear hS
      go_wp2_with fail
      go_ret
      exact ⟨rfl, HS.out⟩

end Go.Proofs.Ytdodchmelepkeaa
end

section
namespace Go.Proofs.Ytdodchmelepkeaa
open Go.RowKit Go.Deep

set_option maxRecDepth 100000 in
set_option maxHeartbeats 1000000 in
theorem lawNetTable_aux (x0 : Int) (a1 : Option Addr) (cap1 n1 : Nat) (l1 : List RC) (ok : Bool) (M : List (List Int)) (w : World) (hn1 : l1.length = n1) (h631 : n1 ≤ 9223372036854775807) (hs1 : ShortL l1) (hm1 : ChipsR w a1 l1) (hM : szL M ≤ 1048576)
    (hspec : n1 ≤ 1048576 → ∀ (W : World) (b1 : Option Addr) (c1 : Nat), n1 ≤ c1 → c1 ≤ 9223372036854775807 → (∃ g, b1 = some ⟨g, 0, none⟩) → ChipsR W b1 l1 → Calls Try.prog 18 #[.int .i64 x0, .slice b1 n1 c1] W (fun e w' => ∃ a cap, e = .returned (.tuple #[.slice a M.length cap, .bool ok]) ∧ W.Since W.heap.size w' ∧ InT W.heap.size w'.heap.size w' a M))
    (himpl : n1 ≤ 1048576 → ∀ (W : World) (b1 : Option Addr) (c1 : Nat), n1 ≤ c1 → c1 ≤ 9223372036854775807 → (∃ g, b1 = some ⟨g, 0, none⟩) → ChipsR W b1 l1 → Calls Try.prog 19 #[.int .i64 x0, .slice b1 n1 c1] W (fun e w' => ∃ a cap, e = .returned (.tuple #[.slice a M.length cap, .bool ok]) ∧ W.Since W.heap.size w' ∧ OwnT W.heap.size w'.heap.size w' a M)) :
    Calls Try.prog 4 #[.int .i64 x0, .slice a1 n1 cap1] w fun e w' => e = .returned (.bool true) ∧ w.Since w.heap.size w' := by
  have HN1 := Lib.hid hn1
  have HM1 := Lib.hid hm1
  have HH1 := Lib.hid hs1
  obtain ⟨q, hq⟩ : ∃ q, M.length = q := ⟨_, rfl⟩
  rw [hq] at hspec himpl
  have HQ := Lib.hid hq
  have hrl : ∀ r, r < M.length → (M.getD r []).length ≤ 9223372036854775807 := fun r hr => by have := row_le M hr; unfold szL at hM; omega
  have HRL := Lib.hid hrl
  have h63q : q ≤ 9223372036854775807 := by unfold szL at hM; omega
  have hsq : sumTo M q ≤ 1048576 := by rw [← hq]; unfold szL at hM; omega
  clear hrl
  have HSPEC := Lib.hid hspec
  have HIMPL := Lib.hid himpl
  clear hspec himpl hq hn1 hm1 hs1
  go_enter Try.func4, Try.ntmps4
  have s0 : w.Since w.heap.size w := World.Since.refl _ _
  have HZ1 := Lib.hid (szChipS_any a1 cap1 n1 1048576 l1 w HN1.out h631 ⟨by omega, by omega⟩ HH1.out (HM1.out.since s0))
  go_wp2_with fail
  refine (HZ1.out).mono ?_
  rintro e w1 ⟨r1, ⟨rfl, hra1, hrb1⟩, t1⟩
  have s1 : w.Since w.heap.size w1 := s0.trans (since_mono t1 s0.size)
  have z1 := t1.size
  clear t1
  by_cases hr01 : r1 < 0
  · have hb : decide (r1 < 0) = true := by simpa using hr01
    go_wp2_with fail
    go_ret
    exact ⟨rfl, s1⟩
  have hb1 : decide (r1 < 0) = false := by simpa using hr01
  have hle1 : n1 ≤ 1048576 := by have := hrb1 (by omega); omega
  clear hrb1
  go_wp2_with fail
  refine (toChipS_any a1 cap1 n1 l1 _ HN1.out hle1 (HM1.out.since s1)).mono ?_
  rintro e w2 ⟨rfl, t2, op1⟩
  have s2 : w.Since w.heap.size w2 := s1.trans (since_mono t2 s1.size)
  have z2 := t2.size
  clear t2
  go_wp2_with fail
  refine (HSPEC.out hle1 _ _ _ (Nat.le_refl _) (by omega) ⟨_, rfl⟩ op1.chips).mono ?_
  rintro e w3 ⟨vgw, cpgw, rfl, t3, gw⟩
  have s3 : w.Since w.heap.size w3 := s2.trans (since_mono t3 s2.size)
  have z3 := t3.size
  replace op1 := op1.since t3
  clear t3
  clear op1
  go_wp2_with fail
  refine (toChipS_any a1 cap1 n1 l1 _ HN1.out hle1 (HM1.out.since s3)).mono ?_
  rintro e w4 ⟨rfl, t4, ox1⟩
  have s4 : w.Since w.heap.size w4 := s3.trans (since_mono t4 s3.size)
  have z4 := t4.size
  replace gw := gw.since t4
  clear t4
  go_wp2_with fail
  refine (HIMPL.out hle1 _ _ _ (Nat.le_refl _) (by omega) ⟨_, rfl⟩ ox1.chips).mono ?_
  rintro e w5 ⟨vgg, cpgg, rfl, t5, gg⟩
  have s5 : w.Since w.heap.size w5 := s4.trans (since_mono t5 s4.size)
  have z5 := t5.size
  replace gw := gw.since t5
  replace ox1 := ox1.since t5
  clear t5
  cases ok
  all_goals
    go_wp2_with fail
    refine (eqIntSS_same _ _ _ _ _ M _ HQ.out h63q HRL.out gg.matR gw.matR).mono ?_
    rintro e w6 ⟨rfl, d6⟩
    have t6 := d6.since w5.heap.size
    clear d6
    have s6 : w.Since w.heap.size w6 := s5.trans (since_mono t6 s5.size)
    have z6 := t6.size
    replace gw := gw.since t6
    replace ox1 := ox1.since t6
    replace gg := gg.since t6
    clear t6
    go_wp2_with fail
    refine (toChipS_any a1 cap1 n1 l1 _ HN1.out hle1 (HM1.out.since s6)).mono ?_
    rintro e w7 ⟨rfl, t7, oy1⟩
    have s7 : w.Since w.heap.size w7 := s6.trans (since_mono t7 s6.size)
    have z7 := t7.size
    replace gw := gw.since t7
    replace ox1 := ox1.since t7
    replace gg := gg.since t7
    clear t7
    go_wp2_with fail
    refine (eqChipS_same _ _ _ _ _ l1 _ HN1.out h631 ox1.chips oy1.chips).mono ?_
    rintro e w8 ⟨rfl, t8⟩
    have s8 : w.Since w.heap.size w8 := s7.trans (since_mono t8 s7.size)
    have z8 := t8.size
    replace gw := gw.since t8
    replace ox1 := ox1.since t8
    replace gg := gg.since t8
    replace oy1 := oy1.since t8
    clear t8
    clear oy1
    go_wp2_with fail
    refine (markChipS_any _ w3.heap.size w4.heap.size _ _ (1) l1 _ HN1.out hle1 (by omega) (by omega) ox1).mono ?_
    rintro e w9 ⟨rfl, m9, f9⟩
    clear ox1
    have ox1 := m9
    clear m9
    have s9 : w.Since w.heap.size w9 := s8.trans (f9.since (by omega) (by omega))
    have z9 := f9.size
    replace gw := gw.frame f9 (by omega)
    replace gg := gg.frame f9 (by omega)
    go_wp2_with fail
    refine (eqIntSS_same _ _ _ _ _ M _ HQ.out h63q HRL.out gg.matR gw.matR).mono ?_
    rintro e w10 ⟨rfl, d10⟩
    have t10 := d10.since w9.heap.size
    clear d10
    have s10 : w.Since w.heap.size w10 := s9.trans (since_mono t10 s9.size)
    have z10 := t10.size
    replace gw := gw.since t10
    replace ox1 := ox1.since t10
    replace gg := gg.since t10
    clear t10
    clear ox1
    go_wp2_with fail
    refine (markIntSS_any _ w4.heap.size w5.heap.size _ _ _ M _ HQ.out hM (by omega) (by omega) gg).mono ?_
    rintro e w11 ⟨rfl, m11, f11, zz⟩
    clear zz
    clear gg
    have gg := m11
    clear m11
    have s11 : w.Since w.heap.size w11 := s10.trans (f11.since (by omega) (by omega))
    have z11 := f11.size
    replace gw := gw.frame f11 (by omega)
    go_wp2_with fail
    refine (heldIntSS_any _ _ _ 1 M _ HQ.out hM (by omega) (by omega) gg.matR).mono ?_
    rintro e w12 ⟨rfl, rfl⟩
    go_wp2_with fail
    refine (toChipS_any a1 cap1 n1 l1 _ HN1.out hle1 (HM1.out.since s11)).mono ?_
    rintro e w12 ⟨rfl, t12, oz1⟩
    have s12 : w.Since w.heap.size w12 := s11.trans (since_mono t12 s11.size)
    have z12 := t12.size
    replace gw := gw.since t12
    replace gg := gg.since t12
    clear t12
    go_wp2_with fail
    refine (HIMPL.out hle1 _ _ _ (Nat.le_refl _) (by omega) ⟨_, rfl⟩ oz1.chips).mono ?_
    rintro e w13 ⟨vgh, cpgh, rfl, t13, gh⟩
    have s13 : w.Since w.heap.size w13 := s12.trans (since_mono t13 s12.size)
    have z13 := t13.size
    replace gw := gw.since t13
    replace gg := gg.since t13
    replace oz1 := oz1.since t13
    clear t13
    clear oz1
    go_wp2_with fail
    refine (eqIntSS_same _ _ _ _ _ M _ HQ.out h63q HRL.out gh.matR gw.matR).mono ?_
    rintro e w14 ⟨rfl, d14⟩
    have t14 := d14.since w13.heap.size
    clear d14
    have s14 : w.Since w.heap.size w14 := s13.trans (since_mono t14 s13.size)
    have z14 := t14.size
    replace gw := gw.since t14
    replace gg := gg.since t14
    replace gh := gh.since t14
    clear t14
    go_wp2_with fail
    refine (heldIntSS_any _ _ _ 1 M _ HQ.out hM (by omega) (by omega) gg.matR).mono ?_
    rintro e w15 ⟨rfl, rfl⟩
    go_wp2_with fail
    go_ret
    exact ⟨rfl, s14⟩

end Go.Proofs.Ytdodchmelepkeaa
end

section
namespace Go.Proofs.Ytdodchmelepkeaa
open Go.RowKit Go.Deep Go.Shelf
attribute [local go_sem] Oper.semAt_some

abbrev kH : ByteArray := ⟨#[104]⟩
def kS (k : Nat) : ByteArray := if k = 0 then kU else if k = 1 then kD else kH
def posTo (n : Nat) : Nat → List (Nat × Nat)
  | 0 => []
  | k + 1 => if k + 1 = n then posTo n k ++ [(2, k)] else posTo n k ++ [(2, k), (0, k), (1, k)]
theorem posTo_len (n : Nat) : ∀ k, (posTo n k).length ≤ 3 * k
  | 0 => by simp [posTo]
  | k + 1 => by
    have := posTo_len n k
    unfold posTo
    split <;> simp <;> omega
theorem posTo_sub {n : Nat} {x : Nat × Nat} : ∀ {k m : Nat}, k ≤ m → x ∈ posTo n k → x ∈ posTo n m
  | k, 0, h, hx => by
    obtain rfl : k = 0 := by omega
    exact hx
  | k, m + 1, h, hx => by
    by_cases e : k = m + 1
    · subst e; exact hx
    · have := posTo_sub (n := n) (show k ≤ m by omega) hx
      unfold posTo
      split <;> simp [this]
theorem posTo_mem {n : Nat} {k i : Nat} : ∀ {m : Nat}, m ≤ n → ((k, i) ∈ posTo n m ↔ i < m ∧ ((k = 2) ∨ ((k = 0 ∨ k = 1) ∧ i + 1 ≠ n)))
  | 0, _ => by simp [posTo]
  | m + 1, hm => by
    have ih := posTo_mem (k := k) (i := i) (show m ≤ n by omega)
    unfold posTo
    by_cases e : m + 1 = n
    · rw [if_pos e, List.mem_append, ih]
      simp only [List.mem_singleton, Prod.mk.injEq]
      constructor
      · rintro (⟨h1, h2⟩ | ⟨h1, h2⟩)
        · exact ⟨by omega, h2⟩
        · exact ⟨by omega, .inl h1⟩
      · rintro ⟨h1, h2⟩
        by_cases h3 : i = m
        · rcases h2 with h2 | ⟨_, h2⟩
          · exact .inr ⟨h2, h3⟩
          · omega
        · exact .inl ⟨by omega, h2⟩
    · rw [if_neg e, List.mem_append, ih]
      simp only [List.mem_cons, List.not_mem_nil, or_false, Prod.mk.injEq]
      constructor
      · rintro (⟨h1, h2⟩ | ⟨h1, h2⟩ | ⟨h1, h2⟩ | ⟨h1, h2⟩)
        · exact ⟨by omega, h2⟩
        · exact ⟨by omega, .inl h1⟩
        · exact ⟨by omega, .inr ⟨.inl h1, by omega⟩⟩
        · exact ⟨by omega, .inr ⟨.inr h1, by omega⟩⟩
      · rintro ⟨h1, h2⟩
        by_cases h3 : i = m
        · rcases h2 with h2 | ⟨h2 | h2, _⟩
          · exact .inr (.inl ⟨h2, h3⟩)
          · exact .inr (.inr (.inl ⟨h2, h3⟩))
          · exact .inr (.inr (.inr ⟨h2, h3⟩))
        · exact .inl ⟨by omega, h2⟩

def encC (V : Int) (x : Nat × Nat) : Array Value := #[.agg #[.string (kS x.1), .int .i64 (x.2 : Int), .int .i64 V]]

set_option maxRecDepth 100000 in
set_option maxHeartbeats 1000000 in
theorem possible_in (q : Nat) (hq : 2 ≤ q) (l Bn Bw n : Nat) (V : Int) (hn : 1 ≤ n ∧ n ≤ 5) (Kp : World → World → Prop)
    (hK : ∀ X Y, Kp X Y → Y.cell? ⟨Bn, 0, none⟩ = X.cell? ⟨Bn, 0, none⟩ ∧ Y.cell? ⟨Bw, 0, none⟩ = X.cell? ⟨Bw, 0, none⟩) (J Jx : List (Nat × Nat) → World → Prop)
    (hY : ∀ pre x W, J pre W → pre.length < 15 → YieldAt Fence.wide (q - 1) Try.prog l (encC V x) W fun e W' =>
      (e = .returned (.bool true) ∧ J (pre ++ [x]) W' ∧ Kp W W') ∨ (e = .returned (.bool false) ∧ Jx (pre ++ [x]) W'))
    (W : World) (hBn : W.cell? ⟨Bn, 0, none⟩ = some (.int .i64 n)) (hBw : W.cell? ⟨Bw, 0, none⟩ = some (.int .i64 V)) (h0 : J [] W) :
    CallsIn Fence.wide q Try.prog 105 #[.func (.yield l) #[] #[], .pointer (some ⟨Bn, 0, none⟩), .pointer (some ⟨Bw, 0, none⟩)] W fun e W' => (∃ v, e = .returned v) ∧
      ((∃ ys, ys = posTo n n ∧ J ys W') ∨ (∃ pre, (∀ x ∈ pre, x ∈ posTo n n) ∧ Jx pre W')) := by
  obtain ⟨hn1, hn5⟩ := hn
  have hw1 : IntKind.i64.wrap ((n : Int) - 1) = (n : Int) - 1 := IntWalk.i64_in _ ⟨by omega, by omega⟩
  refine callsIn_of_wp Try.func105 rfl trivial ?_ rfl
  simp only [Try.ntmps105, List.size_toArray, List.length_cons, List.length_nil, Nat.reduceAdd, Nat.reduceSub, Array.replicate_succ, Array.replicate_zero, List.push_toArray, List.append_toArray, List.nil_append, List.cons_append]
  gi_wp2
  gi_loopw [4, 5, 7] (fun _ _ i wr => ∃ k : Nat, k ≤ n ∧ i = .int .i64 k ∧ J (posTo n k) wr ∧ wr.cell? ⟨Bn, 0, none⟩ = some (.int .i64 n) ∧ wr.cell? ⟨Bw, 0, none⟩ = some (.int .i64 V))
    (fun _ _ i _ => n - (intOf i).toNat)
  case atStart => exact ⟨0, Nat.zero_le _, rfl, h0, hBn, hBw⟩
  case round =>
    obtain ⟨k, hk, rfl, hJs, hcn, hcw⟩ := hrel
    by_cases hlt : k < n
    · have hpl := posTo_len n k
      obtain ⟨fn, tmps, assign, body, hy, hR⟩ := hY _ (2, k) wr hJs (by omega)
      dsimp only [encC, kS] at hy
      rw [if_neg (by simp), if_neg (by simp)] at hy
      have hm0 : ∀ x ∈ posTo n k, x ∈ posTo n n := fun x hx => posTo_sub (by omega) hx
      have hm2 : (2, k) ∈ posTo n n := (posTo_mem (Nat.le_refl n)).2 ⟨hlt, .inl rfl⟩
      have HM2 := Lib.hid (And.intro hm0 hm2)
      have HY := Lib.hid hY
      clear hBn hBw hY hm2 hm0
      gi_wp2
      refine ⟨fun _ => by omega, hR.mono ?_⟩
      rintro e W3 (⟨rfl, hJ3, hk3⟩ | ⟨rfl, hJx3⟩)
      · obtain ⟨g1, g2⟩ := hK _ _ hk3
        have hcn3 := g1.trans hcn
        have hcw3 := g2.trans hcw
        clear hy hR hk3 g1 g2 hcn hcw hJs
        by_cases hl : k + 1 = n
        · have hlb : ((k : Int) == (n : Int) - 1) = true := by simp; omega
          have hst : posTo n (k + 1) = posTo n k ++ [(2, k)] := by show (if k + 1 = n then _ else _) = _; rw [if_pos hl]
          rw [← hst] at hJ3
          clear hst hl
          gi_wp2
          repeat (refine ⟨fun _ h => (by cases h), ?_⟩; gi_wp2)
          case isFalse =>
            rename_i b h1 _
            exact absurd h1 (fun h => by cases h)
          all_goals
            go_roundw
            case rel => exact ⟨k + 1, by omega, by simp, hJ3, hcn3, hcw3⟩
            case measure => simp [intOf]; omega
        · have hlb : ((k : Int) == (n : Int) - 1) = false := by simp; omega
          have hst : posTo n (k + 1) = posTo n k ++ [(2, k), (0, k), (1, k)] := by show (if k + 1 = n then _ else _) = _; rw [if_neg hl]
          have HST := Lib.hid hst
          have HL := Lib.hid hl
          obtain ⟨fn, tmps, assign, body, hy, hR⟩ := HY.out _ (0, k) W3 hJ3 (by simp; omega)
          dsimp only [encC, kS] at hy
          rw [if_pos rfl] at hy
          clear hst hl hJ3
          gi_wp2
          refine ⟨fun _ => by omega, hR.mono ?_⟩
          rintro e W4 (⟨rfl, hJ4, hk4⟩ | ⟨rfl, hJx4⟩)
          · obtain ⟨g1, g2⟩ := hK _ _ hk4
            have hcn4 := g1.trans hcn3
            have hcw4 := g2.trans hcw3
            obtain ⟨fn, tmps, assign, body, hy, hR⟩ := HY.out _ (1, k) W4 hJ4 (by simp; omega)
            dsimp only [encC, kS] at hy
            rw [if_neg (by simp), if_pos rfl] at hy
            clear hk4 g1 g2 hcn3 hcw3 hJ4
            gi_wp2
            refine ⟨fun _ => by omega, hR.mono ?_⟩
            rintro e W5 (⟨rfl, hJ5, hk5⟩ | ⟨rfl, hJx5⟩)
            · obtain ⟨g1, g2⟩ := hK _ _ hk5
              have hcn5 := g1.trans hcn4
              have hcw5 := g2.trans hcw4
              gi_wp2
              go_roundw
              case rel => exact ⟨k + 1, by omega, by simp, by rw [HST.out]; simpa using hJ5, hcn5, hcw5⟩
              case measure => simp [intOf]; omega
            · gi_wp2
              refine bodyPost_ret (results_none rfl _ _ _) rfl ?_
              refine ⟨⟨_, rfl⟩, .inr ⟨_, fun x hx => ?_, hJx5⟩⟩
              simp only [List.append_assoc, List.mem_append, List.mem_cons, List.not_mem_nil, or_false] at hx
              rcases hx with hx | rfl | rfl | rfl
              · exact HM2.out.1 x hx
              · exact HM2.out.2
              · exact (posTo_mem (Nat.le_refl n)).2 ⟨hlt, .inr ⟨.inl rfl, HL.out⟩⟩
              · exact (posTo_mem (Nat.le_refl n)).2 ⟨hlt, .inr ⟨.inr rfl, HL.out⟩⟩
          · gi_wp2
            repeat (refine ⟨fun _ h => (by cases h), ?_⟩; gi_wp2)
            refine bodyPost_ret (results_none rfl _ _ _) rfl ?_
            refine ⟨⟨_, rfl⟩, .inr ⟨_, fun x hx => ?_, hJx4⟩⟩
            simp only [List.append_assoc, List.mem_append, List.mem_cons, List.not_mem_nil, or_false] at hx
            rcases hx with hx | rfl | rfl
            · exact HM2.out.1 x hx
            · exact HM2.out.2
            · exact (posTo_mem (Nat.le_refl n)).2 ⟨hlt, .inr ⟨.inl rfl, HL.out⟩⟩
      · gi_wp2
        refine bodyPost_ret (results_none rfl _ _ _) rfl ?_
        refine ⟨⟨_, rfl⟩, .inr ⟨_, fun x hx => ?_, hJx3⟩⟩
        simp only [List.mem_append, List.mem_singleton] at hx
        rcases hx with hx | rfl
        · exact HM2.out.1 x hx
        · exact HM2.out.2
    · obtain rfl : k = n := by omega
      gi_wp2
      go_end0
      exact ⟨⟨_, rfl⟩, .inl ⟨_, rfl, hJs⟩⟩

theorem possible_stops (q : Nat) (hq : 2 ≤ q) (Bn Bw n n₀ : Nat) (V : Int) (hn : 1 ≤ n ∧ n ≤ 5) (w : World) (h0 : n₀ ≤ w.heap.size) (h1 : Bn < n₀) (h2 : Bw < n₀) (hBn : w.cell? ⟨Bn, 0, none⟩ = some (.int .i64 n)) (hBw : w.cell? ⟨Bw, 0, none⟩ = some (.int .i64 V)) :
    SeqStopsK Fence.wide q Try.prog 105 #[.pointer (some ⟨Bn, 0, none⟩), .pointer (some ⟨Bw, 0, none⟩)] (encC V) (Below n₀) (fun ys => ys = posTo n n) (fun pre => ∀ x ∈ pre, x ∈ posTo n n) 15 w := fun l J Jx W hW _ _ hY hJ =>
  possible_in q hq l Bn Bw n V hn (Below n₀) (fun X Y h => ⟨h.cell (p := ⟨Bn, 0, none⟩) h1, h.cell (p := ⟨Bw, 0, none⟩) h2⟩) J Jx hY W
    ((hW.cell (p := ⟨Bn, 0, none⟩) (by show Bn < _; omega)).trans hBn) ((hW.cell (p := ⟨Bw, 0, none⟩) (by show Bw < _; omega)).trans hBw) hJ

theorem possibleChips_any (n V : Int) (w : World) :
    Calls Try.prog 86 #[.int .i64 n, .int .i64 V] w fun e w' => e = .returned (.func (.func 105) #[] #[.pointer (some ⟨w.heap.size, 0, none⟩), .pointer (some ⟨w.heap.size + 1, 0, none⟩)])
      ∧ w' = (w.alloc (.cells #[.int .i64 n] 3)).alloc (.cells #[.int .i64 V] 3) := by
  go_enter Try.func86, Try.ntmps86
  go_wp2
  go_ret
  exact ⟨rfl, rfl⟩

end Go.Proofs.Ytdodchmelepkeaa
end

section
namespace Go.Proofs.Ytdodchmelepkeaa
open Go.RowKit Go.Deep Go.Shelf
attribute [local go_sem] Oper.semAt_some

def Box3 (W : World) (B : Nat) (K : ByteArray) (L V : Int) : Prop := W.heap[B]? = some (.cells #[.string K, .int .i64 L, .int .i64 V] 52 (0, 0))
theorem Box3.lt {W : World} {B : Nat} {K : ByteArray} {L V : Int} (h : Box3 W B K L V) : B < W.heap.size := (Array.getElem?_eq_some_iff.1 h).1
theorem Box3.cells {W : World} {B : Nat} {K : ByteArray} {L V : Int} (h : Box3 W B K L V) : W.cell? ⟨B, 0, none⟩ = some (.string K) ∧ W.cell? ⟨B, 1, none⟩ = some (.int .i64 L) ∧ W.cell? ⟨B, 2, none⟩ = some (.int .i64 V) := by
  have h' : W.heap[B]? = _ := h
  refine ⟨?_, ?_, ?_⟩ <;> (unfold World.cell?; rw [h']; rfl)
theorem Box3.new (W : World) (K : ByteArray) (L V : Int) : Box3 (W.alloc (.cells #[.string K, .int .i64 L, .int .i64 V] 52)) W.heap.size K L V := World.alloc_heap_new W _
theorem Box3.kept {W W' : World} {row : Option Nat} {B : Nat} {K : ByteArray} {L V : Int} (h : Box3 W B K L V) (hg : W.grownBy W' row) (hne : some B ≠ row) : Box3 W' B K L V := (hg.block B h.lt hne).trans h
theorem Box3.alloc {W : World} {B : Nat} {K : ByteArray} {L V : Int} (h : Box3 W B K L V) (o : Obj) : Box3 (W.alloc o) B K L V := h.kept (World.grownBy_alloc W o none) (by simp)
theorem Box3.own {W W' : World} {row : Option Nat} {B : Nat} {K : ByteArray} {L V : Int} (h : Box3 W B K L V) (hg : W.grownBy W' row) (hr : ∀ r, row = some r → ∃ o : Obj, W.heap[r]? = some o ∧ o.isCells = false) : Box3 W' B K L V := h.kept hg (fun e => by
  obtain ⟨o, ho, hc⟩ := hr B e.symm
  have h' : W.heap[B]? = _ := h
  rw [h'] at ho; cases ho; cases hc)
def isC (K : ByteArray) (L : Int) (x : Nat × Nat) : Prop := K.toList = (kS x.1).toList ∧ L = x.2
theorem kS_list : (kS 0).toList = [117] ∧ (kS 1).toList = [100] ∧ (kS 2).toList = [104] := by decide +kernel
theorem kind_some {n : Nat} {K : ByteArray} {L V : Int} {x : Nat × Nat} (hx : x ∈ posTo n n) (h : isC K L x) : kindB n ⟨K, L, V⟩ = true := by
  obtain ⟨k, i⟩ := x
  obtain ⟨h1, h2⟩ := h
  simp only at h1 h2
  subst h2
  obtain ⟨h3, h4⟩ := (posTo_mem (Nat.le_refl n)).1 hx
  obtain ⟨s0, s1, s2⟩ := kS_list
  unfold kindB inB
  simp only
  rcases h4 with rfl | ⟨rfl | rfl, h5⟩
  · rw [s2] at h1
    rw [if_pos h1]
    exact decide_eq_true ⟨by omega, by omega⟩
  · rw [s0] at h1
    rw [if_neg (by rw [h1]; decide), if_pos (.inl h1)]
    exact decide_eq_true ⟨by omega, by omega⟩
  · rw [s1] at h1
    rw [if_neg (by rw [h1]; decide), if_pos (.inr h1)]
    exact decide_eq_true ⟨by omega, by omega⟩
theorem kind_none {n : Nat} {K : ByteArray} {L V : Int} (h : ∀ x ∈ posTo n n, ¬ isC K L x) : kindB n ⟨K, L, V⟩ = false := by
  obtain ⟨s0, s1, s2⟩ := kS_list
  cases e : kindB n ⟨K, L, V⟩ with
  | false => rfl
  | true =>
    exfalso
    unfold kindB inB at e
    simp only at e
    by_cases hH : K.toList = [104]
    · rw [if_pos hH] at e
      have e := of_decide_eq_true e
      exact h (2, L.toNat) ((posTo_mem (Nat.le_refl n)).2 ⟨by omega, .inl rfl⟩) ⟨by rw [s2]; exact hH, by show L = ((L.toNat : Nat) : Int); omega⟩
    · rw [if_neg hH] at e
      by_cases hu : K.toList = [117]
      · rw [if_pos (.inl hu)] at e
        have e := of_decide_eq_true e
        exact h (0, L.toNat) ((posTo_mem (Nat.le_refl n)).2 ⟨by omega, .inr ⟨.inl rfl, by omega⟩⟩) ⟨by rw [s0]; exact hu, by show L = ((L.toNat : Nat) : Int); omega⟩
      · by_cases hd : K.toList = [100]
        · rw [if_pos (.inr hd)] at e
          have e := of_decide_eq_true e
          exact h (1, L.toNat) ((posTo_mem (Nat.le_refl n)).2 ⟨by omega, .inr ⟨.inr rfl, by omega⟩⟩) ⟨by rw [s1]; exact hd, by show L = ((L.toNat : Nat) : Int); omega⟩
        · rw [if_neg (fun h => h.elim hu hd)] at e
          cases e

set_option maxRecDepth 100000 in
set_option maxHeartbeats 1000000 in
theorem isIn_any (K : ByteArray) (L V : Int) (n : Nat) (hn2 : 2 ≤ n) (hn5 : n ≤ 5) (w : World) :
    Calls Try.prog 49 #[.agg #[.string K, .int .i64 L, .int .i64 V], .int .i64 n] w fun e w' => e = .returned (.bool (chipB n ⟨K, L, V⟩)) ∧ w.Since w.heap.size w' := by
  refine (callsIn_wide (n := 9)).1 ?_
  refine callsIn_of_wp_marks Try.func49 rfl trivial ?_ rfl
  simp only [Try.ntmps49, List.size_toArray, List.length_cons, List.length_nil, Nat.reduceAdd, Nat.reduceSub, Array.replicate_succ, Array.replicate_zero, List.push_toArray, List.append_toArray, List.nil_append, List.cons_append]
  obtain ⟨d1, d2, d3⟩ := chip_box w K L V 52
  gi_wp2_with (first
    | (refine ⟨trivial, ?_⟩; gi_at_call 86; refine (callsIn_wide.2 (possibleChips_any _ _ _)).mono ?_; rintro e w' ⟨rfl, rfl⟩))
  obtain ⟨W0, hW0⟩ : ∃ W0, W0 = ((((w.alloc (.cells #[.string K, .int .i64 L, .int .i64 V] 52)).alloc (.cells #[.bool false] 4)).alloc (.cells #[.int .i64 n] 3)).alloc (.cells #[.int .i64 V] 3)) := ⟨_, rfl⟩
  rw [← hW0]
  have hsz0 : W0.heap.size = w.heap.size + 4 := by rw [hW0]; simp
  have hB0 : Below w.heap.size w W0 := by rw [hW0]; exact ((((Below.refl _ w).alloc (Nat.le_refl _) _).alloc (by simp) _).alloc (by simp; omega) _).alloc (by simp; omega) _
  have b3 : Box3 W0 w.heap.size K L V := by rw [hW0]; exact (((Box3.new w K L V).alloc _).alloc _).alloc _
  have bR : Boxed W0 (w.heap.size + 1) 4 (.bool false) := by
    have h := Boxed.new (w.alloc (.cells #[.string K, .int .i64 L, .int .i64 V] 52)) 4 (.bool false)
    rw [World.size_alloc] at h
    rw [hW0]; exact (h.alloc _).alloc _
  have bN : Boxed W0 (w.heap.size + 1 + 1) 3 (.int .i64 n) := by
    have h := Boxed.new ((w.alloc (.cells #[.string K, .int .i64 L, .int .i64 V] 52)).alloc (.cells #[.bool false] 4)) 3 (.int .i64 n)
    rw [World.size_alloc, World.size_alloc] at h
    rw [hW0]; exact h.alloc _
  have bV : Boxed W0 (w.heap.size + 1 + 1 + 1) 3 (.int .i64 V) := by
    have h := Boxed.new (((w.alloc (.cells #[.string K, .int .i64 L, .int .i64 V] 52)).alloc (.cells #[.bool false] 4)).alloc (.cells #[.int .i64 n] 3)) 3 (.int .i64 V)
    rw [World.size_alloc, World.size_alloc, World.size_alloc] at h
    rw [hW0]; exact h
  clear hW0 d1 d2 d3
  refine wpIn_rangeFunc_ownH (F := Fence.wide) (n := 9) rfl (by omega) (gf := 105) (lb := #[.pointer (some ⟨w.heap.size + 1 + 1, 0, none⟩), .pointer (some ⟨w.heap.size + 1 + 1 + 1, 0, none⟩)]) rfl trivial (enters_of Try.func105 (by kernel_rfl) rfl)
    (possible_stops 8 (by omega) (w.heap.size + 1 + 1) (w.heap.size + 1 + 1 + 1) n W0.heap.size V ⟨by omega, hn5⟩ W0 (Nat.le_refl _) (by omega) (by omega) bN.cell bV.cell)
    (fun h k => h.trans k) (belowK_b (Nat.le_refl _)) (Below.refl _ _) (fun _ => rfl)
    (fun pre W => (Box3 W w.heap.size K L V ∧ Boxed W (w.heap.size + 1) 4 (.bool false) ∧ w.heap.size + 4 ≤ W.heap.size ∧ ∀ x ∈ pre, ¬ isC K L x) ∧ Below w.heap.size w W)
    (fun c pre W => (c = .ret ∧ Boxed W (w.heap.size + 1) 4 (.bool (inB V (-9) 9)) ∧ ∃ x ∈ pre, isC K L x) ∧ Below w.heap.size w W)
    (OwnFrom.and (Own.from (fun s A B row hs hg hr => ⟨hs.1.own hg hr, boxed_own (w.heap.size + 1) 4 (fun (_ : Unit) => Value.bool false) () A B row hs.2.1 hg hr, Nat.le_trans hs.2.2.1 hg.size, hs.2.2.2⟩) _) (ownFrom_below (Nat.le_refl _) (by omega)))
    (fun c => OwnFrom.and (Own.from (fun s A B row hs hg hr => ⟨hs.1, boxed_own (w.heap.size + 1) 4 (fun (_ : Unit) => Value.bool (inB V (-9) 9)) () A B row hs.2.1 hg hr, hs.2.2⟩) _) (ownFrom_below (Nat.le_refl _) (by omega)))
    ⟨⟨b3, bR, by omega, by simp⟩, hB0⟩
    (fun x a' W => ∃ Bx, w.heap.size + 4 ≤ Bx ∧ Box3 W Bx (kS x.1) (x.2 : Int) V ∧ a' = { tmps := #[.agg #[.string K, .int .i64 L, .int .i64 V], .int .i64 n, .pointer (some ⟨w.heap.size, 0, none⟩), undef, .pointer (some ⟨w.heap.size + 1, 0, none⟩), .pointer (some ⟨Bx, 0, none⟩), .int .i64 n, .pointer (some ⟨w.heap.size, 2, none⟩), .int .i64 V, .func (.func 105) #[] #[.pointer (some ⟨w.heap.size + 1 + 1, 0, none⟩), .pointer (some ⟨w.heap.size + 1 + 1 + 1, 0, none⟩)], .agg #[.string (kS x.1), .int .i64 (x.2 : Int), .int .i64 V], undef, undef, undef, undef, undef, undef], defers := [] })
    (fun x a' _ X Y row hs hg hr => by obtain ⟨Bx, h1, h2, h3⟩ := hs; exact ⟨Bx, h1, h2.own hg (fun r e => (hr r e).2), h3⟩)
    ?assign ?body ?done ?stop
  case assign =>
    rintro l2 pre x W Kq ⟨⟨h1, h2, h3, h4⟩, hb⟩ hK
    simp only [encC]
    gi_wp2
    exact hK _ _ ((KeepsOthers.alloc _ _).from _) ((Below.refl _ _).alloc (by omega) _) ⟨⟨h1.alloc _, h2.alloc _, by simp; omega, h4⟩, hb.alloc (by omega) _⟩ ⟨W.heap.size, h3, Box3.new W _ _ _, rfl⟩
  case body =>
    rintro l2 pre x a' W hl ⟨r, hr⟩ ⟨⟨h1, h2, h3, h4⟩, hb⟩ ⟨Bx, hBx, bX, rfl⟩ hlt
    obtain ⟨c1, c2, c3⟩ := h1.cells
    obtain ⟨e1, e2, e3⟩ := bX.cells
    have cR := h2.cell
    have fR := h2.frozen
    have HF := Lib.hid (fun (h : ¬ isC K L x) => show ∀ y ∈ pre ++ [x], ¬ isC K L y from fun y hy => by
      rcases List.mem_append.1 hy with hy | hy
      · exact h4 y hy
      · simp at hy; subst hy; exact h)
    have HT := Lib.hid (fun (h : isC K L x) => show ∃ y ∈ pre ++ [x], isC K L y from ⟨x, by simp, h⟩)
    have H1 := Lib.hid h1
    have H2 := Lib.hid h2
    have HB := Lib.hid hb
    clear h1 h2 h4 hb
    by_cases hk : K.toList = (kS x.1).toList
    · by_cases hL : L = x.2
      · have HC := Lib.hid (HT.out ⟨hk, hL⟩)
        have hL' : (L == (x.2 : Int)) = true := by simpa using hL
        have HLL := Lib.hid hL
        clear hL
        gi_wp2_with (first
          | (refine ⟨trivial, ?_⟩; gi_at_call 46; refine (CallsIn.inRound l2 (callsIn_wide.2 (inRange_any _ _ _ _))).mono ?_; rintro e w' ⟨rfl, rfl⟩))
        exact ⟨(KeepsOthers.setCell _ _ _).from _, ⟨rfl, H2.out.set _, HC.out⟩, HB.out.setCell (p := ⟨w.heap.size + 1, 0, none⟩) (by simp) _⟩
      · have HC := Lib.hid (HF.out (fun h => hL h.2))
        have hL' : (L == (x.2 : Int)) = false := by simpa using hL
        gi_wp2_with fail
        exact ⟨(KeepsOthers.refl _).from _, Below.refl _ _, ⟨H1.out, H2.out, h3, HC.out⟩, HB.out⟩
    · have HC := Lib.hid (HF.out (fun h => hk h.1))
      have hk' : (K.toList == (kS x.1).toList) = false := by simpa using hk
      gi_wp2_with fail
      exact ⟨(KeepsOthers.refl _).from _, Below.refl _ _, ⟨H1.out, H2.out, h3, HC.out⟩, HB.out⟩
  case done =>
    rintro D ys W hD rfl ⟨⟨h1, h2, h3, h4⟩, hb⟩ hK
    have hv : chipB n ⟨K, L, V⟩ = false := by unfold chipB; rw [kind_none h4, Bool.false_and]
    have HV := Lib.hid hv
    have cR := h2.cell
    have fR := h2.frozen
    have H2 := Lib.hid (h2.set (.bool false))
    have HB := Lib.hid hb
    clear h1 h2 h4 hv hb b3 bR bN bV hB0
    gi_wp2
    have hK' := (KeepsOthers.setCell W ⟨w.heap.size + 1, 0, none⟩ (.bool false)).same D _ hK rfl
    refine ⟨by simp, .inl ⟨_, _, rfl, run_takeDeferred hK', ?_⟩⟩
    have hc5 := (H2.out.kept (grownBy_putObj' _ D (.deferred none)) (fun e => by injection e; omega)).cell
    refine ⟨.bool false, ?_, ret_bool HV.out.symm, below_since ((HB.out.setCell (p := ⟨w.heap.size + 1, 0, none⟩) (by simp) _).trans (belowK_b (w := w) (Nat.le_refl _) _ D _ _ (by omega) hK' rfl rfl))⟩
    simp [results, Try.f49, go_sem, hc5]
  case stop =>
    rintro D c pre W hD hpre ⟨⟨rfl, h2, x, hx, hc⟩, hb⟩ hK
    have hv : chipB n ⟨K, L, V⟩ = inB V (-9) 9 := by unfold chipB; rw [kind_some (hpre x hx) hc, Bool.true_and]
    have HV := Lib.hid hv
    have H2 := Lib.hid h2
    have HB := Lib.hid hb
    clear h2 hv hb b3 bR bN bV hB0
    gi_wp2
    refine ⟨by simp, .inl ⟨_, _, rfl, run_takeDeferred hK, ?_⟩⟩
    have hc5 := (H2.out.kept (grownBy_putObj' _ D (.deferred none)) (fun e => by injection e; omega)).cell
    refine ⟨.bool (inB V (-9) 9), ?_, ret_bool HV.out.symm, below_since (HB.out.trans (belowK_b (w := w) (Nat.le_refl _) W D _ _ (by omega) hK rfl rfl))⟩
    simp [results, Try.f49, go_sem, hc5]

end Go.Proofs.Ytdodchmelepkeaa
end

section
namespace Go.Proofs.Ytdodchmelepkeaa
open Go.RowKit Go.Deep

set_option maxRecDepth 100000 in
set_option maxHeartbeats 400000 in
theorem ends_h (K : ByteArray) (L : Nat) (V : Int) (w : World) (hK : K.toList = [104]) :
    Calls Try.prog 93 #[.agg #[.string K, .int .i64 L, .int .i64 V]] w fun e w' => e = .returned (.tuple #[.int .i64 ((L : Nat) : Int), .int .i64 ((L : Nat) : Int)]) ∧ w.Since w.heap.size w' := by
  obtain ⟨d1, d2, d3⟩ := chip_box w K L V 52
  have HS := Lib.hid ((World.Since.refl w.heap.size w).alloc (Nat.le_refl _) (.cells #[.string K, .int .i64 L, .int .i64 V] 52))
  have hq1 : (K.toList == [117]) = false := by rw [hK]; decide
  have hq2 : (K.toList == [100]) = false := by rw [hK]; decide
  go_enter Try.func93, Try.ntmps93
  go_wp2
  go_region
  all_goals
    go_wp2
    go_ret2
    exact ⟨rfl, HS.out.drew⟩

set_option maxRecDepth 100000 in
set_option maxHeartbeats 400000 in
theorem ends_u (K : ByteArray) (L : Nat) (V : Int) (w : World) (hL : L ≤ 10) (hK : K.toList = [117]) :
    Calls Try.prog 93 #[.agg #[.string K, .int .i64 L, .int .i64 V]] w fun e w' => e = .returned (.tuple #[.int .i64 ((L : Nat) : Int), .int .i64 (((L + 1) : Nat) : Int)]) ∧ w.Since w.heap.size w' := by
  obtain ⟨d1, d2, d3⟩ := chip_box w K L V 52
  have HS := Lib.hid ((World.Since.refl w.heap.size w).alloc (Nat.le_refl _) (.cells #[.string K, .int .i64 L, .int .i64 V] 52))
  have hw1 : IntKind.i64.wrap ((L : Int) + 1) = (L : Int) + 1 := IntWalk.i64_in _ ⟨by omega, by omega⟩
  go_enter Try.func93, Try.ntmps93
  go_wp2
  go_region
  all_goals
    go_wp2
    go_ret2
    exact ⟨rfl, HS.out.drew⟩

set_option maxRecDepth 100000 in
set_option maxHeartbeats 400000 in
theorem ends_d (K : ByteArray) (L : Nat) (V : Int) (w : World) (hL : L ≤ 10) (hK : K.toList = [100]) :
    Calls Try.prog 93 #[.agg #[.string K, .int .i64 L, .int .i64 V]] w fun e w' => e = .returned (.tuple #[.int .i64 (((L + 1) : Nat) : Int), .int .i64 ((L : Nat) : Int)]) ∧ w.Since w.heap.size w' := by
  obtain ⟨d1, d2, d3⟩ := chip_box w K L V 52
  have HS := Lib.hid ((World.Since.refl w.heap.size w).alloc (Nat.le_refl _) (.cells #[.string K, .int .i64 L, .int .i64 V] 52))
  have hq1 : (K.toList == [117]) = false := by rw [hK]; decide
  have hw1 : IntKind.i64.wrap ((L : Int) + 1) = (L : Int) + 1 := IntWalk.i64_in _ ⟨by omega, by omega⟩
  go_enter Try.func93, Try.ntmps93
  go_wp2
  go_region
  all_goals
    go_wp2
    go_ret2
    exact ⟨rfl, HS.out.drew⟩

theorem ends_any (c : RC) (w : World) (hok : RCok c) :
    Calls Try.prog 93 #[.agg #[.string c.k, .int .i64 c.l, .int .i64 c.w]] w fun e w' => e = .returned (.tuple #[.int .i64 (chR (toC c) : Nat), .int .i64 (chK (toC c) : Nat)]) ∧ w.Since w.heap.size w' := by
  obtain ⟨K, l, V⟩ := c
  obtain ⟨hk, hl, hv⟩ := hok
  simp only at hk hl hv
  obtain ⟨L, rfl⟩ : ∃ L : Nat, l = L := ⟨l.toNat, by omega⟩
  rcases hk with h | h | h
  · rw [toC_h h]
    exact ends_h K L V w h
  · have e : toC ⟨K, (L : Int), V⟩ = (0, L, V) := by unfold toC; simp [h]
    rw [e]
    exact ends_u K L V w (by omega) h
  · have e : toC ⟨K, (L : Int), V⟩ = (1, L, V) := by unfold toC; simp [h]
    rw [e]
    exact ends_d K L V w (by omega) h

set_option maxHeartbeats 400000 in
theorem chipTurned_any (c : RC) (w : World) :
    Calls Try.prog 74 #[.agg #[.string c.k, .int .i64 c.l, .int .i64 c.w]] w fun e w' => e = .returned (.agg #[.string (trC c).k, .int .i64 (trC c).l, .int .i64 (trC c).w]) ∧ w.Since w.heap.size w' := by
  obtain ⟨K, L, V⟩ := c
  obtain ⟨d1, d2, d3⟩ := chip_box w K L V 52
  have HS := Lib.hid (fun (Y : ByteArray) (Z : Obj) => (((World.Since.refl w.heap.size w).alloc (Nat.le_refl _) (.cells #[.string Y, .int .i64 L, .int .i64 V] 52)).alloc (by simp) Z))
  unfold trC
  simp only
  by_cases hu : K.toList = [117]
  · rw [if_pos hu]
    go_enter Try.func74, Try.ntmps74
    go_wp2
    exact bodyPost_ret (v := .agg #[.string kD, .int .i64 L, .int .i64 V]) (by simp [results, Try.f74, go_sem]) rfl ⟨rfl, HS.out _ _⟩
  · rw [if_neg hu]
    have hub : (K.toList == [117]) = false := by simpa using hu
    by_cases hd : K.toList = [100]
    · rw [if_pos hd]
      clear hu
      go_enter Try.func74, Try.ntmps74
      go_wp2
      exact bodyPost_ret (v := .agg #[.string kU, .int .i64 L, .int .i64 V]) (by simp [results, Try.f74, go_sem]) rfl ⟨rfl, HS.out _ _⟩
    · rw [if_neg hd]
      have hdb : (K.toList == [100]) = false := by simpa using hd
      clear hu hd
      go_enter Try.func74, Try.ntmps74
      go_wp2
      exact bodyPost_ret (v := .agg #[.string K, .int .i64 L, .int .i64 V]) (by simp [results, Try.f74, go_sem]) rfl ⟨rfl, HS.out _ _⟩

set_option maxRecDepth 100000 in
set_option maxHeartbeats 400000 in
theorem chipTable_any (c : RC) (n : Nat) (w : World) (h1 : 1 ≤ n) (h5 : n ≤ 5) (hok : RCok c ∧ chOk n (toC c)) :
    Calls Try.prog 58 #[.agg #[.string c.k, .int .i64 c.l, .int .i64 c.w], .int .i64 n] w fun e w' => ∃ a cap, e = .returned (.slice a n cap) ∧ w.Since w.heap.size w' ∧ MatR w' a (chT n (chR (toC c)) (chK (toC c)) (toC c).2.2) := by
  have EE := fun (W : World) => ends_any c W hok.1
  obtain ⟨hr, hk⟩ := chRK hok.2
  rw [toC_w]
  obtain ⟨r, hrr⟩ : ∃ r, chR (toC c) = r := ⟨_, rfl⟩
  obtain ⟨k, hkk⟩ : ∃ k, chK (toC c) = k := ⟨_, rfl⟩
  rw [hrr] at hr ⊢
  rw [hkk] at hk ⊢
  simp only [hrr, hkk] at EE
  obtain ⟨K, L, V⟩ := c
  simp only at EE ⊢
  replace EE := Lib.hid EE
  obtain ⟨d1, d2, d3⟩ := chip_box w K L V 52
  have HS := Lib.hid ((World.Since.refl w.heap.size w).alloc (Nat.le_refl _) (.cells #[.string K, .int .i64 L, .int .i64 V] 52))
  have E := Lib.hid (fun (W : World) => unitTable_any n (by omega) W)
  have HUL := Lib.hid (unitL_length n n)
  have HUR := Lib.hid (unit_row hr)
  have hmix : Try.prog.follows .mixedOrders = true := by kernel_rfl
  clear hrr hkk hok
  go_enter Try.func58, Try.ntmps58
  go_wp2_with (first
    | (go_at_call 56; refine (E.out _).mono ?_; rintro e w1 ⟨rfl, hs1, ho1⟩; have e2 := (hs1.cell (a := ⟨w.heap.size, 1, none⟩) (by simp)).trans d2; have e3 := (hs1.cell (a := ⟨w.heap.size, 2, none⟩) (by simp)).trans d3; have e1 := (hs1.cell (a := ⟨w.heap.size, 0, none⟩) (by simp)).trans d1; have HSA := Lib.hid (HS.out.trans (since_mono hs1 HS.out.size)); have HO1 := Lib.hid ho1; clear hs1 ho1)
    | (go_at_call 93; refine (EE.out _).mono ?_; rintro e w2 ⟨rfl, hs2⟩; obtain ⟨b, g, c, hbq, t1, t2, t3, t4, t5⟩ := (HO1.out.since hs2).put (r := r) (k := k) (by rw [HUL.out]; exact hr) (by rw [HUR.out]; exact hk); rw [HUR.out] at t1; simp only [Option.some.injEq, Addr.mk.injEq, and_true, World.size_alloc] at hbq; subst hbq; rw [World.size_alloc] at t5; have HT5 := Lib.hid t5; have f3 := (hs2.cell (a := ⟨w.heap.size, 2, none⟩) (World.block_lt_of_cell? _ _ e3)).trans e3; have HSB := Lib.hid (HSA.out.trans (since_mono hs2 HSA.out.size)); have HG := Lib.hid t4; clear hs2 t5 t4 e1 e2 e3))
  go_still_tail 8, hmix
  go_wp2
  go_ret
  exact ⟨_, _, rfl, (HSB.out.setCell (a := ⟨g, k, none⟩) (by have := HG.out.1; simp at this; show w.heap.size ≤ g; omega) _).drew, HT5.out V⟩

end Go.Proofs.Ytdodchmelepkeaa
end

section
namespace Go.Proofs.Ytdodchmelepkeaa
open Go.RowKit Go.Deep

set_option maxHeartbeats 400000 in
theorem netIn1_any (K : ByteArray) (L V : Int) (n Bn : Nat) (hn2 : 2 ≤ n) (hn5 : n ≤ 5) (w : World) (hb : w.cell? ⟨Bn, 0, none⟩ = some (.int .i64 n)) :
    Calls Try.prog 48 #[.agg #[.string K, .int .i64 L, .int .i64 V], .pointer (some ⟨Bn, 0, none⟩)] w fun e w' => e = .returned (.bool (!chipB n ⟨K, L, V⟩)) ∧ w.Since w.heap.size w' := by
  have E := Lib.hid (fun (W : World) => isIn_any K L V n hn2 hn5 W)
  obtain ⟨d1, d2, d3⟩ := chip_box w K L V 52
  have HS := Lib.hid ((World.Since.refl w.heap.size w).alloc (Nat.le_refl _) (.cells #[.string K, .int .i64 L, .int .i64 V] 52))
  have hb' := cell_alloc_l (.cells #[.string K, .int .i64 L, .int .i64 V] 52) hb
  clear hb
  go_enter Try.func48, Try.ntmps48
  go_wp2_with (go_at_call 49; refine (E.out _).mono ?_; rintro e w1 ⟨rfl, hs1⟩; have HS1 := Lib.hid (HS.out.trans (since_mono hs1 HS.out.size)); clear hs1)
  go_ret
  exact ⟨rfl, HS1.out⟩

theorem all_no {n : Int} {cs : List RC} {i : Nat} (hi : i < cs.length) (h : chipB n (cs.getD i rc0) = false) : cs.all (chipB n) = false := by
  cases e : cs.all (chipB n) with
  | false => rfl
  | true =>
    have h1 := List.all_eq_true.1 e (cs.getD i rc0) (by
      have : cs.getD i rc0 = cs[i] := by simp [List.getD, hi]
      rw [this]; exact List.getElem_mem _)
    rw [h] at h1; cases h1
theorem all_yes {n : Int} {cs : List RC} (h : ∀ i, i < cs.length → chipB n (cs.getD i rc0) = true) : cs.all (chipB n) = true := List.all_eq_true.2 fun c hc => by
  obtain ⟨i, hi, e⟩ := List.mem_iff_getElem.1 hc
  have := h i hi
  rw [show cs.getD i rc0 = cs[i] by simp [List.getD, hi], e] at this
  exact this

def IdxPost (b : Bool) (w : World) (e : Ending) (w' : World) : Prop := ∃ z : Int, e = .returned (.int .i64 z) ∧ decide (0 ≤ z) = !b ∧ w.Since w.heap.size w'

set_option maxRecDepth 100000 in
set_option maxHeartbeats 400000 in
theorem indexF_any (a : Option Addr) (cap N n Bn : Nat) (cs : List RC) (w : World) (hN : cs.length = N) (h10 : N ≤ 10) (hn2 : 2 ≤ n) (hn5 : n ≤ 5) (hm : ChipsR w a cs) (hb : w.cell? ⟨Bn, 0, none⟩ = some (.int .i64 n)) :
    Calls Try.prog 85 #[.slice a N cap, .func (.func 48) #[] #[.pointer (some ⟨Bn, 0, none⟩)]] w (IdxPost (cs.all (chipB n)) w) := by
  have E := Lib.hid (fun (W : World) (hs : w.Since w.heap.size W) (K : ByteArray) (L V : Int) => netIn1_any K L V n Bn hn2 hn5 W ((hs.cell (World.block_lt_of_cell? _ _ hb)).trans hb))
  have HN := Lib.hid hN
  have HM := Lib.hid hm
  have HF := Lib.hid (fun (i : Nat) (hi : i < N) h => all_no (n := n) (cs := cs) (i := i) (by omega) h)
  have HT := Lib.hid (fun h => all_yes (n := (n : Int)) (cs := cs) h)
  clear hN hm hb
  go_enter Try.func85, Try.ntmps85
  go_wp2_with fail
  go_loopg [5, 8] N (fun g _ i wr => ∃ r : Nat, r ≤ N ∧ g = N - r ∧ i = .int .i64 r ∧ w.Since w.heap.size wr ∧ ∀ j, j < r → chipB n (cs.getD j rc0) = true)
  case atStart => exact ⟨0, Nat.zero_le _, rfl, rfl, World.Since.refl _ _, fun j hj => by omega⟩
  case round =>
    obtain ⟨r, hr, rfl, rfl, hS, hall⟩ := hrel
    by_cases hlt : r < N
    · obtain ⟨b, o, rfl, k1, k2, k3⟩ := HM.out.at (show r < cs.length by rw [HN.out]; exact hlt)
      have c1 := (hS.cell (World.block_lt_of_cell? _ _ k1)).trans k1
      have c2 := (hS.cell (World.block_lt_of_cell? _ _ k2)).trans k2
      have c3 := (hS.cell (World.block_lt_of_cell? _ _ k3)).trans k3
      have hf := HF.out r hlt
      have ht := fun (h : chipB n (cs.getD r rc0) = true) => show ∀ j, j < r + 1 → chipB n (cs.getD j rc0) = true from fun j hj => by
        by_cases e : j = r
        · subst e; exact h
        · exact hall j (by omega)
      obtain ⟨c, hc⟩ : ∃ c, cs.getD r rc0 = c := ⟨_, rfl⟩
      rw [hc] at c1 c2 c3 hf ht
      obtain ⟨K, L, V⟩ := c
      simp only at c1 c2 c3
      have E1 := E.out wr hS K L V
      have HS := Lib.hid hS
      have HTT := Lib.hid ht
      cases hcb : chipB n ⟨K, L, V⟩ with
      | false =>
        have HFF := Lib.hid (hf hcb)
        rw [hcb] at E1
        replace E1 := Lib.hid E1
        clear k1 k2 k3 hc hcb hf hall hS ht
        go_wp2_with (go_at_call 48; refine (E1.out).mono ?_; rintro e w1 ⟨rfl, hs1⟩; have HS1 := Lib.hid (HS.out.trans (since_mono hs1 HS.out.size)); clear hs1)
        go_ret
        exact ⟨_, rfl, by rw [HFF.out]; simp, HS1.out⟩
      | true =>
        rw [hcb] at E1
        replace E1 := Lib.hid E1
        have HTA := Lib.hid (ht hcb)
        clear k1 k2 k3 hc hcb hf hall hS ht HTT
        go_wp2_with (go_at_call 48; refine (E1.out).mono ?_; rintro e w1 ⟨rfl, hs1⟩; have HS1 := Lib.hid (HS.out.trans (since_mono hs1 HS.out.size)); clear hs1)
        go_roundg (N - (r + 1))
        case measure => omega
        case rel => exact ⟨r + 1, by omega, rfl, by go_num, HS1.out, HTA.out⟩
    · obtain rfl : r = N := by omega
      have HTA := Lib.hid (HT.out (fun i hi => hall i (by rw [HN.out] at hi; exact hi)))
      have HS := Lib.hid hS
      clear hall hS
      go_wp2_with fail
      go_ret
      exact ⟨_, rfl, by rw [HTA.out]; rfl, HS.out⟩

set_option maxHeartbeats 400000 in
theorem containsF_any (a : Option Addr) (cap N n Bn : Nat) (cs : List RC) (w : World) (hN : cs.length = N) (h10 : N ≤ 10) (hn2 : 2 ≤ n) (hn5 : n ≤ 5) (hm : ChipsR w a cs) (hb : w.cell? ⟨Bn, 0, none⟩ = some (.int .i64 n)) :
    Calls Try.prog 47 #[.slice a N cap, .func (.func 48) #[] #[.pointer (some ⟨Bn, 0, none⟩)]] w fun e w' => e = .returned (.bool (!cs.all (chipB n))) ∧ w.Since w.heap.size w' := by
  have E := Lib.hid (indexF_any a cap N n Bn cs w hN h10 hn2 hn5 hm hb)
  obtain ⟨b, hbb⟩ : ∃ b, cs.all (chipB n) = b := ⟨_, rfl⟩
  rw [hbb] at E ⊢
  clear hbb hN hm hb
  go_enter Try.func47, Try.ntmps47
  go_wp2_with (go_at_call 85; refine (E.out).mono ?_; rintro e w1 ⟨z, rfl, hz, hs1⟩; have HZ := Lib.hid hz; have HS1 := Lib.hid hs1; clear hs1 hz)
  go_ret
  exact ⟨ret_bool HZ.out, HS1.out⟩

set_option maxHeartbeats 400000 in
theorem implNetIn_any (a : Option Addr) (cap N : Nat) (n : Int) (cs : List RC) (w : World) (hN : cs.length = N) (h63 : N ≤ 9223372036854775807) (hm : ChipsR w a cs) :
    Calls Try.prog 16 #[.int .i64 n, .slice a N cap] w fun e w' => e = .returned (.bool (netB n cs)) ∧ w.Since w.heap.size w' := by
  have hv : netB n cs = (inB n 2 5 && (decide (N ≤ 10) && cs.all (chipB n))) := by unfold netB; rw [hN]
  have HS := Lib.hid ((World.Since.refl w.heap.size w).alloc (Nat.le_refl _) (.cells #[.int .i64 n] 3))
  have hbx := (cell_new_l w (.int .i64 n) 3).1
  obtain ⟨b, hbb⟩ : ∃ b, inB n 2 5 = b := ⟨_, rfl⟩
  rw [hbb] at hv
  have E := fun (W : World) => inRange_any n 2 5 W
  simp only [hbb] at E
  replace E := Lib.hid E
  cases b with
  | false =>
    rw [hv, Bool.false_and]
    clear hv hbb hN hm
    go_enter Try.func16, Try.ntmps16
    go_wp2_with (go_at_call 46; refine (E.out _).mono ?_; rintro e w' ⟨rfl, rfl⟩)
    go_ret
    exact ⟨rfl, HS.out⟩
  | true =>
    unfold inB at hbb
    have hbb := of_decide_eq_true hbb
    obtain ⟨m, rfl⟩ : ∃ m : Nat, n = m := ⟨n.toNat, by omega⟩
    rw [Bool.true_and] at hv
    by_cases h10 : N ≤ 10
    · rw [decide_eq_true h10, Bool.true_and] at hv
      have hl' : decide ((10 : Int) < (N : Int)) = false := by simp; omega
      have E2 := Lib.hid (containsF_any a cap N m w.heap.size cs (w.alloc (.cells #[.int .i64 m] 3)) hN h10 (by omega) (by omega) (hm.since ((World.Since.refl w.heap.size w).alloc (Nat.le_refl _) _)) hbx)
      obtain ⟨q, hq⟩ : ∃ q, cs.all (chipB m) = q := ⟨_, rfl⟩
      rw [hq] at hv E2
      rw [hv]
      clear hv hbb hN hm hq
      go_enter Try.func16, Try.ntmps16
      go_wp2_with (first
        | (go_at_call 46; refine (E.out _).mono ?_; rintro e w' ⟨rfl, rfl⟩)
        | (go_at_call 47; refine (E2.out).mono ?_; rintro e w1 ⟨rfl, hs1⟩; have HS1 := Lib.hid (HS.out.trans (since_mono hs1 HS.out.size)); clear hs1))
      go_ret
      exact ⟨by simp, HS1.out⟩
    · rw [decide_eq_false h10, Bool.false_and] at hv
      have hl' : decide ((10 : Int) < (N : Int)) = true := by simp; omega
      rw [hv]
      clear hv hbb hN hm
      go_enter Try.func16, Try.ntmps16
      go_wp2_with (go_at_call 46; refine (E.out _).mono ?_; rintro e w' ⟨rfl, rfl⟩)
      go_ret
      exact ⟨rfl, HS.out⟩

end Go.Proofs.Ytdodchmelepkeaa
end

section
namespace Go.Proofs.Ytdodchmelepkeaa
open Go.RowKit Go.Deep

set_option maxRecDepth 100000 in
set_option maxHeartbeats 400000 in
theorem implNetTable_any (a : Option Addr) (cap N : Nat) (n : Int) (cs : List RC) (w : World) (hN : cs.length = N) (h63 : N ≤ 9223372036854775807) (hm : ChipsR w a cs) :
    Calls Try.prog 19 #[.int .i64 n, .slice a N cap] w fun e w' => ∃ a' cap', e = .returned (.tuple #[.slice a' (ntabL n cs).length cap', .bool (ntabB n cs)]) ∧ w.Since w.heap.size w' ∧ OwnT w.heap.size w'.heap.size w' a' (ntabL n cs) := by
  have E := implNetIn_any a cap N n cs w hN h63 hm
  cases hb : netB n cs with
  | false =>
    have hf : ntabB n cs = false := by unfold ntabB; rw [hb, Bool.false_and]
    unfold ntabL
    rw [hf]
    rw [hb] at E
    replace E := Lib.hid E
    clear hb hm hN hf
    go_enter Try.func19, Try.ntmps19
    go_wp2_with (go_at_call 16; refine (E.out).mono ?_; rintro e w1 ⟨rfl, hs1⟩; have HS1 := Lib.hid hs1; clear hs1)
    go_ret2
    exact ⟨_, _, rfl, HS1.out, OwnT.nil _ _ _ _⟩
  | true =>
    obtain ⟨m, rfl, ho⟩ := netB_ok hb
    rw [hb] at E
    replace E := Lib.hid E
    have hn2 := ho.lo
    have hn5 := ho.hi
    have h10 := ho.len
    rw [hN] at h10
    have hfB : ntabB m cs = tabIn (outC m cs) := by unfold ntabB; rw [hb, Bool.true_and]; rfl
    have hfL : ntabL m cs = resT (tabIn (outC m cs)) (outC m cs) := by unfold ntabL; rw [hfB]; rfl
    rw [hfB, hfL]
    have HN := Lib.hid hN
    have HM := Lib.hid hm
    have HO := Lib.hid ho
    have EU := Lib.hid (fun (W : World) => unitTable_any m (by omega) W)
    clear hb hm hN ho hfB hfL
    go_enter Try.func19, Try.ntmps19
    go_wp2_with (first
      | (go_at_call 16; refine (E.out).mono ?_; rintro e w1 ⟨rfl, hs1⟩; have HS1 := Lib.hid hs1; clear hs1)
      | (go_at_call 56; refine (EU.out _).mono ?_; rintro e w2 ⟨rfl, hs2, hu2⟩; have HS2 := Lib.hid (HS1.out.trans (since_mono hs2 HS1.out.size)); have HU2 := Lib.hid (hu2.mono HS1.out.size (Nat.le_refl _)); clear hs2 hu2))
    go_loopg [6, 8, 17] N (fun g v _ i wr => ∃ (r : Nat) (a' : Option Addr) (cap' : Nat), r ≤ N ∧ g = N - r ∧ i = .int .i64 r ∧ v = .slice a' m cap' ∧ w.Since w.heap.size wr ∧ OwnT w.heap.size wr.heap.size wr a' (outC m (cs.take r)))
    case atStart => exact ⟨0, _, _, Nat.zero_le _, rfl, rfl, rfl, HS2.out, by show OwnT _ _ _ _ (outT m []); rw [outT_nil]; exact HU2.out⟩
    case round =>
      obtain ⟨r, a', cap', hr, rfl, rfl, rfl, hS, hT⟩ := hrel
      by_cases hlt : r < N
      · have hlt' : r < cs.length := by rw [HN.out]; exact hlt
        obtain ⟨b, o, rfl, k1, k2, k3⟩ := HM.out.at hlt'
        have c1 := (hS.cell (World.block_lt_of_cell? _ _ k1)).trans k1
        have c2 := (hS.cell (World.block_lt_of_cell? _ _ k2)).trans k2
        have c3 := (hS.cell (World.block_lt_of_cell? _ _ k3)).trans k3
        have hmem : cs.getD r rc0 ∈ cs := by
          have : cs.getD r rc0 = cs[r] := by simp [List.getD, hlt']
          rw [this]; exact List.getElem_mem _
        have ET := Lib.hid (fun (W : World) => chipTable_any (cs.getD r rc0) m W (by omega) hn5 (HO.out.ok _ hmem))
        have hstep := outC_step HO.out hlt'
        have hrec2 := chT_rec (v := (toC (cs.getD r rc0)).2.2) (k := chK (toC (cs.getD r rc0))) (show 1 ≤ m by omega) (show m ≤ 6 by omega) (chRK (HO.out.ok _ hmem).2).1
        have hlen2 := chT_length m (chR (toC (cs.getD r rc0))) (chK (toC (cs.getD r rc0))) (toC (cs.getD r rc0)).2.2
        have hrow2 := chT_row (v := (toC (cs.getD r rc0)).2.2) (k := chK (toC (cs.getD r rc0))) (chRK (HO.out.ok _ hmem).2).1 (show 0 < m by omega)
        have hbd := outC_bd HO.out hlt'
        obtain ⟨c, hcc⟩ : ∃ c, cs.getD r rc0 = c := ⟨_, rfl⟩
        rw [hcc] at c1 c2 c3 ET hstep hrec2 hlen2 hrow2 hbd
        obtain ⟨U, hU⟩ : ∃ U, chT m (chR (toC c)) (chK (toC c)) (toC c).2.2 = U := ⟨_, rfl⟩
        rw [hU] at ET hstep hrec2 hlen2 hrow2 hbd
        have EM := Lib.hid (fun (W : World) (a2 : Option Addr) (cp2 : Nat) (h1 : wr.Since wr.heap.size W) (h2 : MatR W a2 U) => productT_any a' cap' m (outC m (cs.take r)) a2 cp2 m U W (outT_length _ _) (outT_rec (by omega) (by omega) _) (hT.since h1).matR hlen2 hrec2 (outT_row _ (by omega)) h2 (fun i j k hi hj hk => hbd i j k hi hj (by rw [hrow2] at hk; exact hk)))
        rw [hstep] at EM
        have HS' := Lib.hid hS
        clear k1 k2 k3 hstep hrec2 hlen2 hrow2 hbd hU hT hS hcc hmem hlt'
        obtain ⟨K, L, V⟩ := c
        simp only at c1 c2 c3 ET
        obtain ⟨d1, d2, d3⟩ := chip_box wr K L V 52
        have HA := Lib.hid ((World.Since.refl wr.heap.size wr).alloc (Nat.le_refl _) (.cells #[.string K, .int .i64 L, .int .i64 V] 52))
        go_wp2_with (first
          | (go_at_call 58; refine (ET.out _).mono ?_; rintro e w3 ⟨a3, cp3, rfl, hs3, hm3⟩; have H3 := Lib.hid (And.intro (HA.out.trans (since_mono hs3 HA.out.size)) hm3); clear hs3 hm3)
          | (go_at_call 57; refine (EM.out _ _ _ H3.out.1 H3.out.2).mono ?_; rintro e w4 ⟨rfl, hs4, ho4⟩; have H4 := Lib.hid (And.intro (H3.out.1.trans (since_mono hs4 H3.out.1.size)) (ho4.mono H3.out.1.size (Nat.le_refl _))); clear hs4 ho4))
        go_roundg (N - (r + 1))
        case measure => omega
        case rel => exact ⟨r + 1, _, _, by omega, rfl, by go_num, rfl, HS'.out.trans (since_mono H4.out.1 HS'.out.size), H4.out.2.mono HS'.out.size (Nat.le_refl _)⟩
      · obtain rfl : r = N := by omega
        rw [List.take_of_length_le (by rw [HN.out]; exact Nat.le_refl _)] at hT
        have ED := Lib.hid (result_any a' cap' m w.heap.size wr.heap.size (outC m cs) wr (outT_length _ _) (szL_outT hn5 _) hT)
        have HS' := Lib.hid hS
        clear hT hS
        go_wp2_with (go_at_call 59; refine (ED.out).mono ?_; rintro e w3 ⟨a3, cp3, rfl, hs3, hm3⟩; have H3 := Lib.hid (And.intro (HS'.out.trans (since_mono hs3 HS'.out.size)) (hm3.mono (Nat.le_refl _) hs3.size)); clear hs3 hm3)
        go_ret2
        exact ⟨_, _, rfl, H3.out.1, H3.out.2⟩

end Go.Proofs.Ytdodchmelepkeaa
end

section
namespace Go.Proofs.Ytdodchmelepkeaa
open Go.RowKit Go.Deep

theorem szL_net (ok : Bool) (l : List (List Int)) (h : ok = true → szL l ≤ 1048576) : szL (resT ok l) ≤ 1048576 := by
  cases ok
  · simp [resT, szL, sumTo]
  · exact h rfl

theorem szL_tabIn {l : List (List Int)} (h : tabIn l = true) : szL l ≤ 1048576 := by
  have hT := tabIn_of h
  have hw := hT.width
  have h6 := hT.2.1
  have := sumTo_le_mul l 6 (fun r hr => by have := hT.row hr; omega) l.length (Nat.le_refl _)
  unfold szL
  have : l.length * 6 ≤ 36 := by omega
  omega

theorem lawNetTable (x : Int) (a : Option Addr) (cap n : Nat) (l : List RC) (w : World) (hn : l.length = n) (h63 : n ≤ 9223372036854775807) (hs : ShortL l) (hm : ChipsR w a l) :
    Calls Try.prog 4 #[.int .i64 x, .slice a n cap] w fun e w' => e = .returned (.bool true) ∧ w.Since w.heap.size w' :=
  lawNetTable_aux x a cap n l (ntabB x l) (ntabL x l) w hn h63 hs hm (szL_net _ _ fun h => szL_tabIn (by unfold ntabB at h; simp at h; exact h.2))
    (fun _ W b c _ _ _ hb => specNetTable_any b c n x l W hn h63 hb) (fun _ W b c _ _ _ hb => implNetTable_any b c n x l W hn h63 hb)

end Go.Proofs.Ytdodchmelepkeaa
end

section
namespace Go.Proofs.Ytdodchmelepkeaa
open Go.ChangeShapes Go.WideShapes Go.ChangeAt Go.RowKit Go.Deep

theorem below_since' {B : Nat} {w w' : World} (h : Below B w w') : w.Since B w' := ⟨h.os, h.tape, h.output, h.size, h.block⟩
theorem since_below' {B : Nat} {w w' : World} (h : w.Since B w') : Below B w w' := ⟨h.os, h.tape, h.output, h.size, h.block⟩

section
variable {H : Type} {enc : TypeId × Value → H} {P : Program}
theorem post_of_below {f : Func} {s : ChangeSpec} {apart fresh handsOn again : Bool} {W W' : World} {args : Array Value} {v : Value} {ds gs : List (DataW H)} {before pa pv : List MemPlace}
    (hW : DataW.Whole enc P f.params.toList s.vars apart W args.toList ds gs before)
    (hres : ∀ (b : Nat) (sp : Nat → Bool) (hd : Bool), DataW.TrodAll enc P W' b sp hd f.resultTypes.toList (v.resultList f.resultTypes.size) (s.fn H (ds ++ gs)).results [])
    (hargs : ∀ sp : Nat → Bool, (∀ p ∈ before, sp p.block = true) → DataW.TrodAll enc P W' 0 sp true f.params.toList args.toList (s.fn H (ds ++ gs)).args pa)
    (hvars : ∀ sp : Nat → Bool, (∀ p ∈ before, sp p.block = true) → DataW.TrodVars enc P W' sp s.vars (s.fn H (ds ++ gs)).vars pv)
    (hps : before = pa ++ pv) (hb : Below W.heap.size W W') (hag : again = false) :
    s.post enc P f apart fresh handsOn again W args v W' := by
  have hlt : ∀ p ∈ before, p.block < W.heap.size := fun p hp => hW.lt p hp
  have hold : ∀ p ∈ before, (fun b => decide (b < W.heap.size)) p.block = true := fun p hp => by simpa using hlt p hp
  refine ⟨ds, gs, before, [], pa, pv, hW, hres _ _ _, hargs _ hold, hvars _ hold, World.keptBut_mono (fun p hp => ⟨hp, ?_⟩) (hb.frame (· ∈ before)), fun h => ?_⟩
  · rw [hps, List.mem_append] at hp
    exact Or.inr hp
  · rw [hag] at h; cases h

theorem open_mat {W : World} {t e q : TypeId} {a : Option Addr} {n cap : Nat} {d : DataW H} {p : List MemPlace} (ht : P.underlying t = some (.slice e)) (he : P.underlying e = some (.slice q)) (hq : P.underlying q = some (.int .i64))
    (ce : P.cellsOf e = 1) (cq : P.cellsOf q = 1) (h : DataW.Trod enc P W 0 (fun _ => true) true t (.slice a n cap) d p) :
    ∃ l : List (List Int), l.length = n ∧ MatR W a l ∧ n ≤ 9223372036854775807 ∧ ∀ r, r < l.length → (l.getD r []).length ≤ 9223372036854775807 := by
  obtain ⟨fuel, hf⟩ := h
  rcases open_int_rows ht he hq ce cq hf with ⟨hcs, _⟩ | ⟨a', len', cap', A, L, C, Z, hcs, _, hl, hm, _, hrows⟩
  · simp [Value.cells] at hcs
    obtain ⟨rfl, rfl, rfl⟩ := hcs
    exact ⟨[], rfl, (fun h => by simp at h), by omega, fun r hr => by simp at hr⟩
  · simp [Value.cells] at hcs
    obtain ⟨rfl, rfl, rfl⟩ := hcs
    have hmx : maxLen = 9223372036854775807 := rfl
    have hlen : ∀ r, r < n → ((Z r).take (L r)).length = L r := fun r hr => by
      obtain ⟨_, h1, _, h2, _⟩ := hrows r (by omega)
      rw [List.length_take]; omega
    have hget : ∀ r, r < n → ((List.range n).map fun r => (Z r).take (L r)).getD r [] = (Z r).take (L r) := fun r hr => by simp [List.getD, hr]
    refine ⟨(List.range n).map fun r => (Z r).take (L r), by simp, fun h => ?_, by omega, fun r hr => ?_⟩
    · obtain ⟨b, o, spot⟩ := a'
      simp at h
      have hspot : spot = none := by simpa [Addr.add] using World.cell?_spot (hrows 0 (by omega)).1
      subst hspot
      refine ⟨b, o, A, C, rfl, fun r hr => ?_⟩
      simp at hr
      rw [hget r hr, hlen r hr]
      obtain ⟨g1, g2, g3, g4, g5, g6, g7⟩ := hrows r (by omega)
      refine ⟨by rw [← add_plain]; exact g1, fun h0 => ?_⟩
      rw [hlen r hr] at h0
      cases hA : A r with
      | none => have := g6 hA; omega
      | some a'' =>
        obtain ⟨_, hcell⟩ := g7 a'' hA
        obtain ⟨b', o', sp⟩ := a''
        have hs : sp = none := by simpa [Addr.add] using World.cell?_spot (hcell 0 (by omega))
        subst hs
        refine ⟨b', o', rfl, fun i hi => ?_⟩
        rw [hlen r hr] at hi
        rw [← add_plain, hcell i (by omega)]
        congr 2
        simp [List.getD, hi]
    · simp at hr
      rw [hget r hr, hlen r hr]
      obtain ⟨_, h1, h2, _⟩ := hrows r (by omega)
      omega
end

theorem Try.own : ownKnob Try.prog.godebug = none := by kernel_rfl
theorem Try.laidOut : laidOutB Try.prog = true := by kernel_rfl
theorem Try.cellsR : Try.prog.cellsOf 65 = 1 := by kernel_rfl
theorem Try.cellsI : Try.prog.cellsOf 3 = 1 := by kernel_rfl

end Go.Proofs.Ytdodchmelepkeaa
end

section
namespace Go.Proofs.Ytdodchmelepkeaa
open Go.ChangeShapes Go.WideShapes Go.ChangeAt Go.RowKit Go.Deep

theorem addr_add0 (a : Addr) : a.add 0 = a := by
  cases a
  unfold Addr.add
  split <;> simp_all
theorem take_one {l : List Value} {i : Nat} (h : i < l.length) : ∃ v, l[i]? = some v ∧ (l.drop i).take 1 = [v] :=
  ⟨l[i], List.getElem?_eq_getElem h, by rw [List.drop_eq_getElem_cons h]; rfl⟩

theorem open_chips {H : Type} {enc : TypeId × Value → H} {P : Program} {W : World} {t e : TypeId} {f0 f1 f2 : Field} {a : Option Addr} {n cap : Nat} {d : DataW H} {p : List MemPlace} (ht : P.underlying t = some (.slice e)) (he : P.underlying e = some (.struct #[f0, f1, f2])) (ce : P.cellsOf e = 3)
    (u0 : P.underlying f0.type = some .string) (u1 : P.underlying f1.type = some (.int .i64)) (u2 : P.underlying f2.type = some (.int .i64)) (k0 : P.cellsOf f0.type = 1) (k1 : P.cellsOf f1.type = 1) (k2 : P.cellsOf f2.type = 1) (o0 : f0.offset = 0) (o1 : f1.offset = 1) (o2 : f2.offset = 2)
    (h : DataW.Trod enc P W 0 (fun _ => true) true t (.slice a n cap) d p) : ∃ cs : List RC, cs.length = n ∧ ChipsR W a cs ∧ n ≤ 9223372036854775807 ∧ ShortL cs := by
  have hmx : maxLen = 9223372036854775807 := rfl
  obtain ⟨fuel, hf⟩ := h
  rcases open_slice ht hf with ⟨hcs, _⟩ | ⟨a', len, cap', m, q, D, Pl, hcs, _, hl, hm, hmm, _, hi⟩
  · simp [Value.cells] at hcs
    obtain ⟨rfl, rfl, rfl⟩ := hcs
    exact ⟨[], rfl, (fun h => by simp at h), by omega, fun i hi => by simp at hi⟩
  · simp [Value.cells] at hcs
    obtain ⟨rfl, rfl, rfl⟩ := hcs
    have hnm : n ≤ m := by rw [hmm]; simp; exact hl
    -- one chip
    have hone : ∀ i, i < n → ∃ c : RC, (W.cell? (a'.add (i * 3)) = some (.string c.k) ∧ W.cell? ((a'.add (i * 3)).add 1) = some (.int .i64 c.l) ∧ W.cell? ((a'.add (i * 3)).add 2) = some (.int .i64 c.w)) ∧ c.k.size ≤ 9223372036854775807 := fun i hin => by
      obtain ⟨cs', hc, htr⟩ := hi i (by omega)
      rw [ce] at hc
      obtain ⟨_, hlen, hat⟩ := World.cells?_some hc
      obtain ⟨xs, q', _, _, _, hxl, hg⟩ := DataW.trod_struct he htr
      have g : ∀ j, j < 3 → ∃ x, xs[j]? = some x := fun j hj => ⟨xs[j]'(by rw [hxl]; exact hj), List.getElem?_eq_getElem _⟩
      obtain ⟨x0, y0⟩ := g 0 (by omega)
      obtain ⟨x1, y1⟩ := g 1 (by omega)
      obtain ⟨x2, y2⟩ := g 2 (by omega)
      have h0 := hg 0 f0 rfl
      have h1 := hg 1 f1 rfl
      have h2 := hg 2 f2 rfl
      obtain ⟨v0, e0, t0⟩ := take_one (show 0 < cs'.length by omega)
      obtain ⟨v1, e1, t1⟩ := take_one (show 1 < cs'.length by omega)
      obtain ⟨v2, e2, t2⟩ := take_one (show 2 < cs'.length by omega)
      rw [o0, k0, t0, y0] at h0
      rw [o1, k1, t1, y1] at h1
      rw [o2, k2, t2, y2] at h2
      obtain ⟨s, r0, _, hs⟩ := DataW.trod_string u0 h0
      obtain ⟨L, r1, _, _⟩ := DataW.trod_int u1 h1
      obtain ⟨V, r2, _, _⟩ := DataW.trod_int u2 h2
      cases r0; cases r1; cases r2
      refine ⟨⟨s, L, V⟩, ⟨?_, ?_, ?_⟩, by show s.size ≤ _; rw [← hmx]; exact hs⟩
      · have := hat 0 (by omega)
        rw [e0] at this
        rwa [addr_add0] at this
      · rw [hat 1 (by omega), e1]
      · rw [hat 2 (by omega), e2]
    refine ⟨(List.range n).map fun i => if hi : i < n then Classical.choose (hone i hi) else rc0, by simp, fun h0 => ?_, by omega, fun i hi => ?_⟩
    · have h0' : 0 < n := by simpa using h0
      obtain ⟨b, o, spot⟩ := a'
      obtain ⟨c, ⟨g0, _⟩, _⟩ := hone 0 h0'
      have hspot : spot = none := by simpa [Addr.add] using World.cell?_spot g0
      subst hspot
      refine ⟨b, o, rfl, fun i hi => ?_⟩
      have hi' : i < n := by simpa using hi
      have hget : ((List.range n).map fun i => if hi : i < n then Classical.choose (hone i hi) else rc0).getD i rc0 = Classical.choose (hone i hi') := by simp [List.getD, hi']
      rw [hget]
      have := (Classical.choose_spec (hone i hi')).1
      simpa [addr_add, Nat.add_assoc] using this
    · have hi' : i < n := by simpa using hi
      have hget : ((List.range n).map fun i => if hi : i < n then Classical.choose (hone i hi) else rc0).getD i rc0 = Classical.choose (hone i hi') := by simp [List.getD, hi']
      rw [hget]
      exact (Classical.choose_spec (hone i hi')).2

end Go.Proofs.Ytdodchmelepkeaa
end

section
namespace Go.Proofs.Ytdodchmelepkeaa
open Go.ChangeShapes Go.WideShapes Go.ChangeAt Go.RowKit Go.Deep

set_option maxRecDepth 100000 in
theorem lifted_NetTable (os : Os) (started : os.Started) (H : Type) (enc : TypeId × Value → H) :
    ReturnsInHanded {} Try.checked os 4 .any (Rows.fnExactNetTableSpec.pre6 enc Try.prog Try.f4 Rows.fnExactNetTableRow.domain false) (Rows.fnExactNetTableSpec.post enc Try.prog Try.f4 false true false false) := by
  refine returnsInHanded_of_change (C := Try.checked) Try.own started (by kernel_rfl) Try.func4
    (ChangeSpec.witness6 (enc := enc) (C := Try.checked) false ⟨#[], #[.int .i64 0, .slice none 0 0], []⟩ 8 (by kernel_rfl) (by kernel_rfl) (by kernel_rfl) (by kernel_rfl)) ?_
  intro W base args ds gs before hval0 hW _ _
  have hval : ∀ (j : Nat) t v, Try.f4.params[j]? = some t → args[j]? = some v → Value.okWide Try.prog W .any base t v := hval0
  have hW' := hW
  obtain ⟨p, q, hA0, hV, rfl, hfz, hnd⟩ := hW
  have hA : DataW.TrodAll enc Try.prog W 0 (fun _ => true) true Try.f4.params.toList args.toList ds p := hA0
  rw [Try.params4] at hA hval
  obtain ⟨v0, v1, d0, d1, p0, p1, rfl, rfl, rfl, h0, h1⟩ := trodAll_two hA
  obtain ⟨rfl, rfl⟩ := trodVars_none hV
  obtain ⟨x0, rfl, rfl, rfl, wx0⟩ := open_int Try.underlying3 (hval 0 3 v0 rfl rfl) h0
  obtain ⟨a1, n1, cap1, rfl⟩ := okWide_slice Try.underlying22 (hval 1 22 v1 rfl rfl)
  obtain ⟨l1, hl1, hm1, h631, hs1⟩ := open_chips Try.underlying22 Try.underlying50 (by kernel_rfl) Try.underlying9 Try.underlying3 Try.underlying3 (by kernel_rfl) (by kernel_rfl) (by kernel_rfl) rfl rfl rfl h1
  clear hA0 hval0
  simp only [List.append_nil, List.nil_append] at hW'
  have hlt1 : ∀ x ∈ p1, x.block < W.heap.size := fun x hx => hW'.lt x (by simp [hx])
  refine (lawNetTable x0 a1 cap1 n1 l1 W hl1 h631 hs1 hm1).mono fun e W' ⟨he, hs⟩ => ?_
  subst he
  have hb := since_below' hs
  have ht1 : ∀ sp : Nat → Bool, (∀ x ∈ p1, sp x.block = true) → DataW.Trod enc Try.prog W' 0 sp true 22 (.slice a1 n1 cap1) d1 p1 := fun sp hsp =>
    WideElems.Trod_stays Try.laidOut (by kernel_rfl) (of_decide_eq_true (by kernel_rfl)) h1 (fun x hx => hb.same (hlt1 x hx)) hsp
  have hargs : ∀ sp : Nat → Bool, (∀ x ∈ (p1), sp x.block = true) → DataW.TrodAll enc Try.prog W' 0 sp true [3, 22] [.int .i64 x0, .slice a1 n1 cap1] [.lit (.int .i64 x0), d1] (p1) := fun sp hsp => by
    have := trodAll_mk2 (enc := enc) (P := Try.prog) (w := W') (base := 0) (spare := sp) (held := true) (shut_int Try.underlying3 wx0) (ht1 sp (fun x hx => hsp x (by simp [hx])))
    simpa using this
  exact ⟨_, rfl, post_of_below (pa := p1) (pv := []) hW' (fun _ _ _ => trodAll_mk1 (shut_bool Try.underlying4 true)) (fun sp hsp => hargs sp (fun x hx => hsp x (by simpa using hx))) (fun _ _ => rfl) (by simp) hb rfl⟩

theorem FnExactNetTable_holds : Rows.FnExactNetTableSaid :=
  OpenClaim.holds_of_wide 4 Try.f4 rfl rfl rfl rfl rfl rfl rfl ⟨rfl, rfl, rfl, rfl, rfl⟩ rfl rfl rfl rfl rfl (by kernel_rfl) Try.func4 (by kernel_rfl)
    (of_decide_eq_true (by kernel_rfl)) (by unfold Func.isWrapper; first | (rw [if_pos (by decide +kernel)]; kernel_rfl) | (rw [if_neg (by decide +kernel)]; exact ⟨rfl, rfl⟩))
    (fun os started H enc _ => lifted_NetTable os started H enc)

end Go.Proofs.Ytdodchmelepkeaa
end
