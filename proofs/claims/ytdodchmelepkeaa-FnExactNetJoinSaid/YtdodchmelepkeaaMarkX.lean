/- laws.markText: the letter m and the digits of a number. -/
import Derived.Test.YtdodchmelepkeaaChipL
import Derived.Laws.IdiomStrings
import Derived.Laws.Concat
namespace Go.Proofs.Ytdodchmelepkeaa
open Go.RowKit Go.Deep

/-- The digit of a number that comes last. -/
def digX (k : Nat) : UInt8 := UInt8.ofNat (48 + k % 10)
def goX : Nat → Nat → ByteArray → ByteArray
  | 0, _, out => out
  | f + 1, k, out => if k = 0 then out else goX f (k / 10) (⟨#[digX k]⟩ ++ out)
theorem goX_zero (f : Nat) (out : ByteArray) : goX f 0 out = out := by cases f <;> simp [goX]
theorem goX_step {f k : Nat} (out : ByteArray) (hk : 0 < k) : goX (f + 1) k out = goX f (k / 10) (⟨#[digX k]⟩ ++ out) := by
  show (if k = 0 then _ else _) = _
  rw [if_neg (by omega)]
def tenP : Nat → Nat
  | 0 => 1
  | f + 1 => 10 * tenP f
theorem tenP_le {f : Nat} (h : f ≤ 7) : tenP f ≤ 10000000 := by
  have : ∀ j : Fin 8, tenP j.val ≤ 10000000 := by decide
  exact this ⟨f, by omega⟩
/-- What markText returns. -/
def txtX (k : Nat) : ByteArray := ⟨#[109]⟩ ++ goX 7 k ByteArray.empty

theorem digX_val (k : Nat) : ((digX k).toNat : Int) = 48 + (k : Int) % 10 := by
  unfold digX
  rw [UInt8.toNat_ofNat']
  have : (48 + k % 10) % 2 ^ 8 = 48 + k % 10 := Nat.mod_eq_of_lt (by omega)
  rw [this]
  omega

set_option maxRecDepth 100000 in
set_option maxHeartbeats 400000 in
theorem markText_any (k : Nat) (w : World) (h0 : 0 < k) (hk : k < 10000000) :
    Calls Try.prog 61 #[.int .i64 k] w fun e w' => e = .returned (.string (txtX k)) ∧ w.Since w.heap.size w' := by
  unfold txtX
  obtain ⟨R, hR⟩ : ∃ R, goX 7 k ByteArray.empty = R := ⟨_, rfl⟩
  rw [hR]
  go_enter Try.func61, Try.ntmps61
  go_wp2_with fail
  go_loopg [0, 3] 8 (fun g q i wr => ∃ (f j : Nat) (out : ByteArray), g = f + 1 ∧ f ≤ 7 ∧ j < tenP f ∧ q = .int .i64 j ∧ i = .string out ∧ out.size + f ≤ 7 ∧ goX f j out = R ∧ w.Since w.heap.size wr)
  case atStart => exact ⟨7, k, ByteArray.empty, rfl, by omega, by simp [tenP]; omega, rfl, rfl, by simp, hR, World.Since.refl _ _⟩
  case round =>
    obtain ⟨f, j, out, rfl, hf, hj, rfl, rfl, hs, hg, hS⟩ := hrel
    by_cases hj0 : j = 0
    · subst hj0
      rw [goX_zero] at hg
      subst hg
      have hadd := run_string_add_sum (P := Try.prog) (w := wr) ⟨#[109]⟩ out (by have : (⟨#[109]⟩ : ByteArray).size = 1 := rfl; omega)
      go_wp2_with fail
      go_ret
      exact ⟨rfl, hS⟩
    · obtain ⟨f, rfl⟩ : ∃ f', f = f' + 1 := ⟨f - 1, by
        cases f with
        | zero => simp [tenP] at hj; omega
        | succ n => omega⟩
      rw [goX_step out (by omega)] at hg
      have hj7 : tenP (f + 1) = 10 * tenP f := rfl
      have hd := digX_val j
      have HS := Lib.hid hS
      clear hR hS
      have hcv := run_convert_bytes_back (P := Try.prog) (wr.alloc (.cells #[.int .u8 (48 + (j : Int) % 10)] 5)) 96 9 5 ⟨wr.heap.size, 0, none⟩ 1 [digX j] Try.underlying96 Try.underlying5 Try.underlying9 (fun i hi => by
        obtain rfl : i = 0 := by simp at hi; omega
        show (wr.alloc _).cell? ⟨wr.heap.size, 0, none⟩ = _
        rw [World.cell?_alloc_new]
        show some (Value.int .u8 (48 + (j : Int) % 10)) = some (.int .u8 ((digX j).toNat : Int))
        rw [hd])
      have hcv2 : Sem.run Try.prog (convert 96 9 (.slice (some ⟨wr.heap.size, 0, none⟩) 1 1)) (wr.alloc (.cells #[.int .u8 (48 + (j : Int) % 10)] 5)) = .ok (.string ⟨#[digX j]⟩) (wr.alloc (.cells #[.int .u8 (48 + (j : Int) % 10)] 5)) := hcv
      have hadd := fun W => run_string_add_sum (P := Try.prog) (w := W) ⟨#[digX j]⟩ out (by have : (⟨#[digX j]⟩ : ByteArray).size = 1 := rfl; omega)
      have hten := tenP_le (show f + 1 ≤ 7 by omega)
      have hwd : wrap64 ((j : Int) / 10) = (j : Int) / 10 := IntWalk.wrap64_in _ ⟨by omega, by omega⟩
      clear hcv hd hten
      go_wp2_with fail
      go_roundg (f + 1)
      case measure => omega
      case rel => exact ⟨f, j / 10, ⟨#[digX j]⟩ ++ out, rfl, by omega, by omega, by simp [hwd], rfl, by rw [ByteArray.size_append]; have : (⟨#[digX j]⟩ : ByteArray).size = 1 := rfl; omega, hg, HS.out.alloc (by simpa using HS.out.size) _⟩

/-- The numbers of marks: three for each chip. -/
def markC (k : Nat) (r : Nat) : RC := ⟨txtX (k + 3 * r), (k + 3 * r + 1 : Nat), (k + 3 * r + 2 : Nat)⟩
/-- The first r chips are marked, the others as they were. -/
def mixC (k : Nat) (cs : List RC) (r : Nat) : List RC := (List.range cs.length).map fun i => if i < r then markC k i else cs.getD i rc0
theorem mixC_len (k : Nat) (cs : List RC) (r : Nat) : (mixC k cs r).length = cs.length := by simp [mixC]
theorem mixC_get {k : Nat} {cs : List RC} {r i : Nat} (h : i < cs.length) : (mixC k cs r).getD i rc0 = if i < r then markC k i else cs.getD i rc0 := by simp [mixC, List.getD, h]
theorem mixC_zero (k : Nat) (cs : List RC) : mixC k cs 0 = cs := by
  refine List.ext_getElem (mixC_len _ _ _) fun i h1 h2 => ?_
  simp [mixC, List.getD, h2]

theorem frame_set {lo hi : Nat} (w : World) (p : Addr) (v : Value) (h : lo ≤ p.block ∧ p.block < hi) : Frame lo hi w (w.setCell p v) :=
  ⟨rfl, rfl, rfl, by simp, fun k _ ho => blk_setCell_other w p v k (by omega)⟩
theorem OwnC.at {lo hi : Nat} {w : World} {a : Option Addr} {cs : List RC} (h : OwnC lo hi w a cs) {r : Nat} (hr : r < cs.length) : ∃ g, a = some ⟨g, 0, none⟩ ∧ (lo ≤ g ∧ g < hi) ∧ w.cell? ⟨g, r * 3, none⟩ = some (.string (cs.getD r rc0).k) ∧ w.cell? ⟨g, r * 3 + 1, none⟩ = some (.int .i64 (cs.getD r rc0).l) ∧ w.cell? ⟨g, r * 3 + 2, none⟩ = some (.int .i64 (cs.getD r rc0).w) ∧
    w.frozen? ⟨g, r * 3, none⟩ = false ∧ w.frozen? ⟨g, r * 3 + 1, none⟩ = false ∧ w.frozen? ⟨g, r * 3 + 2, none⟩ = false := by
  obtain ⟨g, e, hg, hc⟩ := h (by omega)
  obtain ⟨⟨c1, c2, c3⟩, f1, f2, f3⟩ := hc r hr
  exact ⟨g, e, hg, c1, c2, c3, f1, f2, f3⟩

/-- Three cells of one chip are set. -/
theorem OwnC.mark {lo hi : Nat} {w : World} {g k : Nat} {cs : List RC} {r : Nat} (h : OwnC lo hi w (some ⟨g, 0, none⟩) (mixC k cs r)) (hr : r < cs.length) :
    OwnC lo hi (((w.setCell ⟨g, r * 3, none⟩ (.string (txtX (k + 3 * r)))).setCell ⟨g, r * 3 + 1, none⟩ (.int .i64 (k + 3 * r + 1 : Nat))).setCell ⟨g, r * 3 + 2, none⟩ (.int .i64 (k + 3 * r + 2 : Nat))) (some ⟨g, 0, none⟩) (mixC k cs (r + 1)) := by
  obtain ⟨g', e, hg, hc⟩ := h (by rw [mixC_len]; omega)
  injection e with e; injection e with e
  subst e
  rw [mixC_len] at hc
  intro _
  refine ⟨g, rfl, hg, fun i hi => ?_⟩
  rw [mixC_len] at hi
  obtain ⟨⟨k1, k2, k3⟩, m1, m2, m3⟩ := hc i hi
  obtain ⟨⟨c1, c2, c3⟩, -, -, -⟩ := hc r hr
  rw [mixC_get hi] at k1 k2 k3 ⊢
  have hne : ∀ (W : World) (q s : Nat) (v : Value), q ≠ s → (W.setCell ⟨g, s, none⟩ v).cell? ⟨g, q, none⟩ = W.cell? ⟨g, q, none⟩ := fun W q s v hq => World.cell?_setCell_other _ _ _ _ (fun e => hq (by injection e with _ e2; exact e2.symm))
  have hsm : ∀ (W : World) (q : Nat) (v : Value), (W.cell? ⟨g, q, none⟩).isSome = true → (W.setCell ⟨g, q, none⟩ v).cell? ⟨g, q, none⟩ = some v := fun W q v hq => World.cell?_setCell_same' _ _ _ hq
  refine ⟨⟨?_, ?_, ?_⟩, by simp only [World.frozen?_setCell]; exact m1, by simp only [World.frozen?_setCell]; exact m2, by simp only [World.frozen?_setCell]; exact m3⟩
  · rw [hne _ _ _ _ (by omega), hne _ _ _ _ (by omega)]
    by_cases e : i = r
    · subst e
      rw [hsm _ _ _ (by rw [c1]; rfl), if_pos (by omega)]
      rfl
    · rw [hne _ _ _ _ (by omega), k1]
      split <;> split <;> first | rfl | omega
  · rw [hne _ _ _ _ (by omega)]
    by_cases e : i = r
    · subst e
      rw [hsm _ _ _ (by rw [hne _ _ _ _ (by omega), c2]; rfl), if_pos (by omega)]
      rfl
    · rw [hne _ _ _ _ (by omega), hne _ _ _ _ (by omega), k2]
      split <;> split <;> first | rfl | omega
  · by_cases e : i = r
    · subst e
      rw [hsm _ _ _ (by rw [hne _ _ _ _ (by omega), hne _ _ _ _ (by omega), c3]; rfl), if_pos (by omega)]
      rfl
    · rw [hne _ _ _ _ (by omega), hne _ _ _ _ (by omega), hne _ _ _ _ (by omega), k3]
      split <;> split <;> first | rfl | omega

set_option maxRecDepth 100000 in
set_option maxHeartbeats 400000 in
theorem markChipS_any (a : Option Addr) (lo hi cap N k : Nat) (cs : List RC) (w : World) (hN : cs.length = N) (h20 : N ≤ 1048576) (h0 : 0 < k) (hk : k ≤ 4000000) (hO : OwnC lo hi w a cs) :
    Calls Try.prog 21 #[.slice a N cap, .int .i64 k] w fun e w' => e = .returned (.int .i64 (k + 3 * N : Nat)) ∧ OwnC lo hi w' a (mixC k cs N) ∧ Frame lo hi w w' := by
  have HN := Lib.hid hN
  have HO : Hid (OwnC lo hi w a (mixC k cs 0)) := Lib.hid (by rw [mixC_zero]; exact hO)
  clear hN hO
  go_enter Try.func21, Try.ntmps21
  go_wp2_with fail
  go_loopg [1, 5] N (fun g q i wr => ∃ r : Nat, r ≤ N ∧ g = N - r ∧ i = .int .i64 r ∧ q = .int .i64 (k + 3 * r : Nat) ∧ OwnC lo hi wr a (mixC k cs r) ∧ Frame lo hi w wr)
  case atStart => exact ⟨0, Nat.zero_le _, rfl, rfl, rfl, HO.out, Frame.refl _ _ _⟩
  case round =>
    obtain ⟨r, hr, rfl, rfl, rfl, hO, hF⟩ := hrel
    by_cases hlt : r < N
    · have hrl : r < cs.length := by rw [HN.out]; exact hlt
      obtain ⟨g, rfl, hg, -, -, -, -, -, -⟩ := hO.at (show r < (mixC k cs r).length by rw [mixC_len]; exact hrl)
      obtain ⟨p, hp⟩ : ∃ p, k + 3 * r = p := ⟨_, rfl⟩
      have hp1 : 0 < p := by omega
      have hp2 : p < 9000000 := by omega
      have hm := Lib.hid (fun (W : World) (h : OwnC lo hi W (some ⟨g, 0, none⟩) (mixC k cs r)) => h.mark hrl)
      rw [hp] at hm ⊢
      have E := Lib.hid (fun (W : World) => markText_any p W hp1 (by omega))
      have HO2 := Lib.hid hO
      have HF := Lib.hid hF
      have HG := Lib.hid hg
      have HP := Lib.hid hp
      clear hO hF HO hp hg
      go_wp2_with (go_at_call 61; refine (E.out _).mono ?_; rintro e w1 ⟨rfl, hs1⟩; have ho1 := HO2.out.since hs1; obtain ⟨g', e', -, c1, c2, c3, f1, f2, f3⟩ := ho1.at (show r < (mixC k cs r).length by rw [mixC_len]; exact hrl); injection e' with e'; injection e' with e'; subst e'; have HM := Lib.hid (hm.out _ ho1); have HS1 := Lib.hid hs1; clear ho1 hs1)
      go_roundg (N - (r + 1))
      case measure => omega
      case rel =>
        refine ⟨r + 1, by omega, rfl, by go_num, ?_, ?_, ?_⟩
        · have := HP.out
          rw [show k + 3 * (r + 1) = p + 3 by omega]
          push_cast
          rw [Int.add_assoc, Int.add_assoc]
        · have := HM.out
          push_cast at this
          rw [Int.add_assoc]
          exact this
        · exact (((HF.out.trans (frame_since HS1.out lo hi)).trans (frame_set _ _ _ HG.out)).trans (frame_set _ _ _ HG.out)).trans (frame_set _ _ _ HG.out)
    · obtain rfl : r = N := by omega
      have HH := Lib.hid (And.intro hO hF)
      clear hO hF HO
      go_wp2_with fail
      go_ret
      exact ⟨rfl, HH.out.1, HH.out.2⟩

set_option maxRecDepth 100000 in
set_option maxHeartbeats 400000 in
theorem heldChipS_any (a : Option Addr) (cap N k : Nat) (cs : List RC) (w : World) (hN : cs.length = N) (h20 : N ≤ 1048576) (h0 : 0 < k) (hk : k ≤ 4000000) (hm : ChipsR w a (mixC k cs N)) :
    Calls Try.prog 30 #[.slice a N cap, .int .i64 k] w fun e w' => e = .returned (.int .i64 (k + 3 * N : Nat)) ∧ w.Since w.heap.size w' := by
  have HN := Lib.hid hN
  have HM := Lib.hid hm
  clear hN hm
  go_enter Try.func30, Try.ntmps30
  go_wp2_with fail
  go_loopg [1, 5] N (fun g q i wr => ∃ r : Nat, r ≤ N ∧ g = N - r ∧ i = .int .i64 r ∧ q = .int .i64 (k + 3 * r : Nat) ∧ w.Since w.heap.size wr)
  case atStart => exact ⟨0, Nat.zero_le _, rfl, rfl, rfl, World.Since.refl _ _⟩
  case round =>
    obtain ⟨r, hr, rfl, rfl, rfl, hS⟩ := hrel
    by_cases hlt : r < N
    · have hrl : r < cs.length := by rw [HN.out]; exact hlt
      obtain ⟨g, o, rfl, k1, k2, k3⟩ := HM.out.at (show r < (mixC k cs N).length by rw [mixC_len]; exact hrl)
      rw [mixC_get hrl, if_pos hlt] at k1 k2 k3
      dsimp only [markC] at k1 k2 k3
      obtain ⟨p, hp⟩ : ∃ p, k + 3 * r = p := ⟨_, rfl⟩
      have hp1 : 0 < p := by omega
      have hp2 : p < 9000000 := by omega
      rw [hp] at k1 k2 k3 ⊢
      push_cast at k2 k3
      have c1 := (hS.cell (World.block_lt_of_cell? _ _ k1)).trans k1
      have c2 := (hS.cell (World.block_lt_of_cell? _ _ k2)).trans k2
      have c3 := (hS.cell (World.block_lt_of_cell? _ _ k3)).trans k3
      have E := Lib.hid (fun (W : World) => markText_any p W hp1 (by omega))
      have HP := Lib.hid hp
      have HS := Lib.hid hS
      clear k1 k2 k3 hp hS
      go_wp2_with fail
      go_region_held3 (fun W' => W'.cell? ⟨g, o + r * 3, none⟩ = some (.string (txtX p)) ∧ W'.cell? ⟨g, o + r * 3 + 1, none⟩ = some (.int .i64 (p + 1)) ∧ W'.cell? ⟨g, o + r * 3 + 2, none⟩ = some (.int .i64 (p + 2)))
        (first | exact ⟨c1, c2, c3⟩ | exact g9)
        (first | (go_at_call 61; refine (E.out _).mono ?_; rintro e w1 ⟨rfl, hs1⟩; have g9 : w1.cell? ⟨g, o + r * 3, none⟩ = some (.string (txtX p)) ∧ w1.cell? ⟨g, o + r * 3 + 1, none⟩ = some (.int .i64 (p + 1)) ∧ w1.cell? ⟨g, o + r * 3 + 2, none⟩ = some (.int .i64 (p + 2)) := ⟨(hs1.cell (World.block_lt_of_cell? wr _ c1)).trans c1, (hs1.cell (World.block_lt_of_cell? wr _ c2)).trans c2, (hs1.cell (World.block_lt_of_cell? wr _ c3)).trans c3⟩; have HS1 := Lib.hid (HS.out.trans (since_mono (since_of_drew hs1) HS.out.size)); clear hs1))
      all_goals
        obtain ⟨d1, d2, d3⟩ := g9
        have e2 : (p : Int) + 1 + 1 = p + 2 := by omega
        go_wp2_with fail
        go_roundg (N - (r + 1))
        case measure => omega
        case rel =>
          refine ⟨r + 1, by omega, rfl, by go_num, ?_, HS1.out⟩
          have := HP.out
          rw [show k + 3 * (r + 1) = p + 3 by omega]
          push_cast
          rw [Int.add_assoc, Int.add_assoc]
          rfl
    · obtain rfl : r = N := by omega
      have HS := Lib.hid hS
      clear hS
      go_wp2_with fail
      go_ret
      exact ⟨rfl, HS.out⟩

end Go.Proofs.Ytdodchmelepkeaa
