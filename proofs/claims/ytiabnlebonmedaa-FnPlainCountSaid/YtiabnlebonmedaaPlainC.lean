/- The contract of spec.PlainCount. -/
import Derived.Test.YtiabnlebonmedaaPlainV
import Derived.Test.YtiabnlebonmedaaWR
namespace Go.Proofs.Ytiabnlebonmedaa
open Go.RowKit Go.Deep

/-- 1 where a number is not 0. -/
def oneN (l : List (List Int)) (i k : Nat) : Int := if at2 l i k = 0 then 0 else 1
/-- The square of these. -/
def oneL (l : List (List Int)) (n : Nat) : List (List Int) := tabF n n (oneN l)
theorem oneN_bd (l : List (List Int)) (i k : Nat) : 0 ≤ oneN l i k ∧ oneN l i k ≤ 1 := by unfold oneN; split <;> omega
theorem oneL_tab (l : List (List Int)) {n : Nat} (h1 : 1 ≤ n) (h6 : n ≤ 6) : TabIn (oneL l n) ∧ (oneL l n).length = n ∧ ((oneL l n).getD 0 []).length = n :=
  ⟨tabIn_tabF h1 h6 h1 h6 (fun i k _ _ => by have := oneN_bd l i k; omega), tabF_length _ _ _, tabF_len _ _ _ _ (by omega)⟩
theorem min_max_one (y : Int) : (if (if y < -y then -y else y) < 1 then if y < -y then -y else y else 1) = if y = 0 then 0 else 1 := by
  repeat' split
  all_goals omega

set_option maxRecDepth 100000 in
set_option maxHeartbeats 2000000 in
theorem specPlainCount_any (a : Option Addr) (cap n : Nat) (l : List (List Int)) (w : World) (hn : l.length = n) (hsz : szL l ≤ 1048576) (hm : MatR w a l) :
    Calls Try.prog 23 #[.slice a n cap] w (SpecW w (sqB l) (plF (oneL l n) n n 0)) := by
  have E := l2Square_any a cap n l w hn hsz hm
  cases hs : sqB l with
  | false =>
    rw [hs] at E
    replace E := Lib.hid E
    clear hs hm hn hsz
    go_enter Try.func23, Try.ntmps23
    go_wp2_with fail
    refine (E.out).mono ?_
    rintro e w1 ⟨rfl, hd⟩
    have HD := Lib.hid (hd.since w.heap.size)
    clear hd
    go_wp2
    go_ret2
    exact ⟨rfl, HD.out⟩
  | true =>
    rw [hs] at E
    replace E := Lib.hid E
    obtain ⟨hT, hw⟩ := sqB_of hs
    rw [hn] at hw
    have h6 := hT.2.1
    have h1 := hT.1
    rw [hn] at h6 h1
    have HE3 := Lib.hid (fun (W : World) (hs : w.Since w.heap.size W) => l1Copy_any a cap n l W hn hT (hm.since hs))
    obtain ⟨o1, o2, o3⟩ := oneL_tab l h1 h6
    have EP := Lib.hid (fun (a' : Option Addr) (c' : Nat) (W : World) (hm' : MatR W a' (oneL l n)) => l5Plain_any a' c' n (oneL l n) o2 o1 o3 n 0 0 (by omega) (by omega) W hm')
    have hrow : ∀ r, r < n → (l.getD r []).length = n := fun r hr => by rw [hT.row (by omega), ← hw]
    obtain ⟨bt, ot, At, Ct, rfl, hlen, hcell⟩ := hm.grid hn hT hw.symm
    have HC := Lib.hid hcell
    have HLEN := Lib.hid hlen
    have HROW := Lib.hid hrow
    have HN := Lib.hid hn
    clear hs hm hsz hT hw hrow hcell hlen o1 o2 o3 hn
    go_enter Try.func23, Try.ntmps23
    go_wp2_with fail
    refine (E.out).mono ?_
    rintro e w1 ⟨rfl, hd⟩
    have hs1 := hd.since w.heap.size
    clear hd
    go_wp2_with fail
    refine (HE3.out w1 hs1).mono ?_
    rintro e w2 ⟨a2, cap2, rfl, hs2, ho2⟩
    obtain ⟨b, A, G, C, rfl, hb, hWR⟩ := ho2.wr HN.out (by omega) HROW.out hs2 (oneN l)
    have HB := Lib.hid hb
    have HWR := Lib.hid hWR
    have hz2 := hs2.size
    have hz1 := hs1.size
    clear hb hWR ho2
    go_wp2
    go_loopg [5, 6] n (fun g i _ wr => ∃ r : Nat, r ≤ n ∧ g = n - r ∧ i = .int .i64 r ∧ WR w1 wr b n n A G C (oneN l) l r 0 w2.heap.size)
    case atStart => exact ⟨0, Nat.zero_le _, rfl, rfl, HWR.out⟩
    case round =>
      obtain ⟨r, hr, rfl, rfl, hR⟩ := hrel
      clear HWR
      by_cases hlt : r < n
      · have HR := Lib.hid hR
        clear hR
        go_wp2
        go_loopg [6] n (fun g j wi => ∃ c : Nat, c ≤ n ∧ g = n - c ∧ j = .int .i64 c ∧ WR w1 wi b n n A G C (oneN l) l r c w2.heap.size)
        case atStart => exact ⟨0, Nat.zero_le _, rfl, rfl, HR.out⟩
        case round =>
          obtain ⟨c, hc, rfl, rfl, hI⟩ := hrel
          clear HR
          have hS := hs1.trans (since_mono hI.since hz1)
          by_cases hcm : c < n
          · obtain ⟨b', o', e1, e2, e3, e4⟩ := HC.out r c hlt hcm
            obtain ⟨f1, f2, f3, f4, f5⟩ := hI.facts hlt hcm
            have hb1 : bt < w.heap.size := World.block_lt_of_cell? _ _ e1
            have hb2 : b' < w.heap.size := World.block_lt_of_cell? _ _ e2
            rw [← hS.cell (a := ⟨bt, ot + r, none⟩) hb1] at e1
            rw [← hS.cell (a := ⟨b', o' + c, none⟩) hb2] at e2
            obtain ⟨g, hg⟩ : ∃ g, G r = g := ⟨_, rfl⟩
            rw [hg] at f1 f2 f3 f4 f5
            have hval : oneN l r c = if at2 l r c = 0 then 0 else 1 := rfl
            obtain ⟨y, hy⟩ : ∃ y, at2 l r c = y := ⟨_, rfl⟩
            rw [hy] at e2 e3 e4 f2 hval
            have hmm := min_max_one y
            have hwr : IntKind.i64.wrap (0 - y) = -y := (IntWalk.i64_in _ ⟨by omega, by omega⟩).trans (by omega)
            have hwr2 : IntKind.i64.wrap (-y) = -y := IntWalk.i64_in _ ⟨by omega, by omega⟩
            have HII := Lib.hid hI
            have HG := Lib.hid hg
            have HVAL := Lib.hid hval
            have HMM := Lib.hid hmm
            clear hI hy hg hval hmm
            have k1 := cell_set_ne (j := c) (v := .int .i64 (if (if y < -y then -y else y) < 1 then if y < -y then -y else y else 1)) f1 (show b ≠ g from fun e => f5 e.symm)
            have k2 := cell_set_ne (g := g) (j := c) (v := .int .i64 (if (if y < -y then -y else y) < 1 then if y < -y then -y else y else 1)) e1 (show bt ≠ g by omega)
            have k3 := cell_set_ne (g := g) (j := c) (v := .int .i64 (if (if y < -y then -y else y) < 1 then if y < -y then -y else y else 1)) e2 (show b' ≠ g by omega)
            go_wp2
            go_region_held3 (fun w' => w'.cell? ⟨b, r, none⟩ = some (.slice (some ⟨g, 0, none⟩) n (C r)) ∧ w'.cell? ⟨bt, ot + r, none⟩ = some (.slice (some ⟨b', o', none⟩) n (Ct r)) ∧ w'.cell? ⟨b', o' + c, none⟩ = some (.int .i64 y)) (go_keep) (fail)
            have hN := HII.out.store hlt hcm 1
            rw [HG.out, HVAL.out, ← HMM.out] at hN
            rename_i hHd
            clear hHd k1 k2 k3 HMM
            revert hN
            generalize (if (if y < -y then -y else y) < 1 then if y < -y then -y else y else 1) = Z1
            generalize (if y < -y then -y else y) = Z2
            intro hN
            have HNN := Lib.hid hN
            clear hN e1 e2 f1 f2 f3 hwr hwr2 hS
            all_goals
              go_wp2
              go_roundg (n - (c + 1))
              case measure => omega
              case rel => exact ⟨c + 1, by omega, rfl, by go_num, HNN.out⟩
          · have hcc : c = n := by omega
            subst hcc
            have HNN := Lib.hid hI.next
            clear hI hS
            go_wp2
            go_roundg (c - (r + 1))
            case measure => omega
            case rel => exact ⟨r + 1, by omega, rfl, by go_num, HNN.out⟩
      · have : r = n := by omega
        subst this
        have hfin := hR.ownT HB.out
        have hS := hs1.trans (since_mono hR.since hz1)
        have HF := Lib.hid hfin.matR
        have HS := Lib.hid hS
        clear hR hfin hS
        go_wp2_with fail
        refine (EP.out _ _ _ HF.out).mono ?_
        rintro e w4 ⟨rfl, hd4⟩
        have HS4 := Lib.hid (HS.out.trans (since_mono (hd4.since wr.heap.size) HS.out.size))
        clear hd4
        go_wp2
        go_ret2
        exact ⟨rfl, HS4.out⟩

end Go.Proofs.Ytiabnlebonmedaa
