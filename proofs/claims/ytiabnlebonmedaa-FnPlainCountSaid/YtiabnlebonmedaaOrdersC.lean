/- The contract of the iterator over all lists (orders). -/
import Derived.Test.YtiabnlebonmedaaOrdersK
import Derived.Test.YtiabnlebonmedaaOrdL
import Derived.Test.YtiabnlebonmedaaSeqC
import Derived.Deep.RegionHeld3
import Derived.Deep.QuietTactic
import Derived.BigQuiet
import Derived.Deep.AppendLies
namespace Go.Proofs.Ytiabnlebonmedaa
open Go.RowKit Go.Deep Go.Shelf
attribute [local go_sem] Oper.semAt_some

theorem room_any (k : Nat) : Fence.wide.room k := fun d h => by cases h
theorem yieldAt_any {m m' : Nat} {P : Program} {l : Nat} {args : Array Value} {W : World} {R : Ending → World → Prop} (h : YieldAt Fence.wide m P l args W R) : YieldAt Fence.wide m' P l args W R := by
  obtain ⟨fn, tmps, assign, body, hy, hR⟩ := h
  exact ⟨fn, tmps, assign, body, hy, hR.1, fun c cs _ => hR.2 c cs (room_any _)⟩

/-- append within the room, as a step of a drawn region, behind a guard that holds. -/
theorem step_append_fitsG {P : Program} (w : World) {ops : Array Oper} {o : Oper} {a : Act} {K : Act → World → Prop} {Q : Exit → Act → World → Prop} {E : Prop} (hw : Region.wanted o (yielded ops a.tmps) = true) (s x : Operand) (t : TypeId)
    (hop : o.op = Op.call { callee := Callee.builtin Builtin.append, args := #[s, x], argTypes := #[t, t] })
    (base : Nat) (e : TypeId) (i : TypeInfo) (size : Nat) (h1 : P.underlying t = some (.slice e)) (h2 : P.info? e = some i) (h4 : i.size = size)
    (g k cap : Nat) (xs : List Value) (hs : a.eval s = .slice (some ⟨g, 0, none⟩) k cap) (hown : w.ownsRow base e size (.slice (some ⟨g, 0, none⟩) k cap) k xs) (ad : Addr) (m c : Nat) (news : List Value) (hx : a.eval x = .slice (some ad) m c) (hn : news.length = m * size)
    (hc : ∀ j u, news[j]? = some u → w.cell? (ad.add j) = some u) (h1c : ∀ u ∈ news, u.oneCell' = true) (b1 : k + m ≤ cap)
    (hK : ∀ w', w'.ownsRow base e size (.slice (some ⟨g, 0, none⟩) (k + m) cap) (k + m) (xs ++ news) → w.grownBy w' (some g) → K (a.put o.dst (.slice (some ⟨g, 0, none⟩) (k + m) cap)) w') :
    if Region.wanted o (yielded ops a.tmps) = true then Oper.wp P o a w K Q else E := by
  rw [if_pos hw]
  obtain ⟨w', hrun, r1, r2⟩ := run_append_fits (P := P) w base t o.type e i size h1 h2 h4 g k cap xs hown ad m c news hn hc h1c b1
  unfold Oper.wp
  simp [execOp, hop, resolve, invoke, builtin, hs, hx, hrun, Result.andThen]
  exact hK w' r1 r2

theorem grown_drewC (w : World) (n : Nat) : w.grownBy (w.drewN n) none := ⟨rfl, rfl, rfl, Nat.le_refl _, fun _ _ _ => rfl⟩
theorem undrew {a b : World} {row : Option Nat} (h : a.drew.grownBy b row) : a.grownBy b row := ⟨h.os, h.tape, h.output, h.size, h.block⟩
/-- A list that has come: its block and its columns. -/
abbrev OL := Nat × List Nat
def olP (n : Nat) (x : OL) (W : World) : Prop := (x.2.length = n ∧ ∀ c ∈ x.2, c < n) ∧ RowR W (some ⟨x.1, 0, none⟩) (ints x.2)
def olV (n : Nat) (x : OL) : Array Value := #[.slice (some ⟨x.1, 0, none⟩) n n]

/-- The boxes of the closure. -/
structure OB (Bn By Bg n l : Nat) (W : World) : Prop where
  bn : W.cell? ⟨Bn, 0, none⟩ = some (.int .i64 n)
  yb : W.cell? ⟨By, 0, none⟩ = some (.func (.yield l) #[] #[])
  bg : W.cell? ⟨Bg, 0, none⟩ = some (.func (.func 83) #[] #[.pointer (some ⟨Bn, 0, none⟩), .pointer (some ⟨By, 0, none⟩), .pointer (some ⟨Bg, 0, none⟩)])
theorem OB.keeps {Bn By Bg n l : Nat} {W W' : World} {own : Nat → Prop} (h : OB Bn By Bg n l W) (hk : Keeps own W W') (h1 : ¬ own Bn) (h2 : ¬ own By) (h3 : ¬ own Bg) : OB Bn By Bg n l W' :=
  ⟨hk.cell (a := ⟨Bn, 0, none⟩) h1 h.bn, hk.cell (a := ⟨By, 0, none⟩) h2 h.yb, hk.cell (a := ⟨Bg, 0, none⟩) h3 h.bg⟩
theorem ColsAt.keeps {own : Nat → Prop} {w w' : World} {g n : Nat} {cs : List Nat} (h : ColsAt w g n cs) (hk : Keeps own w w') (hg : ¬ own g) : ColsAt w' g n cs := by
  refine ⟨h.1, ?_⟩
  rcases h.2 with h' | ⟨g', cap', cur, h', hb, hgg, rest⟩
  · exact .inl h'
  · simp only [Value.slice.injEq, Option.some.injEq, Addr.mk.injEq, and_true, true_and] at h'
    obtain ⟨rfl, rfl⟩ := h'
    exact .inr ⟨g, n, cur, rfl, hb, hk.same _ _ hg hgg, rest⟩

set_option maxRecDepth 100000 in
set_option maxHeartbeats 4000000 in
theorem goOn_any (l Bn By Bg g n N B : Nat) (own : Nat → Prop) (J : List OL → World → Prop) (h6 : n ≤ 6) (hJ : FromB B J) (hBy : B ≤ By) (hBg : B ≤ Bg) (hB : B ≤ g) (hny : By ≠ g) (hng : Bg ≠ g) (hnn : Bn ≠ g) (hown : ∀ k, own k → k < B ∧ k ≠ Bn)
    (hY : ∀ m pre x W, J pre W → olP n x W → pre.length < N → YieldAt Fence.wide m Try.prog l (olV n x) W fun e W' => e = .returned (.bool true) ∧ J (pre ++ [x]) W' ∧ Keeps own W W') :
    ∀ (m : Nat) (cs : List Nat) (pre : List OL) (W : World), cs.length + m = n → (∀ c ∈ cs, c < n) → OB Bn By Bg n l W → ColsAt W g n cs → J pre W → pre.length + (ordL n m cs).length ≤ N →
      Calls Try.prog 83 #[.slice (some ⟨g, 0, none⟩) cs.length n, .pointer (some ⟨Bn, 0, none⟩), .pointer (some ⟨By, 0, none⟩), .pointer (some ⟨Bg, 0, none⟩)] W fun e W' =>
        e = .returned (.bool true) ∧ J (pre ++ (ordL n m cs).map (Prod.mk g)) W' ∧ Keeps (fun k => own k ∨ k = g) W W' ∧ ColsAt W' g n cs := by
  intro m
  induction m with
  | zero =>
    intro cs pre W hl hc hob hcols hj hN
    have hx : cs.length = n := by omega
    obtain ⟨fn, tmps, assign, body, hy, hR⟩ := hY 7 pre (g, cs) W hj ⟨⟨hx, hc⟩, hcols.row⟩ (by simp [ordL] at hN; omega)
    rw [hx]
    obtain ⟨hb1, hb2, hb3⟩ := hob
    dsimp only [olV] at hy
    have HC := Lib.hid hcols
    clear hcols hc hN hj
    refine (callsIn_wide (n := 8)).1 ?_
    refine callsIn_of_wp Try.func83 rfl trivial ?_ rfl
    simp only [Try.ntmps83, List.size_toArray, List.length_cons, List.length_nil, Nat.reduceAdd, Nat.reduceSub, Array.replicate_succ, Array.replicate_zero, List.push_toArray, List.append_toArray, List.nil_append, List.cons_append]
    gi_wp2
    refine hR.mono ?_
    rintro e W3 ⟨rfl, hJ3, hk3⟩
    gi_wp2
    go_ret
    exact ⟨rfl, by simpa [ordL] using hJ3, hk3.mono fun _ h => .inl h, HC.out.keeps hk3 (fun h => by have := (hown _ h).1; omega)⟩
  | succ m ih =>
    intro cs pre W hl hc hob hcols hj hN
    obtain ⟨i3, hi3⟩ := info3_parts
    have HJ := Lib.hid hi3
    rw [ordL_succ] at hN ⊢
    have hd : cs.length < n := by omega
    have hne : ((cs.length : Int) == (n : Int)) = false := by simp; omega
    have HN := Lib.hid (fun (k : Nat) (hk : k < n) (hm : k ∉ cs) => show (pre ++ (ordLT n m cs k).map (Prod.mk g)).length + (ordL n m (cs ++ [k])).length ≤ N from by
      have h1 := ordLT_step n m cs k
      rw [if_neg hm] at h1
      have h2 := ordLT_le n m cs (k + 1) n (by omega)
      rw [h1] at h2
      simp only [List.length_append, List.length_map] at h2 ⊢
      omega)
    have HIH := Lib.hid (fun (k : Nat) (hk : k < n) (hm : k ∉ cs) (V : World) (h1 : ColsAt V g n (cs ++ [k])) (h2 : OB Bn By Bg n l V) (h3 : J (pre ++ (ordLT n m cs k).map (Prod.mk g)) V) => ih (cs ++ [k]) (pre ++ (ordLT n m cs k).map (Prod.mk g)) V (by simp; omega) (fun c h => by
      rcases List.mem_append.1 h with h | h
      · exact hc c h
      · simp at h; omega) h2 h1 h3 (HN.out k hk hm))
    have HIN := Lib.hid (fun (k : Nat) (V : World) (h1 : ColsAt V g n cs) => contains_any (some ⟨g, 0, none⟩) n cs.length (ints cs) k V (ints_length cs) (by omega) h1.row)
    have HMEM : ∀ k : Nat, ((k : Int) ∈ ints cs) ↔ k ∈ cs := fun k => by
      simp only [ints, List.mem_map]
      constructor
      · rintro ⟨c, h1, h2⟩
        have : c = k := by omega
        exact this ▸ h1
      · exact fun h => ⟨k, h, rfl⟩
    have HME := Lib.hid HMEM
    have HO := Lib.hid (show ∀ (V V' : World), OB Bn By Bg n l V → Keeps (fun k => own k ∨ k = g) V V' → OB Bn By Bg n l V' from fun V V' h hk => h.keeps hk (fun h => h.elim (fun h => (hown _ h).2 rfl) hnn) (fun h => h.elim (fun h => by have := (hown _ h).1; omega) hny) (fun h => h.elim (fun h => by have := (hown _ h).1; omega) hng))
    have HFJ := Lib.hid hJ
    have HC := Lib.hid hcols
    have HPJ := Lib.hid hj
    have HOB := Lib.hid hob
    obtain ⟨hb1, hb2, hb3⟩ := hob
    obtain ⟨d, hdd⟩ : ∃ d, d = cs.length := ⟨_, rfl⟩
    have HD := Lib.hid hdd
    rw [← hdd] at hd hne ⊢
    simp only [← hdd] at HIN
    clear ih hcols hc hi3 HMEM hdd hN hj hY hown hl hJ hb2 hb3
    go_enter Try.func83, Try.ntmps83
    go_wp2
    clear hb1
    go_loopg [6, 15] n (fun q _ i wr => ∃ k : Nat, k ≤ n ∧ q = n - k ∧ i = .int .i64 k ∧ J (pre ++ (ordLT n m cs k).map (Prod.mk g)) wr ∧ Keeps (fun k => own k ∨ k = g) W wr ∧ ColsAt wr g n cs)
    case atStart => exact ⟨0, Nat.zero_le _, rfl, rfl, by rw [ordLT_zero]; simpa using HPJ.out, Keeps.refl _ _, HC.out⟩
    case round =>
      obtain ⟨k, hk, rfl, rfl, hj, hK, hCo⟩ := hrel
      by_cases hlt : k < n
      · have hob' := HO.out _ _ HOB.out hK
        have E1 := fun (p : Nat) => HIN.out k (wr.drewN p) (show ColsAt (wr.drewN p) g n cs from hCo)
        have hst := ordLT_step n m cs k
        have HOB' := Lib.hid hob'
        have HPJ' := Lib.hid hj
        have HK := Lib.hid hK
        have HCo := Lib.hid hCo
        clear hob' hj hK
        by_cases hmem : k ∈ cs
        · simp only [decide_eq_true ((HME.out k).2 hmem)] at E1
          rw [if_pos hmem, List.append_nil] at hst
          replace E1 := Lib.hid E1
          have HST := Lib.hid hst
          clear hst hCo
          go_wp2
          go_quiet ((go_at_call 84; exact Calls.quiet_of_same ((E1.out _).mono fun _ _ h => ⟨h.1, h.2.symm⟩)))
          go_wp2
          go_roundg (n - (k + 1))
          case measure => omega
          case rel => exact ⟨k + 1, by omega, rfl, by go_num, by rw [HST.out]; exact HFJ.out _ _ _ none HPJ'.out (grown_drewC wr nq) (fun r e => by cases e), HK.out.trans (Keeps.grown (grown_drewC wr nq) (fun r e => by cases e)), HCo.out⟩
        · have e1 := HIN.out k wr.drew hCo
          rw [decide_eq_false (fun h => hmem ((HME.out k).1 h))] at e1
          rw [if_neg hmem] at hst
          replace E1 := Lib.hid e1
          have HST := Lib.hid hst
          have EI := HIH.out k hlt hmem
          rw [show (cs ++ [k]).length = d + 1 by rw [HD.out]; simp] at EI
          replace EI := Lib.hid EI
          have c3 : wr.drew.cell? ⟨Bg, 0, none⟩ = _ := HOB'.out.bg
          have hown : wr.drew.ownsRow 0 3 1 (.slice (some ⟨g, 0, none⟩) d n) d ((ints cs).map (Value.int .i64)) := by rw [HD.out]; exact hCo
          have HOWN := Lib.hid hown
          clear hst hCo hown e1
          go_wp2
          go_region_held3 (fun w' => w'.cell? ⟨Bg, 0, none⟩ = some (.func (.func 83) #[] #[.pointer (some ⟨Bn, 0, none⟩), .pointer (some ⟨By, 0, none⟩), .pointer (some ⟨Bg, 0, none⟩)]))
            (first | exact c3 | exact cell_alloc_l _ c3 | exact c4 | exact c5)
            (first
              | (go_at_call 84; refine (E1.out).mono ?_; rintro e w' ⟨rfl, rfl⟩)
              | (refine step_append_fitsG _ (by rfl) (.tmp 24) (.tmp 26) 29 rfl 0 3 i3 1 Try.underlying29 HJ.out.1 HJ.out.2.2.1 g d n ((ints cs).map (Value.int .i64)) rfl (HOWN.out.alloc _) ⟨wr.heap.size, 0, none⟩ 1 1 [.int .i64 k] rfl rfl (cell_one_at _ _ _ rfl) (fun x hx => by simp at hx; subst hx; rfl) (by omega) ?_; intro w1 hown' hgrow; have hg1 : wr.grownBy w1 (some g) := (World.grownBy_alloc wr _ _).trans (undrew hgrow); have c4 : w1.cell? ⟨Bg, 0, none⟩ = _ := (hg1.cell_far ⟨Bg, 0, none⟩ (World.block_lt_of_cell? _ _ c3) (fun e => hng (by injection e))).trans c3; have HC1 := Lib.hid (show ColsAt w1 g n (cs ++ [k]) by unfold ColsAt; rw [ints_snoc, show (cs ++ [k]).length = d + 1 by rw [HD.out]; simp]; exact hown'); have HG1 := Lib.hid hg1; clear hown' hgrow hg1)
              | (go_at_call 83; refine (EI.out w1 HC1.out (HO.out _ _ HOB'.out (Keeps.grown HG1.out (fun r e => by cases e; exact Or.inr rfl))) (HFJ.out _ _ _ _ HPJ'.out HG1.out (fun r e => by cases e; exact hB))).mono ?_; rintro e w2 ⟨rfl, hj2, hk2, hc2⟩; have c5 : w2.cell? ⟨Bg, 0, none⟩ = _ := (HO.out _ _ (HO.out _ _ HOB'.out (Keeps.grown HG1.out (fun r e => by cases e; exact Or.inr rfl))) hk2).bg; have HJ2 := Lib.hid hj2; have HK2 := Lib.hid ((Keeps.grown HG1.out (fun r e => by cases e; exact Or.inr rfl)).trans hk2); have HC2 := Lib.hid hc2.init; clear hj2 hk2 hc2))
          go_wp2
          go_roundg (n - (k + 1))
          case measure => omega
          case rel => exact ⟨k + 1, by omega, rfl, by go_num, by rw [HST.out, List.map_append, ← List.append_assoc]; exact HJ2.out, HK.out.trans HK2.out, HC2.out⟩
      · have hqn : n = k := by omega
        subst hqn
        go_wp2
        go_ret
        exact ⟨rfl, hj, hK, hCo⟩

end Go.Proofs.Ytiabnlebonmedaa
