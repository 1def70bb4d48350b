/- The contract of the closure that goes on with pairings. -/
import Derived.Test.YtpimdgijjljejaaDoorSeqD
import Derived.Test.YtpimdgijjljejaaDoorPairL
import Derived.Test.YtpimdgijjljejaaDoorTrail
import Derived.Test.YtpimdgijjljejaaDoorOrders
namespace Go.Proofs.YtpimdgijjljejaaDoor
open Go.RowKit Go.Deep Go.Shelf
attribute [local go_sem] Oper.semAt_some

theorem infoP : (Tryd.prog.info? 72).map (fun i => (i.size, i.bytes)) = some (2, 16) := by kernel_rfl
theorem infoP_parts : ∃ i, Tryd.prog.info? 72 = some i ∧ i.size = 2 ∧ i.bytes = 16 := by
  have h := infoP
  cases e : Tryd.prog.info? 72 with
  | none => rw [e] at h; cases h
  | some i =>
    rw [e] at h
    simp only [Option.map_some, Option.some.injEq, Prod.mk.injEq] at h
    exact ⟨i, rfl, h.1, h.2⟩

/-- The cells of pairs. -/
def pr2 (ps : List (Nat × Nat)) : List Value := ps.flatMap fun p => [.int .i64 (p.1 : Int), .int .i64 (p.2 : Int)]
theorem pr2_length : ∀ ps, (pr2 ps).length = ps.length * 2
  | [] => rfl
  | p :: ps => by
    have := pr2_length ps
    unfold pr2 at this ⊢
    rw [List.flatMap_cons, List.length_append, this, List.length_cons]
    simp only [List.length_cons, List.length_nil]
    omega
theorem pr2_snoc (ps : List (Nat × Nat)) (p : Nat × Nat) : pr2 (ps ++ [p]) = pr2 ps ++ [.int .i64 (p.1 : Int), .int .i64 (p.2 : Int)] := by simp [pr2]
theorem pr2_get : ∀ (ps : List (Nat × Nat)) (i : Nat), i < ps.length → (pr2 ps)[i * 2]? = some (.int .i64 ((ps.getD i (0, 0)).1 : Int)) ∧ (pr2 ps)[i * 2 + 1]? = some (.int .i64 ((ps.getD i (0, 0)).2 : Int))
  | [], i, h => by simp at h
  | p :: ps, 0, _ => ⟨rfl, rfl⟩
  | p :: ps, i + 1, h => by
    have := pr2_get ps i (by simp at h; omega)
    rw [show (i + 1) * 2 = i * 2 + 2 by omega]
    exact this
/-- Pairs as they are read. -/
def PairsR (w : World) (g : Nat) (ps : List (Nat × Nat)) : Prop := ∀ i, i < ps.length → w.cell? ⟨g, i * 2, none⟩ = some (.int .i64 ((ps.getD i (0, 0)).1 : Int)) ∧ w.cell? ⟨g, i * 2 + 1, none⟩ = some (.int .i64 ((ps.getD i (0, 0)).2 : Int))
/-- The pairs so far, in a row of one's own. -/
def PairsAt (w : World) (g cap : Nat) (ps : List (Nat × Nat)) : Prop := w.ownsRow 0 72 2 (.slice (some ⟨g, 0, none⟩) ps.length cap) ps.length (pr2 ps)
theorem PairsAt.init {w : World} {g cap : Nat} {ps : List (Nat × Nat)} {p : Nat × Nat} (h : PairsAt w g cap (ps ++ [p])) : PairsAt w g cap ps := by
  unfold PairsAt at h ⊢
  rw [show (ps ++ [p]).length = ps.length + 1 by simp, pr2_snoc] at h
  refine ⟨pr2_length ps, ?_⟩
  rcases h.2 with ⟨h', _⟩ | ⟨g', cap', cur, h', hb, hg, hle, hm, hs, ht⟩
  · simp at h'
  · simp only [Value.slice.injEq, Option.some.injEq, Addr.mk.injEq, and_true, true_and] at h'
    obtain ⟨rfl, rfl⟩ := h'
    refine .inr ⟨g, cap, cur, rfl, hb, hg, by omega, hm, hs, ?_⟩
    have e := congrArg (List.take (ps.length * 2)) ht
    rw [List.take_take, Nat.min_eq_left (by omega)] at e
    rw [e, List.take_append_of_le_length (by rw [pr2_length]; exact Nat.le_refl _), ← pr2_length ps, List.take_length]
theorem PairsAt.read {w : World} {g cap : Nat} {ps : List (Nat × Nat)} (h : PairsAt w g cap ps) : PairsR w g ps := fun i hi => by
  obtain ⟨e1, e2⟩ := pr2_get ps i hi
  exact ⟨(World.ownsRow.cellAt h (i * 2) (by omega)).trans e1, (World.ownsRow.cellAt h (i * 2 + 1) (by omega)).trans e2⟩
theorem PairsAt.keeps {own : Nat → Prop} {w w' : World} {g cap : Nat} {ps : List (Nat × Nat)} (h : PairsAt w g cap ps) (hk : Keeps own w w') (hg : ¬ own g) : PairsAt w' g cap ps := by
  refine ⟨h.1, ?_⟩
  rcases h.2 with h' | ⟨g', cap', cur, h', hb, hgg, rest⟩
  · exact .inl h'
  · simp only [Value.slice.injEq, Option.some.injEq, Addr.mk.injEq, and_true, true_and] at h'
    obtain ⟨rfl, rfl⟩ := h'
    exact .inr ⟨g, cap, cur, rfl, hb, hk.same _ _ hg hgg, rest⟩

/-- A pairing that has come: its block and its pairs. -/
abbrev PX := Nat × List (Nat × Nat)
def pxP (n : Nat) (x : PX) (W : World) : Prop := (2 * x.2.length = n ∧ ∀ p ∈ x.2, p.1 < p.2 ∧ p.2 < n) ∧ PairsR W x.1 x.2
def pxV (n : Nat) (x : PX) : Array Value := #[.slice (some ⟨x.1, 0, none⟩) x.2.length (n / 2)]

/-- The boxes of the closure. -/
structure PB (By Bn Bg n l : Nat) (W : World) : Prop where
  yb : W.cell? ⟨By, 0, none⟩ = some (.func (.yield l) #[] #[])
  bn : W.cell? ⟨Bn, 0, none⟩ = some (.int .i64 n)
  bg : W.cell? ⟨Bg, 0, none⟩ = some (.func (.func 81) #[] #[.pointer (some ⟨By, 0, none⟩), .pointer (some ⟨Bn, 0, none⟩), .pointer (some ⟨Bg, 0, none⟩)])
  tz : TZ W
theorem PB.keeps {By Bn Bg n l : Nat} {W W' : World} {own : Nat → Prop} (h : PB By Bn Bg n l W) (hk : Keeps own W W') (h1 : ¬ own Bn) (h2 : ¬ own By) (h3 : ¬ own Bg) (h4 : ¬ own 1) : PB By Bn Bg n l W' :=
  ⟨hk.cell (a := ⟨By, 0, none⟩) h2 h.yb, hk.cell (a := ⟨Bn, 0, none⟩) h1 h.bn, hk.cell (a := ⟨Bg, 0, none⟩) h3 h.bg, fun i hi => hk.cell (a := ⟨1, 2 ^ i - 1, none⟩) h4 (h.tz i hi)⟩

theorem or2_fin : ∀ i k : Fin 6, i.val < k.val → bits BinOp.or IntKind.i64 (2 ^ i.val) (2 ^ k.val) = ((2 ^ i.val + 2 ^ k.val : Nat) : Int) := by decide +kernel
theorem off2_fin : ∀ s : Fin 64, ∀ i k : Fin 6, i.val < k.val → s.val.testBit i.val = true → s.val.testBit k.val = true → bits BinOp.andNot IntKind.i64 (s.val : Int) ((2 ^ i.val + 2 ^ k.val : Nat) : Int) = ((s.val - 2 ^ i.val - 2 ^ k.val : Nat) : Int) := by decide +kernel
theorem popcS_one : ∀ s : Fin 64, 0 < s.val → 1 ≤ popcS s.val := by decide +kernel

set_option maxRecDepth 100000 in
set_option maxHeartbeats 4000000 in
theorem goP_any (l By Bn Bg g n N B : Nat) (own : Nat → Prop) (J : List PX → World → Prop) (h6 : n ≤ 6) (hJ : FromB B J) (hBy : B ≤ By) (hBg : B ≤ Bg) (hB : B ≤ g) (hny : By ≠ g) (hng : Bg ≠ g) (hnn : Bn ≠ g) (h1B : 1 < B) (hown : ∀ k, own k → k < B ∧ k ≠ Bn ∧ k ≠ 1)
    (hY : ∀ m pre x W, J pre W → pxP n x W → pre.length < N → YieldAt Fence.wide m Tryd.prog l (pxV n x) W fun e W' => e = .returned (.bool true) ∧ J (pre ++ [x]) W' ∧ Keeps own W W') :
    ∀ (d s : Nat) (ps : List (Nat × Nat)) (pre : List PX) (W : World), s < 2 ^ n → popcS s ≤ 2 * d → popcS s + 2 * ps.length = n → (∀ p ∈ ps, p.1 < p.2 ∧ p.2 < n) → PB By Bn Bg n l W → PairsAt W g (n / 2) ps → J pre W → pre.length + (pqL n d s).length ≤ N →
      Calls Tryd.prog 81 #[.slice (some ⟨g, 0, none⟩) ps.length (n / 2), .int .i64 s, .pointer (some ⟨By, 0, none⟩), .pointer (some ⟨Bn, 0, none⟩), .pointer (some ⟨Bg, 0, none⟩)] W fun e W' =>
        e = .returned (.bool true) ∧ J (pre ++ (pqL n d s).map (fun q => (g, ps ++ q))) W' ∧ Keeps (fun k => own k ∨ k = g) W W' ∧ PairsAt W' g (n / 2) ps := by
  have h64 : 2 ^ n ≤ 2 ^ 6 := Nat.pow_le_pow_right (by omega) h6
  have hzero : ∀ (d : Nat) (ps : List (Nat × Nat)) (pre : List PX) (W : World), 2 * ps.length = n → (∀ p ∈ ps, p.1 < p.2 ∧ p.2 < n) → PB By Bn Bg n l W → PairsAt W g (n / 2) ps → J pre W → pre.length + (pqL n d 0).length ≤ N →
      Calls Tryd.prog 81 #[.slice (some ⟨g, 0, none⟩) ps.length (n / 2), .int .i64 0, .pointer (some ⟨By, 0, none⟩), .pointer (some ⟨Bn, 0, none⟩), .pointer (some ⟨Bg, 0, none⟩)] W fun e W' =>
        e = .returned (.bool true) ∧ J (pre ++ (pqL n d 0).map (fun q => (g, ps ++ q))) W' ∧ Keeps (fun k => own k ∨ k = g) W W' ∧ PairsAt W' g (n / 2) ps := by
    intro d ps pre W hl hp hob hps hj hN
    rw [pqL_none] at hN ⊢
    obtain ⟨fn, tmps, assign, body, hy, hR⟩ := hY 7 pre (g, ps) W hj ⟨⟨hl, hp⟩, hps.read⟩ (by simp at hN; omega)
    obtain ⟨hb1, _, _, _⟩ := hob
    dsimp only [pxV] at hy
    have HC := Lib.hid hps
    clear hps hp hN hj
    refine (callsIn_wide (n := 8)).1 ?_
    refine callsIn_of_wp Tryd.func81 rfl trivial ?_ rfl
    simp only [Tryd.ntmps81, List.size_toArray, List.length_cons, List.length_nil, Nat.reduceAdd, Nat.reduceSub, Array.replicate_succ, Array.replicate_zero, List.push_toArray, List.append_toArray, List.nil_append, List.cons_append]
    gi_wp2
    refine hR.mono ?_
    rintro e W3 ⟨rfl, hJ3, hk3⟩
    gi_wp2
    go_ret
    exact ⟨rfl, by simpa using hJ3, hk3.mono fun _ h => .inl h, HC.out.keeps hk3 (fun h => by have := (hown _ h).1; omega)⟩
  intro d
  induction d with
  | zero =>
    intro s ps pre W hs hp hpl hps hob hat hj hN
    have h0 : s = 0 := Nat.eq_zero_of_not_pos (fun h => absurd (popcS_one ⟨s, by omega⟩ h) (by simp; omega))
    subst h0
    exact hzero 0 ps pre W (by rw [show popcS 0 = 0 by decide] at hpl; omega) hps hob hat hj hN
  | succ d ih =>
    intro s ps pre W hs hp hpl hps hob hat hj hN
    by_cases h0 : s = 0
    · subst h0
      exact hzero (d + 1) ps pre W (by rw [show popcS 0 = 0 by decide] at hpl; omega) hps hob hat hj hN
    · clear hzero
      obtain ⟨ip, hip⟩ := infoP_parts
      have HJ := Lib.hid hip
      obtain ⟨l1, l2, l3⟩ := lowB_fin ⟨s, by omega⟩ h0
      clear l3
      have l4 := lowB_in ⟨n, by omega⟩ ⟨s, by omega⟩ hs h0
      simp only at l1 l2 l4
      rw [pqL_some n d h0] at hN ⊢
      have hT0 := pqT_start n d s (lowB s + 1) (Nat.le_refl _)
      have hTS := fun k => pqT_step n d s k
      have hTL := fun k (hk : k ≤ n) => pqT_le n d s k n hk
      obtain ⟨i, hi⟩ : ∃ i, lowB s = i := ⟨_, rfl⟩
      have ETZ := fun (V : World) (hT : TZ V) => trailing_any s (by omega) h0 V hT
      simp only [hi] at l1 l2 l4 hT0 hTS ETZ
      have hne : ((s : Int) == 0) = false := by simp; omega
      have HN := Lib.hid (fun (k : Nat) (hk : k < n) (hc : i < k ∧ s.testBit k = true) => show (pre ++ (pqT n d s k).map (fun q => (g, ps ++ q))).length + (pqL n d (s - 2 ^ i - 2 ^ k)).length ≤ N from by
        have h1 := hTS k
        rw [if_pos hc] at h1
        have h2 := hTL (k + 1) (by omega)
        rw [h1] at h2
        simp only [List.length_append, List.length_map] at h2 ⊢
        omega)
      have HIH := Lib.hid (fun (k : Nat) (hk : k < n) (hc : i < k ∧ s.testBit k = true) (V : World) (h1 : PairsAt V g (n / 2) (ps ++ [(i, k)])) (h2 : PB By Bn Bg n l V) (h3 : J (pre ++ (pqT n d s k).map (fun q => (g, ps ++ q))) V) => by
        obtain ⟨_, _, t3⟩ := two_off ⟨s, by omega⟩ ⟨i, l2⟩ ⟨k, by omega⟩ hc.1 l1 hc.2
        simp only at t3
        exact ih (s - 2 ^ i - 2 ^ k) (ps ++ [(i, k)]) (pre ++ (pqT n d s k).map (fun q => (g, ps ++ q))) V (two_less hs) (by omega) (by rw [List.length_append, List.length_singleton]; omega) (fun p hp => by
          rcases List.mem_append.1 hp with hp | hp
          · exact hps p hp
          · simp at hp; subst hp; exact ⟨hc.1, hk⟩) h2 h1 h3 (HN.out k hk hc))
      have hTS0 := fun (k : Nat) (hc : ¬(i < k ∧ s.testBit k = true)) => show pqT n d s (k + 1) = pqT n d s k from by rw [hTS, if_neg hc, List.append_nil]
      have HTS0 := Lib.hid hTS0
      have HTS1 := Lib.hid (fun (k : Nat) (hc : i < k ∧ s.testBit k = true) => show (pre ++ (pqT n d s (k + 1)).map (fun q => (g, ps ++ q))) = pre ++ (pqT n d s k).map (fun q => (g, ps ++ q)) ++ (pqL n d (s - 2 ^ i - 2 ^ k)).map (fun q => (g, ps ++ [(i, k)] ++ q)) from by
        rw [hTS, if_pos hc, List.map_append, List.map_map, ← List.append_assoc]
        congr 2
        funext q
        simp)
      have HO := Lib.hid (show ∀ (V V' : World), PB By Bn Bg n l V → Keeps (fun k => own k ∨ k = g) V V' → PB By Bn Bg n l V' from fun V V' h hk => h.keeps hk (fun h => h.elim (fun h => (hown _ h).2.1 rfl) hnn) (fun h => h.elim (fun h => by have := (hown _ h).1; omega) hny) (fun h => h.elim (fun h => by have := (hown _ h).1; omega) hng) (fun h => h.elim (fun h => (hown _ h).2.2 rfl) (fun h => by omega)))
      have HIN := Lib.hid (fun (k : Nat) (hk : k < n) (V : World) => inSet_any s k (by omega) (by omega) V)
      have HT0 := Lib.hid hT0
      have HFJ := Lib.hid hJ
      have HC := Lib.hid hat
      have HPJ := Lib.hid hj
      have HOB := Lib.hid hob
      have HOR := Lib.hid (show ∀ k : Nat, k < n → i < k → bits BinOp.or IntKind.i64 (2 ^ i) (2 ^ k) = ((2 ^ i + 2 ^ k : Nat) : Int) from fun k hk hik => or2_fin ⟨i, l2⟩ ⟨k, by omega⟩ hik)
      have HOF := Lib.hid (show ∀ k : Nat, k < n → i < k → s.testBit k = true → bits BinOp.andNot IntKind.i64 (s : Int) ((2 ^ i + 2 ^ k : Nat) : Int) = ((s - 2 ^ i - 2 ^ k : Nat) : Int) from fun k hk hik hb => off2_fin ⟨s, by omega⟩ ⟨i, l2⟩ ⟨k, by omega⟩ hik l1 hb)
      have hs64 : s < 64 := by omega
      have ET := Lib.hid (ETZ W hob.tz)
      have hws : IntKind.u64.wrap (s : Int) = (s : Int) := IntWalk.u64_in _ ⟨by omega, by omega⟩
      have hwi : IntKind.i64.wrap ((i : Int) + 1) = ((i + 1 : Nat) : Int) := (IntWalk.i64_in _ ⟨by omega, by omega⟩).trans (by omega)
      have hpi := pow_in ⟨i, l2⟩
      simp only at hpi
      have hmi : min i 64 = i := by omega
      obtain ⟨m, hmm⟩ : ∃ m, ps.length = m := ⟨_, rfl⟩
      have HM := Lib.hid hmm
      have HM2 := Lib.hid (fun (k : Nat) (hk : k < n) (hc : i < k ∧ s.testBit k = true) => show m + 1 ≤ n / 2 from by
        obtain ⟨_, _, t3⟩ := two_off ⟨s, by omega⟩ ⟨i, l2⟩ ⟨k, by omega⟩ hc.1 l1 hc.2
        simp only at t3
        omega)
      rw [hmm]
      clear ih hTS hTL hT0 ETZ hN hj hat hob hJ hY hown hip hpl hp hs hps hi hmm hTS0
      go_enter Tryd.func81, Tryd.ntmps81
      go_wp2_with (go_at_call 82; refine (ET.out).mono ?_; rintro e w' ⟨rfl, rfl⟩)
      go_loopg [9, 10] (n - (i + 1)) (fun q kv _ wr => ∃ k : Nat, i < k ∧ k ≤ n ∧ q = n - k ∧ kv = .int .i64 k ∧ J (pre ++ (pqT n d s k).map (fun q => (g, ps ++ q))) wr ∧ Keeps (fun k => own k ∨ k = g) W wr ∧ PairsAt wr g (n / 2) ps)
      case atStart => exact ⟨i + 1, by omega, by omega, rfl, rfl, by rw [HT0.out]; simpa using HPJ.out, Keeps.refl _ _, HC.out⟩
      case round =>
        obtain ⟨k, hik, hk, rfl, rfl, hj, hK, hAt⟩ := hrel
        have hob' := HO.out _ _ HOB.out hK
        have cn := hob'.bn
        by_cases hlt : k < n
        · have hor := HOR.out k hlt hik
          have hpk := pow_in ⟨k, by omega⟩
          simp only at hpk
          have hmk : min k 64 = k := by omega
          have hwk : IntKind.i64.wrap ((k : Int) + 1) = ((k + 1 : Nat) : Int) := (IntWalk.i64_in _ ⟨by omega, by omega⟩).trans (by omega)
          obtain ⟨u, hu⟩ : ∃ u, 2 ^ i + 2 ^ k = u := ⟨_, rfl⟩
          rw [hu] at hor
          have HUU := Lib.hid hu
          have HOB' := Lib.hid hob'
          have HPJ' := Lib.hid hj
          have HK := Lib.hid hK
          have HAt := Lib.hid hAt
          clear hob' hj hK hAt hu
          go_wp2
          go_quiet (fail)
          have hobV := HO.out _ _ HOB'.out (Keeps.grown (grown_drewC wr nq) (fun r e => by cases e))
          have hjV := HFJ.out _ _ _ none HPJ'.out (grown_drewC wr nq) (fun r e => by cases e)
          have hKV := HK.out.trans (Keeps.grown (grown_drewC wr nq) (fun r e => by cases e))
          have hAt : PairsAt (wr.drewN nq) g (n / 2) ps := HAt.out
          obtain ⟨V1, hV1⟩ : ∃ V1, wr.drewN nq = V1 := ⟨_, rfl⟩
          rw [hV1] at hobV hjV hKV hAt ⊢
          clear HOB' HPJ' HK HAt hV1 cn
          have HOB' := Lib.hid hobV
          have HPJ' := Lib.hid hjV
          have HK := Lib.hid hKV
          have HAt := Lib.hid hAt
          clear hobV hjV hKV
          have E1 := HIN.out k hlt
          cases hb : s.testBit k with
          | false =>
            simp only [hb] at E1
            have hst := HTS0.out k (by rw [hb]; simp)
            have HST := Lib.hid hst
            replace E1 := Lib.hid (fun (p : Nat) => E1 (V1.drewN p))
            clear hst hAt hb
            go_wp2
            go_quiet ((go_at_call 83; exact Calls.quiet_of_same ((E1.out _).mono fun _ _ h => ⟨h.1, h.2.symm⟩)))
            go_wp2
            go_roundg (n - (k + 1))
            case measure => omega
            case rel => exact ⟨k + 1, by omega, by omega, rfl, by go_num, by rw [HST.out]; exact HFJ.out _ _ _ none HPJ'.out (grown_drewC V1 nq) (fun r e => by cases e), HK.out.trans (Keeps.grown (grown_drewC V1 nq) (fun r e => by cases e)), HAt.out⟩
          | true =>
            have e1 := E1 V1.drew
            rw [hb] at e1
            have hof := HOF.out k hlt hik hb
            rw [HUU.out] at hof
            have hst := HTS1.out k ⟨hik, hb⟩
            have hm2 := HM2.out k hlt ⟨hik, hb⟩
            have EI := HIH.out k hlt ⟨hik, hb⟩
            rw [show (ps ++ [(i, k)]).length = m + 1 by rw [List.length_append, HM.out]; rfl] at EI
            obtain ⟨r, hr⟩ : ∃ r, s - 2 ^ i - 2 ^ k = r := ⟨_, rfl⟩
            rw [hr] at hof EI hst
            replace E1 := Lib.hid e1
            replace EI := Lib.hid EI
            rw [hof]
            have HST := Lib.hid hst
            have c3 : V1.drew.cell? ⟨Bg, 0, none⟩ = _ := HOB'.out.bg
            have hown : V1.drew.ownsRow 0 72 2 (.slice (some ⟨g, 0, none⟩) m (n / 2)) m (pr2 ps) := by rw [← HM.out]; exact hAt
            have HOWN := Lib.hid hown
            clear hst hAt hown e1 hr hb
            go_wp2
            go_region_held3 (fun w' => w'.cell? ⟨Bg, 0, none⟩ = some (.func (.func 81) #[] #[.pointer (some ⟨By, 0, none⟩), .pointer (some ⟨Bn, 0, none⟩), .pointer (some ⟨Bg, 0, none⟩)]))
              (first | exact c3 | exact cell_alloc_l _ c3 | exact c4 | exact c5)
              (first
                | (go_at_call 83; refine (E1.out).mono ?_; rintro e w' ⟨rfl, rfl⟩)
                | (refine step_append_fitsG _ (by rfl) (.tmp 38) (.tmp 42) 69 rfl 0 72 ip 2 Tryd.underlying69 HJ.out.1 HJ.out.2.1 g m (n / 2) (pr2 ps) rfl (HOWN.out.alloc _) ⟨V1.heap.size, 0, none⟩ 1 1 [.int .i64 i, .int .i64 k] rfl rfl (World.news_of_block (World.alloc_heap_new V1.drew _)) (fun x hx => by simp at hx; rcases hx with rfl | rfl <;> rfl) hm2 ?_; intro w1 hown' hgrow; have hg1 : V1.grownBy w1 (some g) := (World.grownBy_alloc V1 _ _).trans (undrew hgrow); have c4 : w1.cell? ⟨Bg, 0, none⟩ = _ := (hg1.cell_far ⟨Bg, 0, none⟩ (World.block_lt_of_cell? _ _ c3) (fun e => hng (by injection e))).trans c3; have HC1 := Lib.hid (show PairsAt w1 g (n / 2) (ps ++ [(i, k)]) by unfold PairsAt; rw [pr2_snoc, show (ps ++ [(i, k)]).length = m + 1 by rw [List.length_append, HM.out]; rfl]; exact hown'); have HG1 := Lib.hid hg1; clear hown' hgrow hg1)
                | (go_at_call 81; refine (EI.out w1 HC1.out (HO.out _ _ HOB'.out (Keeps.grown HG1.out (fun r e => by cases e; exact Or.inr rfl))) (HFJ.out _ _ _ _ HPJ'.out HG1.out (fun r e => by cases e; exact hB))).mono ?_; rintro e w2 ⟨rfl, hj2, hk2, hc2⟩; have c5 : w2.cell? ⟨Bg, 0, none⟩ = _ := (HO.out _ _ (HO.out _ _ HOB'.out (Keeps.grown HG1.out (fun r e => by cases e; exact Or.inr rfl))) hk2).bg; have HJ2 := Lib.hid hj2; have HK2 := Lib.hid ((Keeps.grown HG1.out (fun r e => by cases e; exact Or.inr rfl)).trans hk2); have HC2 := Lib.hid hc2.init; clear hj2 hk2 hc2))
            go_wp2
            go_roundg (n - (k + 1))
            case measure => omega
            case rel => exact ⟨k + 1, by omega, by omega, rfl, by go_num, by rw [HST.out]; exact HJ2.out, HK.out.trans HK2.out, HC2.out⟩
        · have hqn : n = k := by omega
          subst hqn
          go_wp2
          go_ret
          exact ⟨rfl, hj, hK, hAt⟩

end Go.Proofs.YtpimdgijjljejaaDoor
