/- impl.sets as an iterator whose rounds may leave. -/
import Derived.Test.YtbclpbgomkfabaaSetsK
import Derived.Test.YtbclpbgomkfabaaSeqF
namespace Go.Proofs.Ytbclpbgomkfabaa
open Go.RowKit Go.Deep Go.Shelf

theorem sets_seqE (n : Nat) (hn : 2 ≤ n) (Bn Bk N k M : Nat) (hN : N ≤ 6) (hM : 2 ^ N = M) (w : World) (h1 : Bn < w.heap.size) (h2 : Bk < w.heap.size)
    (hBn : w.cell? ⟨Bn, 0, none⟩ = some (.int .i64 N)) (hBk : w.cell? ⟨Bk, 0, none⟩ = some (.int .i64 k)) :
    SeqE Fence.wide n Try.prog 161 #[.pointer (some ⟨Bn, 0, none⟩), .pointer (some ⟨Bk, 0, none⟩)] (fun x : Nat => #[Value.int .i64 (x : Int)]) (fun x _ => x < M ∧ popcS x = k) (fun q => q = Bn ∨ q = Bk) (fun ys => ys = setsTo k M) (fun _ => True) M w := by
  intro l J Jx own W hW hown hJ hJx hY hj
  refine CallsIn.mono (sets1_in n hn l Bn Bk N k M hN hM (Kp2 Bn Bk) (fun _ _ h => h)
    (fun pre W => J pre W ∧ W.cell? ⟨Bn, 0, none⟩ = some (.int .i64 N) ∧ W.cell? ⟨Bk, 0, none⟩ = some (.int .i64 k)) (fun pre W => Jx pre W) (fun s V hV => ?_) (fun pre x V hV hp hx hk => ?_) W
    ((hW.cell (p := ⟨Bn, 0, none⟩) h1).trans hBn) ((hW.cell (p := ⟨Bk, 0, none⟩) h2).trans hBk) ⟨hj, (hW.cell (p := ⟨Bn, 0, none⟩) h1).trans hBn, (hW.cell (p := ⟨Bk, 0, none⟩) h2).trans hBk⟩) ?_
  · exact ⟨hJ s V V.drew none hV.1 ⟨rfl, rfl, rfl, Nat.le_refl _, fun _ _ _ => rfl⟩ (fun r e => by cases e), hV.2.1, hV.2.2⟩
  · have hl : pre.length < M := by
      rw [hp]
      have := setsTo_len k x
      omega
    obtain ⟨hjv, c1, c2⟩ := hV
    obtain ⟨fn, tmps, assign, body, hy, hR⟩ := hY pre x V hjv ⟨hx, hk⟩ hl
    refine ⟨fn, tmps, assign, body, hy, hR.mono ?_⟩
    rintro e W' (⟨r1, r2, r3⟩ | ⟨r1, r2, _⟩)
    · have d1 := r3.cell (a := ⟨Bn, 0, none⟩) (fun h => (hown _ h).2 (.inl rfl)) c1
      have d2 := r3.cell (a := ⟨Bk, 0, none⟩) (fun h => (hown _ h).2 (.inr rfl)) c2
      exact .inl ⟨r1, ⟨r2, d1, d2⟩, d1.trans c1.symm, d2.trans c2.symm⟩
    · exact .inr ⟨r1, r2⟩
  · rintro e W' ⟨r1, (⟨zs, rfl, hj2⟩ | ⟨pre, _, hj2⟩)⟩
    · exact ⟨r1, .inl ⟨_, rfl, hj2.1⟩⟩
    · exact ⟨r1, .inr ⟨_, trivial, hj2⟩⟩

end Go.Proofs.Ytbclpbgomkfabaa
