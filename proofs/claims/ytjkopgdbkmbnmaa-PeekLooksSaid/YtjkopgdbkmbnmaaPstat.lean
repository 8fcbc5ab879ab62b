/-
  Package peek: Stat.
-/
import Derived.Test.YtjkopgdbkmbnmaaPnode
import Derived.Test.YtjkopgdbkmbnmaaPbox
namespace Go.Proofs.Ytjkopgdbkmbnmaa.P
open Go.RowKit Go.Shelf G
attribute [local go_sem] Oper.semAt_some

section
variable {B X A M : Nat} {mv : Value} {st : St} {w : World}
set_option maxRecDepth 100000 in
set_option maxHeartbeats 16000000 in
theorem Stat_any (h : Wd B X A M mv st w) (k : Int) (hk : T.Wf k) : Calls Try.prog 8 #[.pointer (some ⟨X, 0, none⟩), .int .i64 k] w fun e w' =>
    e = .returned (.tuple #[(told (gets st.n k)).v, .int .i64 (noneE st k)]) ∧ Below w.heap.size w w' := by
  have hb1 : Below w.heap.size w (w.alloc (.cells #[.int .i64 0, .int .i64 0, .int .i64 0, .int .i64 0, .int .i64 0, .int .i64 0, .int .i64 0, .int .i64 0, .int .i64 0, .int .i64 0] 37)) := (Below.refl _ _).alloc (Nat.le_refl _) _
  have B1 := SBox.new Sd.zero w
  dsimp only [Sd.zero] at B1
  have hs1 : (w.alloc (.cells #[.int .i64 0, .int .i64 0, .int .i64 0, .int .i64 0, .int .i64 0, .int .i64 0, .int .i64 0, .int .i64 0, .int .i64 0, .int .i64 0] 37)).heap.size = w.heap.size + 1 := by simp
  have cc := fun W (hb : Below w.heap.size w W) => node_any (h.below hb) k hk
  have hz := gets_zero (st := st) (k := k)
  unfold noneE at cc ⊢
  clear h
  generalize gets st.n k = nd at *
  generalize (get st.n k).isSome = bb at *
  go_enter Try.func8, Try.ntmps8
  go_upto_region 1 with fail
  generalize w.alloc (.cells #[.int .i64 0, .int .i64 0, .int .i64 0, .int .i64 0, .int .i64 0, .int .i64 0, .int .i64 0, .int .i64 0, .int .i64 0, .int .i64 0] 37) = W1 at B1 hb1 hs1 ⊢
  have c1 := cc W1 hb1
  obtain ⟨b0, hbd⟩ : ∃ b, w.heap.size = b := ⟨_, rfl⟩
  rw [hbd] at B1 hb1 hs1 ⊢
  have HB := Lib.hid hbd
  clear hbd cc
  obtain ⟨no, dev, kind, mode, uid, gid, mt, ct, links, up, data, es⟩ := nd
  have HZ := Lib.hid hz
  clear hz
  dsimp only [T.Nd.v] at c1
  go_upto_region 2 with (go_at_call 23; refine c1.mono ?_; rintro e w3 ⟨u, rfl, hO, hb3⟩; obtain ⟨ou, cu, rfl⟩ := T.own_slice hO; have B3 := T.BoxN.new ⟨no, dev, kind, mode, uid, gid, mt, ct, links, up, data, es⟩ (.slice ou es.length cu) w3)
  have hal : Below w3.heap.size w3 (w3.alloc (.cells #[.int .i64 no, .int .i64 dev, .int .i64 kind, .int .i64 mode, .int .i64 uid, .int .i64 gid, .int .i64 mt, .int .i64 ct, .int .i64 links, .int .i64 up, .string data, .slice ou es.length cu] 70)) := (Below.refl _ _).alloc (Nat.le_refl _) _
  have D2 := (B1.below hb3).below hal
  have hb4 : Below b0 w (w3.alloc (.cells #[.int .i64 no, .int .i64 dev, .int .i64 kind, .int .i64 mode, .int .i64 uid, .int .i64 gid, .int .i64 mt, .int .i64 ct, .int .i64 links, .int .i64 up, .string data, .slice ou es.length cu] 70)) := (hb1.trans (hb3.mono (by omega))).trans (hal.mono (by have := hb3.size; omega))
  generalize w3.heap.size = b3 at *
  generalize w3.alloc (.cells #[.int .i64 no, .int .i64 dev, .int .i64 kind, .int .i64 mode, .int .i64 uid, .int .i64 gid, .int .i64 mt, .int .i64 ct, .int .i64 links, .int .i64 up, .string data, .slice ou es.length cu] 70) = W4 at B3 D2 hb4 ⊢
  clear B1 hb3 hO c1 hal
  obtain ⟨a0, a1, a2, a3, a4, a5, a6, a7, a8, a9⟩ := D2.facts
  obtain ⟨f0, f1, f2, f3, f4, f5, f6, f7, f8, f9⟩ := D2.open
  obtain ⟨g0, g1, g2, g3, g4, g5, g6, g7, g8, g9, g10, g11⟩ := B3.facts
  dsimp only at a0 a1 a2 a3 a4 a5 a6 a7 a8 a9 g0 g1 g2 g3 g4 g5 g6 g7 g8 g9 g10 g11
  cases bb with
  | false =>
    have e := HZ.out rfl
    cases e
    go_upto_region 3 with fail
    go_wp
    have D3 := D2.fill Sd.zero
    have hb5 := hb4.trans (below_fillS (Nat.le_refl b0) W4 Sd.zero)
    unfold fillS Sd.zero at D3 hb5
    dsimp only at D3 hb5
    generalize World.setCell _ _ _ = W5 at D3 hb5 ⊢
    obtain ⟨q0, q1, q2, q3, q4, q5, q6, q7, q8, q9⟩ := D3.facts
    dsimp only at q0 q1 q2 q3 q4 q5 q6 q7 q8 q9
    refine bodyPost_ret (by simp [results, Try.results8, go_sem, q0, q1, q2, q3, q4, q5, q6, q7, q8, q9]; rfl) rfl ?_
    exact ⟨rfl, HB.out ▸ hb5⟩
  | true =>
    go_upto_region 4 with fail
    go_wp
    have D3 := D2.fill (told ⟨no, dev, kind, mode, uid, gid, mt, ct, links, up, data, es⟩)
    have hb5 := hb4.trans (below_fillS (Nat.le_refl b0) W4 (told ⟨no, dev, kind, mode, uid, gid, mt, ct, links, up, data, es⟩))
    unfold fillS told at D3 hb5
    dsimp only at D3 hb5
    generalize World.setCell _ _ _ = W5 at D3 hb5 ⊢
    obtain ⟨q0, q1, q2, q3, q4, q5, q6, q7, q8, q9⟩ := D3.facts
    dsimp only at q0 q1 q2 q3 q4 q5 q6 q7 q8 q9
    refine bodyPost_ret (by simp [results, Try.results8, go_sem, q0, q1, q2, q3, q4, q5, q6, q7, q8, q9]; rfl) rfl ?_
    exact ⟨rfl, HB.out ▸ hb5⟩
end
end Go.Proofs.Ytjkopgdbkmbnmaa.P
