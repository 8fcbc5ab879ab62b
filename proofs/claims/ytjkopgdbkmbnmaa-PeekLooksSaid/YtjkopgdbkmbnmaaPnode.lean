/-
  Package peek: the node of a number; what is told of it.
-/
import Derived.Test.YtjkopgdbkmbnmaaPmath
import Derived.Deep.RegionHeld3
namespace Go.Proofs.Ytjkopgdbkmbnmaa.P
open Go.RowKit Go.Shelf G
attribute [local go_sem] Oper.semAt_some

section
variable {B X A M : Nat} {mv : Value} {st : St} {w : World}
set_option maxRecDepth 100000 in
set_option maxHeartbeats 16000000 in
theorem node_any (h : Wd B X A M mv st w) (k : Int) (hk : T.Wf k) : Calls Try.prog 23 #[.pointer (some ⟨X, 0, none⟩), .int .i64 k] w fun e w' =>
    ∃ u, e = .returned (.tuple #[(gets st.n k).v u, .int .i64 (noneE st k)]) ∧ E.Own w.heap.size u (gets st.n k).es w' ∧ Below w.heap.size w w' := by
  have hb1 : Below w.heap.size w (w.alloc (.cells #[.int .i64 0, .int .i64 0, .int .i64 0, .int .i64 0, .int .i64 0, .int .i64 0, .int .i64 0, .int .i64 0, .int .i64 0, .int .i64 0, .string ⟨#[]⟩, .slice none 0 0] 70)) := (Below.refl _ _).alloc (Nat.le_refl _) _
  have B1 := T.BoxN.new T.Nd.zero (.slice none 0 0) w
  dsimp only [T.Nd.zero] at B1
  have hs1 : (w.alloc (.cells #[.int .i64 0, .int .i64 0, .int .i64 0, .int .i64 0, .int .i64 0, .int .i64 0, .int .i64 0, .int .i64 0, .int .i64 0, .int .i64 0, .string ⟨#[]⟩, .slice none 0 0] 70)).heap.size = w.heap.size + 1 := by simp
  have hW := fun W (hb : Below w.heap.size w W) => (h.below hb).facts.1
  have cc := fun W (hb : Below w.heap.size w W) => Get_st (h.below hb) k hk
  have hz := gets_zero (st := st) (k := k)
  unfold noneE
  clear h
  generalize gets st.n k = nd at *
  generalize (get st.n k).isSome = bb at *
  go_enter Try.func23, Try.ntmps23
  go_upto_region 1 with fail
  generalize w.alloc (.cells #[.int .i64 0, .int .i64 0, .int .i64 0, .int .i64 0, .int .i64 0, .int .i64 0, .int .i64 0, .int .i64 0, .int .i64 0, .int .i64 0, .string ⟨#[]⟩, .slice none 0 0] 70) = W1 at B1 hb1 hs1 ⊢
  have x0 := hW W1 hb1
  have c1 := cc W1 hb1
  obtain ⟨b0, hbd⟩ : ∃ b, w.heap.size = b := ⟨_, rfl⟩
  rw [hbd] at B1 hb1 hs1 ⊢
  have HB := Lib.hid hbd
  clear hbd hW cc
  obtain ⟨no, dev, kind, mode, uid, gid, mt, ct, links, up, data, es⟩ := nd
  have HZ := Lib.hid hz
  clear hz
  dsimp only [T.Nd.v] at c1 ⊢
  go_upto_region 4 with (go_at_call 46; refine c1.mono ?_; rintro e w3 ⟨u, rfl, hO, hb3⟩; obtain ⟨ou, cu, rfl⟩ := T.own_slice hO; have B3 := T.BoxN.new ⟨no, dev, kind, mode, uid, gid, mt, ct, links, up, data, es⟩ (.slice ou es.length cu) w3)
  have hal : Below w3.heap.size w3 (w3.alloc (.cells #[.int .i64 no, .int .i64 dev, .int .i64 kind, .int .i64 mode, .int .i64 uid, .int .i64 gid, .int .i64 mt, .int .i64 ct, .int .i64 links, .int .i64 up, .string data, .slice ou es.length cu] 70)) := (Below.refl _ _).alloc (Nat.le_refl _) _
  have hO3 := T.own_kept hO (T.EntKept.below hal)
  have D2 := (B1.below hb3).below hal
  have hb4 : Below b0 w (w3.alloc (.cells #[.int .i64 no, .int .i64 dev, .int .i64 kind, .int .i64 mode, .int .i64 uid, .int .i64 gid, .int .i64 mt, .int .i64 ct, .int .i64 links, .int .i64 up, .string data, .slice ou es.length cu] 70)) := (hb1.trans (hb3.mono (by omega))).trans (hal.mono (by have := hb3.size; omega))
  have hlt : b0 < w3.heap.size := by have := hb3.size; omega
  generalize w3.heap.size = b3 at *
  generalize w3.alloc (.cells #[.int .i64 no, .int .i64 dev, .int .i64 kind, .int .i64 mode, .int .i64 uid, .int .i64 gid, .int .i64 mt, .int .i64 ct, .int .i64 links, .int .i64 up, .string data, .slice ou es.length cu] 70) = W4 at B3 hO3 D2 hb4 ⊢
  clear B1 hb3 hO c1 hal
  obtain ⟨a0, a1, a2, a3, a4, a5, a6, a7, a8, a9, a10, a11⟩ := D2.facts
  obtain ⟨f0, f1, f2, f3, f4, f5, f6, f7, f8, f9, f10, f11⟩ := D2.open
  obtain ⟨g0, g1, g2, g3, g4, g5, g6, g7, g8, g9, g10, g11⟩ := B3.facts
  dsimp only at g0 g1 g2 g3 g4 g5 g6 g7 g8 g9 g10 g11
  cases bb with
  | false =>
    have e := HZ.out rfl
    cases e
    go_upto_region 5 with fail
    go_wp
    have D3 := D2.fill T.Nd.zero (.slice none 0 0)
    have hb5 := hb4.trans (T.below_fill (Nat.le_refl b0) W4 T.Nd.zero (.slice none 0 0))
    unfold T.fill T.Nd.zero at D3 hb5
    dsimp only at D3 hb5
    generalize World.setCell _ _ _ = W5 at D3 hb5 ⊢
    obtain ⟨q0, q1, q2, q3, q4, q5, q6, q7, q8, q9, q10, q11⟩ := D3.facts
    dsimp only at q0 q1 q2 q3 q4 q5 q6 q7 q8 q9 q10 q11
    refine bodyPost_ret (by simp [results, Try.results23, go_sem, q0, q1, q2, q3, q4, q5, q6, q7, q8, q9, q10, q11]; rfl) rfl ?_
    exact ⟨.slice none 0 0, rfl, E.Own.nil _ _, HB.out ▸ hb5⟩
  | true =>
    go_upto_region 6 with fail
    go_wp
    have D3 := D2.fill ⟨no, dev, kind, mode, uid, gid, mt, ct, links, up, data, es⟩ (.slice ou es.length cu)
    have hb5 := hb4.trans (T.below_fill (Nat.le_refl b0) W4 ⟨no, dev, kind, mode, uid, gid, mt, ct, links, up, data, es⟩ (.slice ou es.length cu))
    have hO5 : E.Own b0 _ es _ := T.own_kept (hO3.mono (by omega)) (T.EntKept.fill D2 ⟨no, dev, kind, mode, uid, gid, mt, ct, links, up, data, es⟩ (.slice ou es.length cu))
    unfold T.fill at D3 hb5 hO5
    dsimp only at D3 hb5 hO5
    generalize World.setCell _ _ _ = W5 at D3 hb5 hO5 ⊢
    obtain ⟨q0, q1, q2, q3, q4, q5, q6, q7, q8, q9, q10, q11⟩ := D3.facts
    dsimp only at q0 q1 q2 q3 q4 q5 q6 q7 q8 q9 q10 q11
    refine bodyPost_ret (by simp [results, Try.results23, go_sem, q0, q1, q2, q3, q4, q5, q6, q7, q8, q9, q10, q11]; rfl) rfl ?_
    exact ⟨_, rfl, HB.out ▸ hO5, HB.out ▸ hb5⟩
end
end Go.Proofs.Ytjkopgdbkmbnmaa.P
