/-
  Package peek: filled, Read, Target, Look.
-/
import Derived.Test.YtjkopgdbkmbnmaaPnode
import Derived.Test.YtjkopgdbkmbnmaaPdir
import Derived.Test.YtjkopgdbkmbnmaaEfind
namespace Go.Proofs.Ytjkopgdbkmbnmaa.P
open Go.RowKit Go.Shelf G
attribute [local go_sem] Oper.semAt_some

section
variable {B X A M : Nat} {mv : Value} {st : St} {w : World}
set_option maxRecDepth 100000 in
set_option maxHeartbeats 16000000 in
theorem filled_any (h : Wd B X A M mv st w) (k : Int) (hk : T.Wf k) (other : Int) : Calls Try.prog 30 #[.pointer (some ⟨X, 0, none⟩), .int .i64 k, .int .i64 other] w fun e w' =>
    ∃ u, e = .returned (.tuple #[(onlyIf (filE st k other) (gets st.n k)).v u, .int .i64 (filE st k other)]) ∧ E.Own w.heap.size u (onlyIf (filE st k other) (gets st.n k)).es w' ∧ Below w.heap.size w w' := by
  have hb0 : Below w.heap.size w (w.alloc (.cells #[.int .i64 0, .int .i64 0, .int .i64 0, .int .i64 0, .int .i64 0, .int .i64 0, .int .i64 0, .int .i64 0, .int .i64 0, .int .i64 0, .string ⟨#[]⟩, .slice none 0 0] 70)) := (Below.refl _ _).alloc (Nat.le_refl _) _
  have B1 := T.BoxN.new T.Nd.zero (.slice none 0 0) w
  dsimp only [T.Nd.zero] at B1
  have hs1 : (w.alloc (.cells #[.int .i64 0, .int .i64 0, .int .i64 0, .int .i64 0, .int .i64 0, .int .i64 0, .int .i64 0, .int .i64 0, .int .i64 0, .int .i64 0, .string ⟨#[]⟩, .slice none 0 0] 70)).heap.size = w.heap.size + 1 := by simp
  have cc := fun W (hb : Below w.heap.size w W) => node_any (h.below hb) k hk
  have hz := gets_zero (st := st) (k := k)
  have hd : filE st k other = (if (get st.n k).isSome = false then 5 else if (gets st.n k).kind = 1 then 8 else if (gets st.n k).kind = other then 1 else 0) := rfl
  generalize filE st k other = de at *
  unfold noneE at cc
  clear h
  generalize gets st.n k = nd at *
  generalize (get st.n k).isSome = bb at *
  go_enter Try.func30, Try.ntmps30
  go_upto_region 1 with fail
  generalize w.alloc (.cells #[.int .i64 0, .int .i64 0, .int .i64 0, .int .i64 0, .int .i64 0, .int .i64 0, .int .i64 0, .int .i64 0, .int .i64 0, .int .i64 0, .string ⟨#[]⟩, .slice none 0 0] 70) = W1 at B1 hb0 hs1 ⊢
  have c1 := cc W1 hb0
  obtain ⟨b0, hbd⟩ : ∃ b, w.heap.size = b := ⟨_, rfl⟩
  rw [hbd] at B1 hb0 hs1 ⊢
  have HB := Lib.hid hbd
  clear hbd cc
  obtain ⟨no, dev, kind, mode, uid, gid, mt, ct, links, up, data, es⟩ := nd
  have HZ := Lib.hid hz
  have HD := Lib.hid hd
  clear hz hd
  dsimp only [T.Nd.v] at c1
  go_upto_region 2 with (go_at_call 23; refine c1.mono ?_; rintro e w3 ⟨u, rfl, hO, hb3⟩; obtain ⟨ou, cu, rfl⟩ := T.own_slice hO; have B3 := T.BoxN.new ⟨no, dev, kind, mode, uid, gid, mt, ct, links, up, data, es⟩ (.slice ou es.length cu) w3)
  have hal : Below w3.heap.size w3 (w3.alloc (.cells #[.int .i64 no, .int .i64 dev, .int .i64 kind, .int .i64 mode, .int .i64 uid, .int .i64 gid, .int .i64 mt, .int .i64 ct, .int .i64 links, .int .i64 up, .string data, .slice ou es.length cu] 70)) := (Below.refl _ _).alloc (Nat.le_refl _) _
  have hO3 := T.own_kept hO (T.EntKept.below hal)
  have D2 := (B1.below hb3).below hal
  have hb4 : Below b0 w (w3.alloc (.cells #[.int .i64 no, .int .i64 dev, .int .i64 kind, .int .i64 mode, .int .i64 uid, .int .i64 gid, .int .i64 mt, .int .i64 ct, .int .i64 links, .int .i64 up, .string data, .slice ou es.length cu] 70)) := (hb0.trans (hb3.mono (by omega))).trans (hal.mono (by have := hb3.size; omega))
  have hlt : b0 < w3.heap.size := by have := hb3.size; omega
  generalize w3.heap.size = b3 at *
  generalize w3.alloc (.cells #[.int .i64 no, .int .i64 dev, .int .i64 kind, .int .i64 mode, .int .i64 uid, .int .i64 gid, .int .i64 mt, .int .i64 ct, .int .i64 links, .int .i64 up, .string data, .slice ou es.length cu] 70) = W4 at B3 D2 hb4 hO3 ⊢
  clear B1 hb3 hO c1 hal
  obtain ⟨a0, a1, a2, a3, a4, a5, a6, a7, a8, a9, a10, a11⟩ := D2.facts
  obtain ⟨f0, f1, f2, f3, f4, f5, f6, f7, f8, f9, f10, f11⟩ := D2.open
  obtain ⟨g0, g1, g2, g3, g4, g5, g6, g7, g8, g9, g10, g11⟩ := B3.facts
  dsimp only at g0 g1 g2 g3 g4 g5 g6 g7 g8 g9 g10 g11
  have zero : ∀ (W4 : World), Below b0 w W4 → T.BoxN b0 ⟨0, 0, 0, 0, 0, 0, 0, 0, 0, 0, ⟨#[]⟩, []⟩ (.slice none 0 0) W4 → T.BoxN b0 T.Nd.zero (.slice none 0 0) (T.fill W4 b0 T.Nd.zero (.slice none 0 0)) ∧ Below b0 w (T.fill W4 b0 T.Nd.zero (.slice none 0 0)) := fun W4 hb D => ⟨D.fill _ _, hb.trans (T.below_fill (by omega) W4 T.Nd.zero (.slice none 0 0))⟩
  cases bb with
  | false =>
    obtain rfl : de = 5 := HD.out.trans (by simp)
    have e := HZ.out rfl
    cases e
    go_upto_region 3 with fail
    go_wp
    obtain ⟨D3, hb5⟩ := zero _ hb4 D2
    unfold T.fill T.Nd.zero at D3 hb5
    dsimp only at D3 hb5
    generalize World.setCell _ _ _ = W5 at D3 hb5 ⊢
    obtain ⟨q0, q1, q2, q3, q4, q5, q6, q7, q8, q9, q10, q11⟩ := D3.facts
    dsimp only at q0 q1 q2 q3 q4 q5 q6 q7 q8 q9 q10 q11
    refine bodyPost_ret (by simp [results, Try.results30, go_sem, q0, q1, q2, q3, q4, q5, q6, q7, q8, q9, q10, q11]; rfl) rfl ?_
    exact ⟨.slice none 0 0, rfl, E.Own.nil _ _, HB.out ▸ hb5⟩
  | true =>
    by_cases hk1 : kind = 1
    · subst hk1
      obtain rfl : de = 8 := HD.out.trans (by simp)
      go_upto_region 5 with fail
      go_wp
      obtain ⟨D3, hb5⟩ := zero _ hb4 D2
      unfold T.fill T.Nd.zero at D3 hb5
      dsimp only at D3 hb5
      generalize World.setCell _ _ _ = W5 at D3 hb5 ⊢
      obtain ⟨q0, q1, q2, q3, q4, q5, q6, q7, q8, q9, q10, q11⟩ := D3.facts
      dsimp only at q0 q1 q2 q3 q4 q5 q6 q7 q8 q9 q10 q11
      refine bodyPost_ret (by simp [results, Try.results30, go_sem, q0, q1, q2, q3, q4, q5, q6, q7, q8, q9, q10, q11]; rfl) rfl ?_
      exact ⟨.slice none 0 0, rfl, E.Own.nil _ _, HB.out ▸ hb5⟩
    · have hk2 : (kind == 1) = false := by simpa using hk1
      by_cases hk3 : kind = other
      · subst hk3
        obtain rfl : de = 1 := HD.out.trans (by simp [hk1])
        go_upto_region 7 with fail
        go_wp
        obtain ⟨D3, hb5⟩ := zero _ hb4 D2
        unfold T.fill T.Nd.zero at D3 hb5
        dsimp only at D3 hb5
        generalize World.setCell _ _ _ = W5 at D3 hb5 ⊢
        obtain ⟨q0, q1, q2, q3, q4, q5, q6, q7, q8, q9, q10, q11⟩ := D3.facts
        dsimp only at q0 q1 q2 q3 q4 q5 q6 q7 q8 q9 q10 q11
        refine bodyPost_ret (by simp [results, Try.results30, go_sem, q0, q1, q2, q3, q4, q5, q6, q7, q8, q9, q10, q11]; rfl) rfl ?_
        exact ⟨.slice none 0 0, rfl, E.Own.nil _ _, HB.out ▸ hb5⟩
      · obtain rfl : de = 0 := HD.out.trans (by simp [hk1, hk3])
        have hk4 : (kind == other) = false := by simpa using hk3
        go_upto_region 8 with fail
        go_wp
        have D6 := D2.fill ⟨no, dev, kind, mode, uid, gid, mt, ct, links, up, data, es⟩ (.slice ou es.length cu)
        have hb7 := hb4.trans (T.below_fill (Nat.le_refl b0) W4 ⟨no, dev, kind, mode, uid, gid, mt, ct, links, up, data, es⟩ (.slice ou es.length cu))
        have hO7 : E.Own b0 _ es _ := T.own_kept (hO3.mono (by omega)) (T.EntKept.fill D2 ⟨no, dev, kind, mode, uid, gid, mt, ct, links, up, data, es⟩ (.slice ou es.length cu))
        unfold T.fill at D6 hb7 hO7
        dsimp only at D6 hb7 hO7
        generalize World.setCell _ _ _ = W6 at D6 hb7 hO7 ⊢
        obtain ⟨q0, q1, q2, q3, q4, q5, q6, q7, q8, q9, q10, q11⟩ := D6.facts
        dsimp only at q0 q1 q2 q3 q4 q5 q6 q7 q8 q9 q10 q11
        refine bodyPost_ret (by simp [results, Try.results30, go_sem, q0, q1, q2, q3, q4, q5, q6, q7, q8, q9, q10, q11]; rfl) rfl ?_
        exact ⟨_, rfl, HB.out ▸ hO7, HB.out ▸ hb7⟩
end
end Go.Proofs.Ytjkopgdbkmbnmaa.P
