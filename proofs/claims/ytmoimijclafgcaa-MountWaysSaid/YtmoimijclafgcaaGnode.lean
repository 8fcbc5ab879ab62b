/-
  node, directory, Use, blocksOf.
-/
import Derived.Test.YtmoimijclafgcaaGover
namespace Go.Proofs.Ytmoimijclafgcaa.G
open Go.RowKit Go.Shelf
attribute [local go_sem] Oper.semAt_some

theorem look_fst (l : T.Row) (k : Int) : (T.look l k).map Prod.fst = get (l.map Prod.fst) k := by
  unfold T.look get
  rw [find_map]
  rfl
theorem found_fst (l : T.Row) (k : Int) : (T.found l k).1 = gets (l.map Prod.fst) k := by
  unfold T.found gets
  rw [← look_fst]
  cases T.look l k <;> rfl
theorem look_is (l : T.Row) (k : Int) : (T.look l k).isSome = (get (l.map Prod.fst) k).isSome := by
  rw [← look_fst]
  cases T.look l k <;> rfl

section
variable {B X A M : Nat} {mv : Value} {st : St} {w : World}
theorem Get_st (h : Wd B X A M mv st w) (k : Int) (hk : T.Wf k) : Calls Try.prog 51 #[.pointer (some ⟨A, 0, none⟩), .int .i64 k] w fun e w' =>
    ∃ u, e = .returned (.tuple #[(gets st.n k).v u, .bool (get st.n k).isSome]) ∧ E.Own w.heap.size u (gets st.n k).es w' ∧ Below w.heap.size w w' := by
  obtain ⟨l, hl, hT⟩ := h.tab
  have c := T.Get_any hT k hk
  rw [found_fst, look_is, hl] at c
  exact c
set_option maxRecDepth 100000 in
set_option maxHeartbeats 8000000 in
theorem node_any (h : Wd B X A M mv st w) (k : Int) (hk : T.Wf k) : Calls Try.prog 25 #[.pointer (some ⟨X, 0, none⟩), .int .i64 k] w fun e w' =>
    ∃ u, e = .returned (.tuple #[(gets st.n k).v u, .bool (get st.n k).isSome]) ∧ E.Own w.heap.size u (gets st.n k).es w' ∧ Below w.heap.size w w' := by
  have hb1 : Below w.heap.size w (w.alloc (.cells #[.int .i64 0, .int .i64 0, .int .i64 0, .int .i64 0, .int .i64 0, .int .i64 0, .int .i64 0, .int .i64 0, .int .i64 0, .int .i64 0, .string ⟨#[]⟩, .slice none 0 0] 71)) := (Below.refl _ _).alloc (Nat.le_refl _) _
  have B1 := T.BoxN.new T.Nd.zero (.slice none 0 0) w
  dsimp only [T.Nd.zero] at B1
  have hs1 : (w.alloc (.cells #[.int .i64 0, .int .i64 0, .int .i64 0, .int .i64 0, .int .i64 0, .int .i64 0, .int .i64 0, .int .i64 0, .int .i64 0, .int .i64 0, .string ⟨#[]⟩, .slice none 0 0] 71)).heap.size = w.heap.size + 1 := by simp
  have hW := fun W (hb : Below w.heap.size w W) => (h.below hb).facts.1
  have cc := fun W (hb : Below w.heap.size w W) => Get_st (h.below hb) k hk
  clear h
  generalize gets st.n k = nd at *
  generalize (get st.n k).isSome = bb at *
  obtain ⟨no, dev, kind, mode, uid, gid, mt, ct, links, up, data, es⟩ := nd
  dsimp only [T.Nd.v] at cc ⊢
  go_enter Try.func25, Try.ntmps25
  go_upto_region 1 with fail
  generalize w.alloc (.cells #[.int .i64 0, .int .i64 0, .int .i64 0, .int .i64 0, .int .i64 0, .int .i64 0, .int .i64 0, .int .i64 0, .int .i64 0, .int .i64 0, .string ⟨#[]⟩, .slice none 0 0] 71) = W1 at B1 hb1 hs1 ⊢
  have x0 := hW W1 hb1
  have c1 := cc W1 hb1
  obtain ⟨b0, hbd⟩ : ∃ b, w.heap.size = b := ⟨_, rfl⟩
  rw [hbd] at B1 hb1 hs1 ⊢
  have HB := Lib.hid hbd
  clear hbd hW cc
  go_wp2_with (go_at_call 51; refine c1.mono ?_; rintro e w3 ⟨u, rfl, hO, hb3⟩; obtain ⟨ou, cu, rfl⟩ := T.own_slice hO; obtain ⟨a0, a1, a2, a3, a4, a5, a6, a7, a8, a9, a10, a11⟩ := (B1.below hb3).facts; obtain ⟨f0, f1, f2, f3, f4, f5, f6, f7, f8, f9, f10, f11⟩ := (B1.below hb3).open)
  have D2 := B1.below hb3
  have D3 := D2.fill ⟨no, dev, kind, mode, uid, gid, mt, ct, links, up, data, es⟩ (.slice ou es.length cu)
  have hb4 := (hb1.trans (hb3.mono (by omega))).trans (T.below_fill (Nat.le_refl b0) w3 ⟨no, dev, kind, mode, uid, gid, mt, ct, links, up, data, es⟩ (.slice ou es.length cu))
  have hO4 : E.Own b0 _ es _ := T.own_kept (hO.mono (by omega)) (T.EntKept.fill D2 ⟨no, dev, kind, mode, uid, gid, mt, ct, links, up, data, es⟩ (.slice ou es.length cu))
  unfold T.fill at D3 hb4 hO4
  generalize World.setCell _ _ _ = W4 at D3 hb4 hO4 ⊢
  obtain ⟨g0, g1, g2, g3, g4, g5, g6, g7, g8, g9, g10, g11⟩ := D3.facts
  refine bodyPost_ret (by simp [results, Try.results25, go_sem, g0, g1, g2, g3, g4, g5, g6, g7, g8, g9, g10, g11]; rfl) rfl ?_
  exact ⟨_, rfl, HB.out ▸ hO4, HB.out ▸ hb4⟩
end

theorem blocksOf_any (n : T.Nd) (s : Value) (hs : T.Slc s) (hd : n.data.size ≤ 2000000) (w : World) : Calls Try.prog 28 #[n.v s] w fun e w' => e = .returned (.int .i64 (blk n)) ∧ Below w.heap.size w w' := by
  have hb1 : Below w.heap.size w (w.alloc (.cells #[.int .i64 n.no, .int .i64 n.dev, .int .i64 n.kind, .int .i64 n.mode, .int .i64 n.uid, .int .i64 n.gid, .int .i64 n.mt, .int .i64 n.ct, .int .i64 n.links, .int .i64 n.up, .string n.data, s] 71)) := (Below.refl _ _).alloc (Nat.le_refl _) _
  have cb := fun W => U.Blocks_any n.kind n.data.size (by omega) W
  have hx : U.blk n.kind n.data.size = blk n := rfl
  rw [hx] at cb
  obtain ⟨oa, m, c, rfl⟩ := hs
  obtain ⟨no, dev, kind, mode, uid, gid, mt, ct, links, up, data, es⟩ := n
  generalize blk _ = z at *
  dsimp only [T.Nd.v] at *
  go_enter Try.func28, Try.ntmps28
  go_wp2_with (go_at_call 66; refine (cb _).mono ?_; rintro e w2 ⟨rfl, rfl⟩)
  go_ret
  exact ⟨rfl, hb1⟩

section
variable {B X A M : Nat} {mv : Value} {st : St} {w : World}
theorem Use_any (h : Wd B X A M mv st w) (k : Int) : Calls Try.prog 16 #[.pointer (some ⟨X, 0, none⟩), .int .i64 k] w fun e w' => e = .returned (useOf st.d k).v ∧ Below w.heap.size w w' := by
  have hb1 : Below w.heap.size w (w.alloc (.cells #[.int .i64 0, .int .i64 0, .int .i64 0, .int .i64 0] 53)) := (Below.refl _ _).alloc (Nat.le_refl _) _
  have o1 := U.Open4.new w 53 #[.int .i64 0, .int .i64 0, .int .i64 0, .int .i64 0]
  have b1 := U.Box4.new w ⟨0, 0, 0, 0⟩ 53
  have h1 := h.below hb1
  cases hm : mt st.d k with
  | none =>
    have c1 := part_none h1 k hm
    have e : useOf st.d k = ⟨0, 0, 0, 0⟩ := by unfold useOf; rw [hm]
    rw [e]
    clear h h1 hm e
    go_enter Try.func16, Try.ntmps16
    go_upto_region 1 with fail
    dsimp only at b1
    generalize w.alloc (.cells #[.int .i64 0, .int .i64 0, .int .i64 0, .int .i64 0] 53) = W1 at *
    obtain ⟨e0, e1, e2, e3⟩ := b1
    obtain ⟨f0, f1, f2, f3⟩ := o1
    have b1 : U.Box4 w.heap.size ⟨0, 0, 0, 0⟩ W1 := ⟨e0, e1, e2, e3⟩
    go_wp2_with (refine c1.mono ?_; rintro e w1 ⟨rfl, rfl⟩)
    generalize hW : World.setCell _ _ _ = W
    obtain ⟨⟨g0, g1, g2, g3⟩, hb⟩ := b1.put hW
    refine bodyPost_ret (by simp [results, Try.results16, go_sem, g0, g1, g2, g3]; rfl) rfl ?_
    exact ⟨rfl, hb1.trans (hb _ (Nat.le_refl _))⟩
  | some m =>
    obtain ⟨k1, k2, k3⟩ := mt_some hm
    obtain ⟨i, hi⟩ : ∃ i, (k - 1).toNat = i := ⟨_, rfl⟩
    rw [hi] at k3
    obtain ⟨g, cap, hg, hat⟩ := h1.rows.at k3
    have c1 := part_some h1 k3 hg
    rw [show (i : Int) + 1 = k by omega] at c1
    have e : useOf st.d k = m.q := by unfold useOf; rw [hm]
    rw [e]
    obtain ⟨_, _, c2, c3, c4, c5⟩ := hat
    clear h h1 hm e k1 k2 k3 hi
    go_enter Try.func16, Try.ntmps16
    go_upto_region 1 with fail
    dsimp only at b1
    generalize w.alloc (.cells #[.int .i64 0, .int .i64 0, .int .i64 0, .int .i64 0] 53) = W1 at *
    obtain ⟨e0, e1, e2, e3⟩ := b1
    obtain ⟨f0, f1, f2, f3⟩ := o1
    have b1 : U.Box4 w.heap.size ⟨0, 0, 0, 0⟩ W1 := ⟨e0, e1, e2, e3⟩
    go_wp2_with (refine c1.mono ?_; rintro e w1 ⟨rfl, rfl⟩)
    generalize hW : World.setCell _ _ _ = W
    obtain ⟨⟨g0, g1, g2, g3⟩, hb⟩ := b1.put hW
    refine bodyPost_ret (by simp [results, Try.results16, go_sem, g0, g1, g2, g3]; rfl) rfl ?_
    exact ⟨rfl, hb1.trans (hb _ (Nat.le_refl _))⟩
end
end Go.Proofs.Ytmoimijclafgcaa.G
