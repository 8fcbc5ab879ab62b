/-
  A table that is none: nil, or one that New did not make.
-/
import Derived.Test.YtjliinpjkhfdbaaTall
namespace Go.Proofs.Ytjliinpjkhfdbaa.T
open Go.RowKit Go.Shelf Go.Maps

/-- a pointer at no table -/
def NoTab (p : Value) (w : World) : Prop := p = .pointer none ∨ ∃ T, p = .pointer (some ⟨T, 0, none⟩) ∧ w.cell? ⟨T, 0, none⟩ = some (.map none)
theorem NoTab.below {p : Value} {w w' : World} (h : NoTab p w) (hb : Below w.heap.size w w') : NoTab p w' := by
  rcases h with rfl | ⟨T, rfl, h⟩
  · exact .inl rfl
  · exact .inr ⟨T, rfl, (hb.cell (p := ⟨T, 0, none⟩) (World.block_lt_of_cell? _ _ h)).trans h⟩
theorem NoTab.form {p : Value} {w : World} (h : NoTab p w) : ∃ a, p = .pointer a := by
  rcases h with rfl | ⟨T, rfl, h⟩
  · exact ⟨_, rfl⟩
  · exact ⟨_, rfl⟩
theorem kept_none {p : Value} {w : World} (h : NoTab p w) : Calls Try.prog 17 #[p] w fun e w' => e = .returned (.map none) ∧ w = w' := by
  rcases h with rfl | ⟨T, rfl, h⟩
  · exact kept_nil w
  · exact kept_any T none w h
theorem lookup_none (w : World) {k : Int} (hk : Wf k) : (Instr.lookup 44 (.map none) (.int .i64 k) true).run Try.prog w = .ok (.tuple #[.agg #[.int .i64 0, .int .i64 0, .int .i64 0, .int .i64 0, .int .i64 0, .int .i64 0, .int .i64 0, .int .i64 0, .int .i64 0, .int .i64 0, .string ⟨#[]⟩, .slice none 0 0], .bool false]) w :=
  Maps.look_nil true law Try.underlying44 (zeroN w) (key_of hk)
theorem del_none (w : World) {k : Int} (hk : Wf k) (ty : TypeId) : (Builtin.delete_ #[44, 3] ty #[.map none, .int .i64 k]).run Try.prog w = .ok (.tuple #[]) w :=
  Maps.drop_nil law Try.underlying44 (key_of hk) ty
theorem len_none (w : World) (ty : TypeId) : (Builtin.len_ #[44] ty #[.map none]).run Try.prog w = .ok (.int .i64 0) w := Maps.len_nil Try.underlying44 ty

theorem Len_none {p : Value} {w : World} (h : NoTab p w) : Calls Try.prog 16 #[p] w fun e w' => e = .returned (.int .i64 0) ∧ w = w' := by
  have c1 := kept_none h
  have hl := len_none
  go_enter Try.func16, Try.ntmps16
  go_wp2_with (refine c1.mono ?_; rintro e w1 ⟨rfl, rfl⟩)
  go_ret
  exact ⟨rfl, rfl⟩
theorem Drop_none {p : Value} {w : World} (h : NoTab p w) (k : Int) (hk : Wf k) : Calls Try.prog 10 #[p, .int .i64 k] w fun e w' => e = .returned (.bool false) ∧ Below w.heap.size w w' := by
  have c1 := kept_none h
  have hf := fun W => lookup_none W hk
  have hd := fun W => del_none W hk
  go_enter Try.func10, Try.ntmps10
  go_wp2_with (refine c1.mono ?_; rintro e w1 ⟨rfl, rfl⟩)
  go_ret
  exact ⟨rfl, (Below.refl _ _).alloc (Nat.le_refl _) _⟩
set_option maxRecDepth 100000 in
set_option maxHeartbeats 4000000 in
theorem Set_none {p : Value} {w : World} (h : NoTab p w) (n : Nd) (s : Value) (hk : Wf n.no) : Calls Try.prog 11 #[p, n.v s] w fun e w' => e = .returned (.bool false) ∧ Below w.heap.size w w' := by
  obtain ⟨no, dev, kind, mode, uid, gid, mt, ct, links, up, data, es⟩ := n
  dsimp only [Nd.v] at *
  have c1 := kept_none (h.below ((Below.refl _ w).alloc (Nat.le_refl _) (.cells #[.int .i64 no, .int .i64 dev, .int .i64 kind, .int .i64 mode, .int .i64 uid, .int .i64 gid, .int .i64 mt, .int .i64 ct, .int .i64 links, .int .i64 up, .string data, s] 29)))
  have hf := fun W => lookup_none W hk
  go_enter Try.func11, Try.ntmps11
  go_wp2_with (refine c1.mono ?_; rintro e w1 ⟨rfl, rfl⟩)
  go_ret
  exact ⟨rfl, ((Below.refl _ _).alloc (Nat.le_refl _) _).alloc (by simp) _⟩
set_option maxRecDepth 100000 in
set_option maxHeartbeats 4000000 in
theorem Add_none {p : Value} {w : World} (h : NoTab p w) (n : Nd) (s : Value) : Calls Try.prog 9 #[p, n.v s] w fun e w' => e = .returned (.int .i64 0) ∧ Below w.heap.size w w' := by
  obtain ⟨no, dev, kind, mode, uid, gid, mt, ct, links, up, data, es⟩ := n
  dsimp only [Nd.v] at *
  have c1 := kept_none (h.below ((Below.refl _ w).alloc (Nat.le_refl _) (.cells #[.int .i64 no, .int .i64 dev, .int .i64 kind, .int .i64 mode, .int .i64 uid, .int .i64 gid, .int .i64 mt, .int .i64 ct, .int .i64 links, .int .i64 up, .string data, s] 29)))
  have hq := map_nil none
  go_enter Try.func9, Try.ntmps9
  go_wp2_with (refine c1.mono ?_; rintro e w1 ⟨rfl, rfl⟩)
  go_ret
  exact ⟨rfl, (Below.refl _ _).alloc (Nat.le_refl _) _⟩
set_option maxRecDepth 100000 in
set_option maxHeartbeats 8000000 in
theorem Get_none {p : Value} {w : World} (h : NoTab p w) (k : Int) (hk : Wf k) : Calls Try.prog 13 #[p, .int .i64 k] w fun e w' =>
    ∃ oa c, e = .returned (.tuple #[.agg #[.int .i64 0, .int .i64 0, .int .i64 0, .int .i64 0, .int .i64 0, .int .i64 0, .int .i64 0, .int .i64 0, .int .i64 0, .int .i64 0, .string ⟨#[]⟩, .slice oa 0 c], .bool false]) ∧ E.Own w.heap.size (.slice oa 0 c) [] w' ∧ Below w.heap.size w w' := by
  have hf := fun W => lookup_none W hk
  have cc := fun W hS => apart_any Nd.zero (s := .slice none 0 0) (w := W) hS (by unfold Fits; decide)
  dsimp only [Nd.v, Nd.zero] at cc
  have B1 := BoxN.new Nd.zero (.slice none 0 0) w
  dsimp only [Nd.zero] at B1
  go_enter Try.func13, Try.ntmps13
  go_upto_region 1 with fail
  have hb1 : Below w.heap.size w (w.alloc (.cells #[.int .i64 0, .int .i64 0, .int .i64 0, .int .i64 0, .int .i64 0, .int .i64 0, .int .i64 0, .int .i64 0, .int .i64 0, .int .i64 0, .string ⟨#[]⟩, .slice none 0 0] 29)) := (Below.refl _ _).alloc (Nat.le_refl _) _
  generalize hW1 : w.alloc (.cells #[.int .i64 0, .int .i64 0, .int .i64 0, .int .i64 0, .int .i64 0, .int .i64 0, .int .i64 0, .int .i64 0, .int .i64 0, .int .i64 0, .string ⟨#[]⟩, .slice none 0 0] 29) = W1 at B1 hb1 ⊢
  have hs1 : W1.heap.size = w.heap.size + 1 := by rw [← hW1]; simp
  have hk1 := kept_none (h.below hb1)
  clear hW1
  go_upto_region 2 with (refine hk1.mono ?_; rintro e w1 ⟨rfl, rfl⟩)
  have B2 := BoxN.new Nd.zero (.slice none 0 0) W1
  dsimp only [Nd.zero] at B2
  have hb2 : Below W1.heap.size W1 (W1.alloc (.cells #[.int .i64 0, .int .i64 0, .int .i64 0, .int .i64 0, .int .i64 0, .int .i64 0, .int .i64 0, .int .i64 0, .int .i64 0, .int .i64 0, .string ⟨#[]⟩, .slice none 0 0] 29)) := (Below.refl _ _).alloc (Nat.le_refl _) _
  generalize hW2 : W1.alloc (.cells #[.int .i64 0, .int .i64 0, .int .i64 0, .int .i64 0, .int .i64 0, .int .i64 0, .int .i64 0, .int .i64 0, .int .i64 0, .int .i64 0, .string ⟨#[]⟩, .slice none 0 0] 29) = W2 at B2 hb2 ⊢
  have B1' := B1.below hb2
  have call := cc W2 (E.sees_none _ _ (Nat.zero_le _) _)
  have hb := below_two hb1 hb2
  have hlt := B2.lt
  obtain ⟨b0, hbd⟩ : ∃ b, w.heap.size = b := ⟨_, rfl⟩
  rw [hs1] at B2 hlt
  rw [hbd] at B2 hlt B1' hb ⊢
  have HB := Lib.hid hbd
  clear hbd hW2 B1 hs1 hb1 hb2 cc hk1 hf h
  obtain ⟨c0, c1, c2, c3, c4, c5, c6, c7, c8, c9, c10, c11⟩ := B2.facts
  go_wp2_with (go_at_call 18; refine call.mono ?_; rintro e w3 ⟨u, rfl, hO, hb3⟩; obtain ⟨ou, cu, rfl⟩ := own_slice hO; obtain ⟨a0, a1, a2, a3, a4, a5, a6, a7, a8, a9, a10, a11⟩ := (B1'.below hb3).facts; obtain ⟨f0, f1, f2, f3, f4, f5, f6, f7, f8, f9, f10, f11⟩ := (B1'.below hb3).open)
  have D2 := B1'.below hb3
  have D3 := D2.fill Nd.zero (.slice ou 0 cu)
  have hb4 := (hb.trans (hb3.mono (Nat.le_of_lt (Nat.lt_of_succ_lt hlt)))).trans (below_fill (Nat.le_refl b0) w3 Nd.zero (.slice ou 0 cu))
  have hO4 : E.Own b0 _ [] _ := own_kept (hO.mono (Nat.le_of_lt (Nat.lt_of_succ_lt hlt))) (EntKept.fill D2 Nd.zero (.slice ou 0 cu))
  unfold fill at D3 hb4 hO4
  dsimp only [Nd.zero] at D3 hb4 hO4
  generalize World.setCell _ _ _ = W4 at D3 hb4 hO4 ⊢
  obtain ⟨g0, g1, g2, g3, g4, g5, g6, g7, g8, g9, g10, g11⟩ := D3.facts
  refine bodyPost_ret (by simp [results, Try.results13, go_sem, g0, g1, g2, g3, g4, g5, g6, g7, g8, g9, g10, g11]; rfl) rfl ?_
  exact ⟨ou, cu, rfl, HB.out ▸ hO4, HB.out ▸ hb4⟩
end Go.Proofs.Ytjliinpjkhfdbaa.T
