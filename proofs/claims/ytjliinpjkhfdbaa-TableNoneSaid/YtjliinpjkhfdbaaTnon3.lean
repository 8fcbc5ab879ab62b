/-
  The law's none: a table that is none has nothing and takes nothing.
-/
import Derived.Test.YtjliinpjkhfdbaaTnon2
import Derived.Test.YtjliinpjkhfdbaaTawk
namespace Go.Proofs.Ytjliinpjkhfdbaa.T
open Go.RowKit Go.Shelf
attribute [local go_sem] Oper.semAt_some

theorem boxn_own {β : Type} (B b : Nat) (n : Nd) (s : Value) : OwnFrom B (fun (_ : β) W => BoxN b n s W) := fun _ W W' row hB hgr hr => by
  unfold BoxN at hB ⊢
  refine (hgr.block b (Array.getElem?_eq_some_iff.1 hB).1 (fun e' => ?_)).trans hB
  obtain ⟨_, o, ho, hn⟩ := hr b e'.symm
  rw [hB] at ho; cases ho; cases hn
/-- entries that are none are seen in any world -/
theorem sees_nil {oa : Option Addr} {c : Nat} {w : World} (h : E.Sees (.slice oa 0 c) [] w) (w' : World) : E.Sees (.slice oa 0 c) [] w' := by
  obtain ⟨oa', cap, e, hm, _⟩ := h
  exact ⟨oa', cap, e, hm, fun k x hk => by simp at hk⟩

set_option maxRecDepth 100000 in
set_option maxHeartbeats 8000000 in
theorem none_any {p : Value} {w : World} (h : NoTab p w) (n : Nd) (s : Value) (hS : E.Sees s n.es w) (hk : Wf n.no) :
    Calls Try.prog 15 #[p, n.v s] w fun e w' => e = .returned (.bool true) ∧ Below w.heap.size w w' := by
  have cG := fun W (hW : Below w.heap.size w W) => Get_none (h.below hW) n.no hk
  have cL := fun W (hW : Below w.heap.size w W) => All_none (h.below hW)
  have cA := fun W (hW : Below w.heap.size w W) => Add_none (h.below hW) n s
  have cS := fun W (hW : Below w.heap.size w W) => Set_none (h.below hW) n s hk
  have cD := fun W (hW : Below w.heap.size w W) => Drop_none (h.below hW) n.no hk
  have cN := fun W (hW : Below w.heap.size w W) => Len_none (h.below hW)
  clear h
  obtain ⟨no, dev, kind, mode, uid, gid, mt, ct, links, up, data, es⟩ := n
  obtain ⟨so, sc, hs0, _⟩ := hS
  subst hs0
  dsimp only [Nd.v] at *
  have hB3 : Below w.heap.size w ((w.alloc (.cells #[.int .i64 no, .int .i64 dev, .int .i64 kind, .int .i64 mode, .int .i64 uid, .int .i64 gid, .int .i64 mt, .int .i64 ct, .int .i64 links, .int .i64 up, .string data, .slice so es.length sc] 29)).alloc (.cells #[.bool false] 4)) :=
    ((Below.refl _ w).alloc (Nat.le_refl _) _).alloc (by simp) _
  have hs3 : ((w.alloc (.cells #[.int .i64 no, .int .i64 dev, .int .i64 kind, .int .i64 mode, .int .i64 uid, .int .i64 gid, .int .i64 mt, .int .i64 ct, .int .i64 links, .int .i64 up, .string data, .slice so es.length sc] 29)).alloc (.cells #[.bool false] 4)).heap.size = w.heap.size + 2 := by simp
  have b0 := (BoxN.new ⟨no, dev, kind, mode, uid, gid, mt, ct, links, up, data, es⟩ (.slice so es.length sc) w).below ((Below.refl _ (w.alloc (.cells #[.int .i64 no, .int .i64 dev, .int .i64 kind, .int .i64 mode, .int .i64 uid, .int .i64 gid, .int .i64 mt, .int .i64 ct, .int .i64 links, .int .i64 up, .string data, .slice so es.length sc] 29))).alloc (Nat.le_refl _) (.cells #[.bool false] 4))
  have b1 := Boxed.new (w.alloc (.cells #[.int .i64 no, .int .i64 dev, .int .i64 kind, .int .i64 mode, .int .i64 uid, .int .i64 gid, .int .i64 mt, .int .i64 ct, .int .i64 links, .int .i64 up, .string data, .slice so es.length sc] 29)) 4 (.bool false)
  simp only [World.size_alloc] at b1
  refine (callsIn_wide (n := 5)).1 ?_
  refine callsIn_of_wp_marks Try.func15 rfl trivial ?_ rfl
  simp only [Try.ntmps15, List.size_toArray, List.length_cons, List.length_nil, Nat.reduceAdd, Nat.reduceSub, Array.replicate_succ, Array.replicate_zero, List.push_toArray, List.append_toArray, List.nil_append, List.cons_append]
  gi_wp2_with fail
  generalize (w.alloc (.cells #[.int .i64 no, .int .i64 dev, .int .i64 kind, .int .i64 mode, .int .i64 uid, .int .i64 gid, .int .i64 mt, .int .i64 ct, .int .i64 links, .int .i64 up, .string data, .slice so es.length sc] 29)).alloc (.cells #[.bool false] 4) = W3 at b0 b1 hB3 hs3 ⊢
  have e0 := b0.facts.1
  have HX := Lib.hid (And.intro b0 b1); have HB3 := Lib.hid hB3; have HS3 := Lib.hid hs3
  clear b0 b1 hB3 hs3
  gi_wp2_with (first
    | (refine ⟨trivial, ?_⟩; gi_at_call 13; refine (callsIn_wide.2 (cG _ HB3.out)).mono ?_; rintro e w1 ⟨oa, c, rfl, hO, hb⟩; have HO := Lib.hid hO; have HB := Lib.hid hb; clear hO hb)
    | (refine ⟨trivial, ?_⟩; gi_at_call 19; refine (callsIn_wide.2 (cL _ ((HB3.out.trans (HB.out.mono HB3.out.size)).alloc (Nat.le_trans HB3.out.size HB.out.size) _))).mono ?_; rintro e w2 ⟨b9, u, rfl, hbx, hb9, hO2, hb2⟩; have HO2 := Lib.hid hO2; have HBX := Lib.hid hbx; have HB2 := Lib.hid hb2; have hne := hnil #[.pointer (some ⟨b9, 0, none⟩)]; clear hbx hO2 hb2))
  have hs1 : w.heap.size + 2 ≤ w1.heap.size := by have := HS3.out; have := HB.out.size; omega
  have q1 := HB3.out.trans (HB.out.mono HB3.out.size)
  have hbz : Below w1.heap.size w1 (w1.alloc (.cells #[.int .i64 0, .int .i64 0, .int .i64 0, .int .i64 0, .int .i64 0, .int .i64 0, .int .i64 0, .int .i64 0, .int .i64 0, .int .i64 0, .string ⟨#[]⟩, .slice oa 0 c] 29)) := (Below.refl _ _).alloc (Nat.le_refl _) _
  have q2 := q1.trans ((below_two hbz HB2.out).mono (show w.heap.size ≤ w1.heap.size by omega))
  have x0 := (HX.out.1.below HB.out).below (below_two hbz HB2.out)
  have x1 := Boxed.below (Boxed.below HX.out.2 HB.out) (below_two hbz HB2.out)
  have x2 := (BoxN.new Nd.zero (.slice oa 0 c) w1).below HB2.out
  have hsn := fun W => sees_nil HO.out.sees W
  have HSN := Lib.hid hsn
  obtain ⟨bx, hbx⟩ : ∃ bx, w1.heap.size = bx := ⟨_, rfl⟩
  have hs2 : bx + 1 ≤ w2.heap.size := by have := HB2.out.size; simp at this; omega
  rw [hbx] at x2 hs1 ⊢
  have HHX := Lib.hid hbx
  clear hbx hne hsn hbz q1 e0 hb9
  refine range_in (by omega) (gf := 22) (lb := #[.pointer (some ⟨b9, 0, none⟩)]) rfl (enters_of Try.func22 (by kernel_rfl) rfl) (encs := fun y : Nd × Value => #[y.1.v y.2]) (fun _ => rfl)
    (List.map Prod.fst ([] : Row)) GN w2.heap.size (Nat.le_refl _) (all_yields _ (by omega) (Below.refl _ _) (by simp) HBX.out HO2.out.sees (fun p hp => by cases hp))
    (fun _ W => BoxN w.heap.size ⟨no, dev, kind, mode, uid, gid, mt, ct, links, up, data, es⟩ (.slice so es.length sc) W ∧ Boxed W (w.heap.size + 1) 4 (.bool false) ∧ BoxN bx Nd.zero (.slice oa 0 c) W ∧ Below w.heap.size w W)
    (OwnFrom.and (boxn_own _ _ _ _) (OwnFrom.and (Own.from (boxed_own _ _ (fun _ => .bool false)) _) (OwnFrom.and (boxn_own _ _ _ _) (ownFrom_below (Nat.le_refl _) (by omega)))))
    ⟨x0, x1, x2, q2⟩ (fun _ _ _ _ => False) (fun _ _ _ _ _ _ _ h => h.elim) (fun _ _ _ _ _ _ h => by simp at h) (fun _ _ _ _ _ _ h => by simp at h) ?done
  clear x0 x1 x2 q2
  rintro Dd W hD ⟨x0, x1, x2, hB⟩ hK
  have LB := Lib.hid hB; have HK := Lib.hid hK
  clear hB hK
  have e0 := x0.facts
  obtain ⟨c0, c1, c2, c3, c4, c5, c6, c7, c8, c9, c10, c11⟩ := e0
  have X0 := Lib.hid x0; have X1 := Lib.hid x1; have X2 := Lib.hid x2
  clear x0 x1 x2
  gi_wp2_with (first
    | (refine ⟨trivial, ?_⟩; gi_at_call 9; refine (callsIn_wide.2 (cA _ LB.out)).mono ?_; rintro e w3 ⟨rfl, hb3⟩
       have k3 := LB.out.trans (hb3.mono LB.out.size)
       obtain ⟨d0, d1, d2, d3, d4, d5, d6, d7, d8, d9, d10, d11⟩ := (X2.out.below hb3).facts
       have K3 := Lib.hid k3; have B3 := Lib.hid hb3; clear k3 hb3)
    | (refine ⟨trivial, ?_⟩; gi_at_call 14; refine (callsIn_wide.2 (Same_any Nd.zero _ _ _ (HSN.out _) (E.sees_none _ _ (Nat.zero_le _) _))).mono ?_; rintro e w4 ⟨rfl, hb4⟩
       have k4 := K3.out.trans (hb4.mono K3.out.size)
       have b4 := below_two B3.out hb4
       obtain ⟨d0, d1, d2, d3, d4, d5, d6, d7, d8, d9, d10, d11⟩ := (X0.out.below b4).facts
       have K4 := Lib.hid k4; have B4 := Lib.hid b4; clear k4 b4)
    | (refine ⟨trivial, ?_⟩; gi_at_call 11; refine (callsIn_wide.2 (cS _ K4.out)).mono ?_; rintro e w5 ⟨rfl, hb5⟩
       have k5 := K4.out.trans (hb5.mono K4.out.size)
       have b5 := below_two B4.out hb5
       have d0 := (X0.out.below b5).facts.1
       have K5 := Lib.hid k5; have B5 := Lib.hid b5; clear k5 b5)
    | (refine ⟨trivial, ?_⟩; gi_at_call 10; refine (callsIn_wide.2 (cD _ K5.out)).mono ?_; rintro e w6 ⟨rfl, hb6⟩
       have k6 := K5.out.trans (hb6.mono K5.out.size)
       have b6 := below_two B5.out hb6
       have K6 := Lib.hid k6; have B6 := Lib.hid b6; clear k6 b6)
    | (refine ⟨trivial, ?_⟩; gi_at_call 16; refine (callsIn_wide.2 (cN _ K6.out)).mono ?_; rintro e w7 ⟨rfl, rfl⟩
       have z1 := Boxed.below X1.out B6.out
       have f1 := z1.frozen
       have r1 := z1.cell
       have Z1 := Lib.hid z1; clear z1))
  have hDl := (Array.getElem?_eq_some_iff.1 HK.out).1
  have hK1 : w6.heap[Dd]? = some (.deferred (some [])) := (B6.out.block Dd hDl).trans HK.out
  have hK2 := (RowKit.Below.heap_setCell w6 ⟨w.heap.size + 1, 0, none⟩ (.bool true) Dd (show Dd ≠ w.heap.size + 1 by omega)).trans hK1
  have e2 := ((Z1.out.set (.bool true)).kept (grownBy_putObj' _ Dd (.deferred none)) (by intro e; cases e; omega)).cell
  refine ⟨by simp, .inl ⟨_, _, rfl, run_takeDeferred hK2, ?_⟩⟩
  refine ⟨_, by simp [results, Try.results15, go_sem, e2], rfl, ?_⟩
  exact (K6.out.setCell (p := ⟨w.heap.size + 1, 0, none⟩) (show w.heap.size ≤ w.heap.size + 1 by omega) _).trans (belowK_b (n₀ := w.heap.size) (w := w) (Nat.le_refl _) _ Dd _ _ (by omega) hK2 rfl rfl)

set_option maxRecDepth 100000 in
set_option maxHeartbeats 8000000 in
theorem tableNone_walk (n : Nd) (s : Value) (w : World) (hS : E.Sees s n.es w) (hk : Wf n.no) :
    Calls Try.prog 5 #[n.v s] w fun e w' => e = .returned (.bool true) ∧ Below w.heap.size w w' := by
  have cN := fun p W (h : NoTab p W) (hb : Below w.heap.size w W) => none_any h n s (hS.below hb) hk
  obtain ⟨no, dev, kind, mode, uid, gid, mt, ct, links, up, data, es⟩ := n
  obtain ⟨so, sc, hs0, _⟩ := hS
  subst hs0
  dsimp only [Nd.v] at *
  have B1 := BoxN.new ⟨no, dev, kind, mode, uid, gid, mt, ct, links, up, data, es⟩ (.slice so es.length sc) w
  dsimp only at B1
  go_enter Try.func5, Try.ntmps5
  go_upto_region 1 with fail
  have hb1 : Below w.heap.size w (w.alloc (.cells #[.int .i64 no, .int .i64 dev, .int .i64 kind, .int .i64 mode, .int .i64 uid, .int .i64 gid, .int .i64 mt, .int .i64 ct, .int .i64 links, .int .i64 up, .string data, .slice so es.length sc] 29)) := (Below.refl _ _).alloc (Nat.le_refl _) _
  generalize w.alloc (.cells #[.int .i64 no, .int .i64 dev, .int .i64 kind, .int .i64 mode, .int .i64 uid, .int .i64 gid, .int .i64 mt, .int .i64 ct, .int .i64 links, .int .i64 up, .string data, .slice so es.length sc] 29) = W1 at B1 hb1 ⊢
  have B1' := Lib.hid B1; have HB1 := Lib.hid hb1
  obtain ⟨c0, c1, c2, c3, c4, c5, c6, c7, c8, c9, c10, c11⟩ := B1.facts
  have ca := cN _ _ (.inl rfl) hb1
  clear B1 hb1
  go_wp2_with (first
    | (refine cw.mono ?_; rintro e w4 ⟨rfl, hb4⟩)
    | (refine ca.mono ?_; clear ca; rintro e w2 ⟨rfl, hb2⟩; have HB2 := Lib.hid hb2; clear hb2; have hlt2 := (B1'.out.below HB2.out).lt; obtain ⟨d0, d1, d2, d3, d4, d5, d6, d7, d8, d9, d10, d11⟩ := (B1'.out.below HB2.out).facts)
    | (go_at_call 15; refine (cN (.pointer (some ⟨w2.heap.size, 0, none⟩)) (w2.alloc (.cells #[.map none, .int .i64 0] 46)) (.inr ⟨_, rfl, by rw [World.cell?_alloc_new]; rfl⟩) ((below_two HB1.out HB2.out).alloc (Nat.le_trans HB1.out.size HB2.out.size) _)).mono ?_; rintro e w3 ⟨rfl, hb3⟩; have cw := awake_any w3))
  go_ret
  have q2 := below_two HB1.out HB2.out
  have q3 := q2.alloc q2.size (.cells #[.map none, .int .i64 0] 46)
  have q4 := q3.trans (hb3.mono q3.size)
  exact ⟨rfl, q4.trans (hb4.mono q4.size)⟩
end Go.Proofs.Ytjliinpjkhfdbaa.T
