/-
  The walk of FreshTells.
-/
import Derived.Test.YtpgikopajbjjhaaDoorFlaw
import Derived.Deep.RegionHeld3
namespace Go.Proofs.YtpgikopajbjjhaaDoor.F
open Go.RowKit Go.Shelf
attribute [local go_sem] Oper.semAt_some

theorem equal_nil (b : Array Value) (W : World) : (Op.equal 23 (.func (.func 11) #[] b) .nilFunc).run Tryd.prog W = .ok false W := by
  have hu := run_underlying Tryd.underlying23
  have h : Op.equal 23 (.func (.func 11) #[] b) .nilFunc = Op.equalIn (9999 + 1) 23 (.func (.func 11) #[] b) .nilFunc := rfl
  rw [h, Op.equalIn]
  simp [go_sem, hu]
theorem hnil (b : Array Value) (W : World) : (binOp .eql 23 (.func (.func 11) #[] b) .nilFunc).run Tryd.prog W = .ok (.bool false) W := by
  simp [binOp, go_sem, equal_nil]
theorem Boxed.below {W W' : World} {B : Nat} {t : TypeId} {v : Value} (h : Boxed W B t v) (hb : Below W.heap.size W W') : Boxed W' B t v := (hb.block B h.lt).trans h

/-- what is so far as it should be -/
def Good (b : List UInt8) (pre : List Nm) : Prop := raw pre = (nms b).take pre.length ∧ pre.length ≤ 1000
theorem Good.start (b : List UInt8) : Good b [] := ⟨rfl, by simp⟩
theorem Good.step {b : List UInt8} {pre : List Nm} {x : Nm} (h : Good b pre) (hl : pre.length < 1000) (hx : x.1 = nt b ((pre.length : Int) + 1)) : Good b (pre ++ [x]) := by
  refine ⟨?_, by simp; omega⟩
  rw [raw_snoc, h.1, List.length_append, List.length_singleton, nms_take b _ hl, hx]; rfl
theorem bad_step {b : List UInt8} {pre : List Nm} {x : Nm} (hx : x.1 ≠ nt b ((pre.length : Int) + 1)) : ¬ raw (pre ++ [x]) <+: nms b := by
  rw [raw_snoc]
  intro h
  have := (nms_pre h).1
  rw [raw_len] at this
  exact hx (by rw [this]; rfl)
theorem or_own {β : Type} {B : Nat} {I J : β → World → Prop} (h : OwnFrom B I) (h' : OwnFrom B J) : OwnFrom B (fun s W => I s W ∨ J s W) := fun s W W' row hs hg hr => hs.imp (fun k => h s W W' row k hg hr) (fun k => h' s W W' row k hg hr)

/-- what lies in the law's own boxes -/
structure Kt (b : List UInt8) (most c : Int) (w w' : World) : Prop where
  laid : K.Laid w'
  below : Below w.heap.size w w'
  c0 : Boxed w' w.heap.size 9 (.string ⟨b.toArray⟩)
  c1 : Boxed w' (w.heap.size + 1) 5 (.int .u8 most)
  c2 : Boxed w' (w.heap.size + 1 + 1) 4 (.bool false)
  c4 : Boxed w' (w.heap.size + 1 + 1 + 1 + 1) 3 (.int .i64 c)
theorem Kt.later {b : List UInt8} {most c : Int} {w w1 w2 : World} (h : Kt b most c w w1) (hb : Below w1.heap.size w1 w2) : Kt b most c w w2 :=
  ⟨h.laid.of_below hb, h.below.trans (hb.mono h.below.size), Boxed.below h.c0 hb, Boxed.below h.c1 hb, Boxed.below h.c2 hb, Boxed.below h.c4 hb⟩
theorem drew_below (w : World) : Below w.heap.size w w.drew := ⟨rfl, rfl, rfl, Nat.le_refl _, fun _ _ => rfl⟩

set_option maxRecDepth 100000 in
set_option maxHeartbeats 8000000 in
theorem freshTells_short (b : List UInt8) (n most : Int) (hb : b.length ≤ 300) (h0 : -9223372036854775808 ≤ n) (h1 : n ≤ 9223372036854775807) (hm0 : 0 ≤ most) (hm1 : most ≤ 255) (w : World) (hL : K.Laid w) :
    Calls Tryd.prog 3 #[.string ⟨b.toArray⟩, .int .i64 n, .int .u8 most] w fun e w' => e = .returned (.bool true) ∧ Below w.heap.size w w' := by
  have HL := Lib.hid hL
  clear hL
  have hb' : ¬ (300 : Int) < b.length := by omega
  refine (callsIn_wide (n := 5)).1 ?_
  refine callsIn_of_wp_marks Tryd.func3 rfl trivial ?_ rfl
  simp only [Tryd.ntmps3, List.size_toArray, List.length_cons, List.length_nil, Nat.reduceAdd, Nat.reduceSub, Array.replicate_succ, Array.replicate_zero, List.push_toArray, List.append_toArray, List.nil_append, List.cons_append]
  have hne := hnil #[.pointer (some ⟨w.heap.size + 1 + 1 + 1, 0, none⟩)]
  gi_wp2_with (refine ⟨trivial, ?_⟩; gi_at_call 6; refine (names_in _ _ _).mono ?_; rintro e w' ⟨rfl, rfl⟩)
  have b0 := ((((Boxed.new w 9 (.string ⟨b.toArray⟩)).alloc (.cells #[.int .u8 most] 5)).alloc (.cells #[.bool false] 4)).alloc (.cells #[.string ⟨b.toArray⟩] 9)).alloc (.cells #[.int .i64 0] 3)
  have b1 := (((Boxed.new (w.alloc (.cells #[.string ⟨b.toArray⟩] 9)) 5 (.int .u8 most)).alloc (.cells #[.bool false] 4)).alloc (.cells #[.string ⟨b.toArray⟩] 9)).alloc (.cells #[.int .i64 0] 3)
  have b2 := ((Boxed.new ((w.alloc (.cells #[.string ⟨b.toArray⟩] 9)).alloc (.cells #[.int .u8 most] 5)) 4 (.bool false)).alloc (.cells #[.string ⟨b.toArray⟩] 9)).alloc (.cells #[.int .i64 0] 3)
  have b3 := (Boxed.new (((w.alloc (.cells #[.string ⟨b.toArray⟩] 9)).alloc (.cells #[.int .u8 most] 5)).alloc (.cells #[.bool false] 4)) 9 (.string ⟨b.toArray⟩)).alloc (.cells #[.int .i64 0] 3)
  have b4 := Boxed.new ((((w.alloc (.cells #[.string ⟨b.toArray⟩] 9)).alloc (.cells #[.int .u8 most] 5)).alloc (.cells #[.bool false] 4)).alloc (.cells #[.string ⟨b.toArray⟩] 9)) 3 (.int .i64 0)
  have hB0 : Below w.heap.size w (((((w.alloc (.cells #[.string ⟨b.toArray⟩] 9)).alloc (.cells #[.int .u8 most] 5)).alloc (.cells #[.bool false] 4)).alloc (.cells #[.string ⟨b.toArray⟩] 9)).alloc (.cells #[.int .i64 0] 3)) :=
    (((((Below.refl _ w).alloc (Nat.le_refl _) _).alloc (by simp) _).alloc (by simp; omega) _).alloc (by simp; omega) _).alloc (by simp; omega) _
  have hsz : (((((w.alloc (.cells #[.string ⟨b.toArray⟩] 9)).alloc (.cells #[.int .u8 most] 5)).alloc (.cells #[.bool false] 4)).alloc (.cells #[.string ⟨b.toArray⟩] 9)).alloc (.cells #[.int .i64 0] 3)).heap.size = w.heap.size + 5 := by simp
  simp only [World.size_alloc] at b1 b2 b3 b4
  generalize ((((w.alloc (.cells #[.string ⟨b.toArray⟩] 9)).alloc (.cells #[.int .u8 most] 5)).alloc (.cells #[.bool false] 4)).alloc (.cells #[.string ⟨b.toArray⟩] 9)).alloc (.cells #[.int .i64 0] 3) = W0 at b0 b1 b2 b3 b4 hB0 hsz ⊢
  have hroom := HL.out.room
  refine wpIn_rangeFunc_ownG rfl (by omega) (gf := 11) (lb := #[.pointer (some ⟨w.heap.size + 1 + 1 + 1, 0, none⟩)]) rfl trivial (enters_of Tryd.func11 (by kernel_rfl) rfl)
    (names_stops _ (by omega) (w.heap.size + 1 + 1 + 1) (w.heap.size + 1 + 1 + 1 + 1) b (by omega) (by omega) W0 (by omega) (by omega) (HL.out.of_below hB0) b3.cell) belowK_t (belowK_b (by omega)) (Below.refl _ _) (fun _ => rfl)
    (fun pre W => (Good b pre ∧ (pre.length : Int) ≤ most) ∧ Boxed W w.heap.size 9 (.string ⟨b.toArray⟩) ∧ Boxed W (w.heap.size + 1) 5 (.int .u8 most) ∧ Boxed W (w.heap.size + 1 + 1) 4 (.bool false) ∧ Boxed W (w.heap.size + 1 + 1 + 1 + 1) 3 (.int .i64 pre.length) ∧ Below w.heap.size w W)
    (fun c pre W => (((c = .exit 0 ∧ (pre.length : Int) = most + 1) ∧ Boxed W w.heap.size 9 (.string ⟨b.toArray⟩) ∧ Boxed W (w.heap.size + 1) 5 (.int .u8 most) ∧ Boxed W (w.heap.size + 1 + 1) 4 (.bool false) ∧ Boxed W (w.heap.size + 1 + 1 + 1 + 1) 3 (.int .i64 pre.length)) ∨ ¬ raw pre <+: nms b) ∧ Below w.heap.size w W)
    (OwnFrom.and (ownFrom_pure _ _) (OwnFrom.and (Own.from (boxed_own _ _ (fun _ => .string ⟨b.toArray⟩)) _) (OwnFrom.and (Own.from (boxed_own _ _ (fun _ => .int .u8 most)) _) (OwnFrom.and (Own.from (boxed_own _ _ (fun _ => .bool false)) _) (OwnFrom.and (Own.from (boxed_own _ _ (fun pre : List Nm => .int .i64 pre.length)) _) (ownFrom_below (Nat.le_refl _) (by omega)))))))
    (fun c => OwnFrom.and (or_own (OwnFrom.and (ownFrom_pure _ _) (OwnFrom.and (Own.from (boxed_own _ _ (fun _ => .string ⟨b.toArray⟩)) _) (OwnFrom.and (Own.from (boxed_own _ _ (fun _ => .int .u8 most)) _) (OwnFrom.and (Own.from (boxed_own _ _ (fun _ => .bool false)) _) (Own.from (boxed_own _ _ (fun pre : List Nm => .int .i64 pre.length)) _))))) (ownFrom_pure _ _)) (ownFrom_below (Nat.le_refl _) (by omega)))
    ⟨⟨Good.start b, by simpa using hm0⟩, b0, b1, b2, b4, hB0⟩
    ?a1 ?assign ?body ?done ?stop
  case assign =>
    intro l x W K hK
    gi_wp2
    exact hK
  case body =>
    rintro l pre ⟨x, hxl⟩ W ⟨⟨hG, hlm⟩, c0, c1, c2, c4, hB⟩ hN
    have hc0 := (c0.other (B' := w.heap.size + 1 + 1 + 1 + 1) (by omega) (.int .i64 ((pre.length : Int) + 1))).cell
    have hc1 := (c1.other (B' := w.heap.size + 1 + 1 + 1 + 1) (by omega) (.int .i64 ((pre.length : Int) + 1))).cell
    have d2 := c2.other (B' := w.heap.size + 1 + 1 + 1 + 1) (by omega) (.int .i64 ((pre.length : Int) + 1))
    have hc4 := c4.cell
    have hf4 := c4.frozen
    have d4 := c4.set (.int .i64 ((pre.length : Int) + 1))
    have hd4 := d4.cell
    have hBk : Below w.heap.size w (W.setCell ⟨w.heap.size + 1 + 1 + 1 + 1, 0, none⟩ (.int .i64 ((pre.length : Int) + 1))) := hB.setCell (p := ⟨w.heap.size + 1 + 1 + 1 + 1, 0, none⟩) (by show w.heap.size ≤ w.heap.size + 1 + 1 + 1 + 1; omega) _
    have cn := refNth_any b ((pre.length : Int) + 1) (by omega) (by omega) (by omega) (W.setCell ⟨w.heap.size + 1 + 1 + 1 + 1, 0, none⟩ (.int .i64 ((pre.length : Int) + 1)))
    have d0 := c0.other (B' := w.heap.size + 1 + 1 + 1 + 1) (by omega) (.int .i64 ((pre.length : Int) + 1))
    have d1 := c1.other (B' := w.heap.size + 1 + 1 + 1 + 1) (by omega) (.int .i64 ((pre.length : Int) + 1))
    have hcc : w.heap.size + 1 + 1 + 1 + 1 < W.heap.size := c4.lt
    have hks : KeepsFrom W0.heap.size W (W.setCell ⟨w.heap.size + 1 + 1 + 1 + 1, 0, none⟩ (.int .i64 ((pre.length : Int) + 1))) := (KeepsOthers.setCell _ _ _).from _
    have hkb : Below (w.heap.size + 1 + 1 + 1 + 1) W (W.setCell ⟨w.heap.size + 1 + 1 + 1 + 1, 0, none⟩ (.int .i64 ((pre.length : Int) + 1))) := (Below.refl _ _).setCell (p := ⟨w.heap.size + 1 + 1 + 1 + 1, 0, none⟩) (Nat.le_refl _) _
    obtain ⟨X, hX⟩ : ∃ X, nt b ((pre.length : Int) + 1) = X := ⟨_, rfl⟩
    rw [hX] at cn
    have hle : (((pre ++ [⟨x, hxl⟩] : List Nm).length : Nat) : Int) = (pre.length : Int) + 1 := by simp
    have HX := Lib.hid hX
    have HG := Lib.hid hG
    have D0 := Lib.hid d0; have D1 := Lib.hid d1; have D2 := Lib.hid d2; have D4 := Lib.hid d4
    clear hX c0 c1 c2 c4 d0 d1 d2 d4 b0 b1 b2 b3 b4 hB0 hroom hne hG hB
    by_cases hx : x = X
    · subst hx
      have hxl' : ¬ (245 : Int) < x.length := by omega
      by_cases hm : most < (pre.length : Int) + 1
      · gi_wp2_with (refine ⟨trivial, ?_⟩; gi_at_call 8; refine (CallsIn.inRound l (callsIn_wide.2 cn)).mono ?_; clear cn; rintro e w2 ⟨rfl, hb2⟩; have e1 := (Boxed.below D1.out hb2).cell; have e4 := (Boxed.below D4.out hb2).cell)
        exact ⟨hks.trans (KeepsFrom.of_grownBy (below_grown hb2) (fun j e => by cases e)), .inl ⟨⟨rfl, by rw [hle]; omega⟩, Boxed.below D0.out hb2, Boxed.below D1.out hb2, Boxed.below D2.out hb2, by rw [hle]; exact Boxed.below D4.out hb2⟩, hBk.trans (hb2.mono (by simp; omega))⟩
      · gi_wp2_with (refine ⟨trivial, ?_⟩; gi_at_call 8; refine (CallsIn.inRound l (callsIn_wide.2 cn)).mono ?_; clear cn; rintro e w2 ⟨rfl, hb2⟩; have e1 := (Boxed.below D1.out hb2).cell; have e4 := (Boxed.below D4.out hb2).cell)
        exact ⟨hks.trans (KeepsFrom.of_grownBy (below_grown hb2) (fun j e => by cases e)), hkb.trans (hb2.mono (by simp; omega)), ⟨HG.out.step hN HX.out.symm, by rw [hle]; omega⟩, Boxed.below D0.out hb2, Boxed.below D1.out hb2, Boxed.below D2.out hb2, by rw [hle]; exact Boxed.below D4.out hb2, hBk.trans (hb2.mono (by simp; omega))⟩
    · have hx' : (x == X) = false := by simpa using hx
      gi_wp2_with (refine ⟨trivial, ?_⟩; gi_at_call 8; refine (CallsIn.inRound l (callsIn_wide.2 cn)).mono ?_; clear cn; rintro e w2 ⟨rfl, hb2⟩; have e2 := (Boxed.below D2.out hb2).cell; have f2 := (Boxed.below D2.out hb2).frozen)
      exact ⟨(hks.trans (KeepsFrom.of_grownBy (below_grown hb2) (fun j e => by cases e))).trans ((KeepsOthers.setCell _ _ _).from _), .inr (bad_step (by rw [HX.out]; exact hx)), (hBk.trans (hb2.mono (by simp; omega))).setCell (p := ⟨w.heap.size + 1 + 1, 0, none⟩) (by show w.heap.size ≤ w.heap.size + 1 + 1; omega) _⟩
  case done =>
    rintro Dd ys W hD hys ⟨⟨hG, hlm⟩, c0, c1, c2, c4, hB⟩ hK
    exfalso
    have := congrArg List.length hys
    rw [raw_len, nms_len] at this
    omega
  case stop =>
    rintro Dd c pre W hD hSp ⟨h, hB⟩ hK
    rcases h with ⟨⟨rfl, hpl⟩, c0, c1, c2, c4⟩ | h
    · have K10 : Kt b most (pre.length : Int) w W := ⟨HL.out.of_below hB, hB, c0, c1, c2, c4⟩
      rw [hpl] at K10
      clear c0 c1 c2 c4 hB hSp hpl b0 b1 b2 b3 b4 hB0 hroom hne
      have K11 := K10.later (drew_below W)
      clear K10
      gi_wp2_with fail
      refine wpIn_wide.2 ?_
      have k1 := K11.c1.cell; have k4 := K11.c4.cell
      have HK := Lib.hid hK
      clear hK
      have hw1 : IntKind.i64.wrap most = most := IntWalk.i64_in _ (by omega)
      have hw2 : IntKind.i64.wrap (most + 1) = most + 1 := IntWalk.i64_in _ (by omega)
      go_region_held3 (fun w' => w'.cell? ⟨w.heap.size, 0, none⟩ = some (.string ⟨b.toArray⟩) ∧ w'.cell? ⟨w.heap.size + 1, 0, none⟩ = some (.int .u8 most) ∧ w'.cell? ⟨w.heap.size + 1 + 1 + 1 + 1, 0, none⟩ = some (.int .i64 (most + 1)))
        (first
          | exact ⟨K11.c0.cell, K11.c1.cell, K11.c4.cell⟩
          | exact ⟨K12.c0.cell, K12.c1.cell, K12.c4.cell⟩
          | exact ⟨K13.c0.cell, K13.c1.cell, K13.c4.cell⟩
          | exact ⟨K14.c0.cell, K14.c1.cell, K14.c4.cell⟩
          | exact ⟨(K14.c0.other (by omega) _).cell, (K14.c1.other (by omega) _).cell, (K14.c4.other (by omega) _).cell⟩)
        (first
          | (go_at_call 9; refine (Nth_any b n (by omega) h0 h1 W.drew K11.laid).mono ?_; rintro e w12 ⟨rfl, b12⟩; have K12 := K11.later b12)
          | (go_at_call 8; refine (refNth_any b n (by omega) h0 h1 w12).mono ?_; rintro e w13 ⟨rfl, b13⟩; have K13 := K12.later b13)
          | (go_at_call 7; refine (awake_any w13 K13.laid).mono ?_; rintro e w14 ⟨rfl, b14⟩; have K14 := K13.later b14; have hs2 := K14.c2.cell; have hf2 := K14.c2.frozen))
      have bD := below_two (below_two (below_two (drew_below W) b12) b13) b14
      have hDl := (Array.getElem?_eq_some_iff.1 HK.out).1
      have hK2 := (Below.heap_setCell w14 ⟨w.heap.size + 1 + 1, 0, none⟩ (.bool true) Dd (show Dd ≠ w.heap.size + 1 + 1 by omega)).trans ((bD.block Dd hDl).trans HK.out)
      have e2 := ((K14.c2.set (.bool true)).kept (grownBy_putObj' _ Dd (.deferred none)) (by intro e; cases e; omega)).cell
      have hB14 := K14.below
      gi_wp2
      refine ⟨by simp, .inl ⟨_, _, rfl, run_takeDeferred hK2, ?_⟩⟩
      refine ⟨_, by simp [results, Tryd.results3, go_sem, e2], rfl, ?_⟩
      exact (hB14.setCell (p := ⟨w.heap.size + 1 + 1, 0, none⟩) (show w.heap.size ≤ w.heap.size + 1 + 1 by omega) _).trans (belowK_b (n₀ := w.heap.size) (w := w) (Nat.le_refl _) _ Dd _ _ (by omega) hK2 rfl rfl)
    · exact absurd hSp h

set_option maxRecDepth 100000 in
set_option maxHeartbeats 4000000 in
theorem freshTells_walk (B : ByteArray) (n most : Int) (h0 : -9223372036854775808 ≤ n) (h1 : n ≤ 9223372036854775807) (hm0 : 0 ≤ most) (hm1 : most ≤ 255) (w : World) (hL : K.Laid w) :
    Calls Tryd.prog 3 #[.string B, .int .i64 n, .int .u8 most] w fun e w' => e = .returned (.bool true) ∧ Below w.heap.size w w' := by
  obtain ⟨b, rfl⟩ := bytes_eq B
  by_cases hb : b.length ≤ 300
  · exact freshTells_short b n most hb h0 h1 hm0 hm1 w hL
  · have hb' : (300 : Int) < b.length := by omega
    have HL := Lib.hid hL
    clear hb hL
    have cn : ∀ w', Calls Tryd.prog 6 #[.string ⟨b.toArray⟩] w' _ := fun w' => (callsIn_wide (n := 5)).1 (names_in 5 ⟨b.toArray⟩ w')
    have cw : ∀ w', Below w.heap.size w w' → _ := fun w' h => awake_any w' (HL.out.of_below h)
    have b2 := (Boxed.new ((w.alloc (.cells #[.string ⟨b.toArray⟩] 9)).alloc (.cells #[.int .u8 most] 5)) 4 (.bool false)).alloc (.cells #[.string ⟨b.toArray⟩] 9)
    simp only [World.size_alloc] at b2
    have hB4 : Below w.heap.size w ((((w.alloc (.cells #[.string ⟨b.toArray⟩] 9)).alloc (.cells #[.int .u8 most] 5)).alloc (.cells #[.bool false] 4)).alloc (.cells #[.string ⟨b.toArray⟩] 9)) := ((((Below.refl _ w).alloc (Nat.le_refl _) _).alloc (by simp) _).alloc (by simp; omega) _).alloc (by simp; omega) _
    have B2 := Lib.hid b2; have B4 := Lib.hid hB4
    clear b2 hB4
    go_enter Tryd.func3, Tryd.ntmps3
    go_wp2_with (first
      | (go_at_call 6; refine (cn _).mono ?_; rintro e w' ⟨rfl, rfl⟩)
      | (go_at_call 7; refine (cw _ B4.out).mono ?_; rintro e w1 ⟨rfl, hb1⟩; have d2 := Boxed.below B2.out hb1; have e2 := d2.cell; have f2 := d2.frozen; have e3 := (d2.set (.bool true)).cell))
    refine bodyPost_ret (by simp [results, Tryd.results3, go_sem, e3]; rfl) rfl ?_
    exact ⟨rfl, (below_two B4.out hb1).setCell (p := ⟨w.heap.size + 1 + 1, 0, none⟩) (show w.heap.size ≤ w.heap.size + 1 + 1 by omega) _⟩
end Go.Proofs.YtpgikopajbjjhaaDoor.F
