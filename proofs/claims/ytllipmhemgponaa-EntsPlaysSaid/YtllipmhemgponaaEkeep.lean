/-
  The walk of EntsKeep.
-/
import Derived.Test.YtllipmhemgponaaElaw
import Derived.Laws.AppendOwnNone
namespace Go.Proofs.Ytllipmhemgponaa.E
open Go.RowKit Go.Shelf

/-- put in one behind the other, those with a number -/
def kp (R : List Ent) (x : Ent) : List Ent := if 0 < x.no then put R x else R
def kept (ls : List Ent) : List Ent := ls.foldl kp []
theorem kept_take {ls : List Ent} {k : Nat} {x : Ent} (h : ls[k]? = some x) : kept (ls.take (k + 1)) = kp (kept (ls.take k)) x := by
  rw [List.take_add_one, h]; simp [kept]
theorem up_kp {R : List Ent} (h : Up R) (x : Ent) : Up (kp R x) := by
  unfold kp; split
  · exact up_put h _
  · exact h
theorem up_foldkp : ∀ (ls R : List Ent), Up R → Up (ls.foldl kp R)
  | [], _, h => h
  | x :: ls, _, h => up_foldkp ls _ (up_kp h x)
theorem up_kept (ls : List Ent) : Up (kept ls) := up_foldkp ls [] List.Pairwise.nil
theorem split_le (ls : List Ent) (n : List UInt8) : (lo ls n).length + (hi ls n).length ≤ ls.length := by
  induction ls with
  | nil => simp [lo, hi]
  | cons x ls ih =>
    unfold lo hi at *
    simp only [List.filter_cons, List.length_cons]
    by_cases h : x.name < n
    · have h2 := lt_asymm h
      simp only [h, h2, decide_true, decide_false, if_true, Bool.false_eq_true, if_false, List.length_cons]; omega
    · by_cases h2 : n < x.name
      · simp only [h, h2, decide_true, decide_false, if_true, Bool.false_eq_true, if_false, List.length_cons]; omega
      · simp only [h, h2, decide_false, Bool.false_eq_true, if_false]; omega
theorem put_len (R : List Ent) (y : Ent) : (put R y).length ≤ R.length + 1 := by
  have := split_le R y.name
  unfold put
  simp only [List.length_append, List.length_singleton]; omega
theorem kp_len (R : List Ent) (y : Ent) : (kp R y).length ≤ R.length + 1 := by
  unfold kp; split
  · exact put_len R y
  · omega
theorem kept_len : ∀ (ls R : List Ent), (ls.foldl kp R).length ≤ R.length + ls.length
  | [], R => by simp
  | x :: ls, R => by
    have := kept_len ls (kp R x)
    have := kp_len R x
    simp only [List.foldl_cons, List.length_cons]; omega

theorem own_app {B : Nat} {v : Value} {R : List Ent} {w : World} (h : w.ownsRow B 25 2 v (0 + R.length) ([] ++ flat R)) : Own B v R w := by
  unfold Own; simpa using h

set_option maxRecDepth 100000 in
set_option maxHeartbeats 8000000 in
theorem entsKeep_walk (v : Value) (ls : List Ent) (X : Ent) (w : World) (hS : Sees v ls w) (hsz : ls.length ≤ 9223372036854775807) :
    Calls Try.prog 5 #[v, .agg #[.string ⟨X.name.toArray⟩, .int .i64 X.no]] w fun e w' => e = .returned (.bool true) ∧ Below w.heap.size w w' := by
  obtain ⟨i0, hi0, hz0, hz1, hz2⟩ := info_parts infoE
  obtain ⟨W, hW⟩ : ∃ W, W = w.alloc (.cells #[.string ⟨X.name.toArray⟩, .int .i64 X.no] 25) := ⟨_, rfl⟩
  have B0 : Below w.heap.size w W := by rw [hW]; exact (Below.refl _ _).alloc (Nat.le_refl _) _
  have HX : Hid (Box2 w.heap.size X W) := Lib.hid (by rw [hW]; exact Box2.new X w)
  have hSW := hS.below B0
  have HW := Lib.hid hW; have HB0 := Lib.hid B0
  obtain ⟨oa, cap, rfl, _, _⟩ := hS
  obtain ⟨oa', cap', he, _, hcells⟩ := hSW
  cases he
  have HC := Lib.hid hcells
  have ca := fun w' => awake_any w'
  clear hcells hW B0
  by_cases hl : ls.length ≤ 40
  · have hl' : ¬ (40 : Int) < ls.length := by omega
    go_enter Try.func5, Try.ntmps5
    go_wp2_with fail
    rw [← HW.out]
    go_wp2
    go_loopw [5, 6] (fun u i wr => ∃ k : Nat, k ≤ ls.length ∧ i = .int .i64 k ∧ Own W.heap.size u (kept (ls.take k)) wr ∧ Below W.heap.size W wr) (fun _ i _ => ls.length - (intOf i).toNat)
    case atStart => exact ⟨0, Nat.zero_le _, rfl, Own.nil _ _, Below.refl _ _⟩
    case round =>
      obtain ⟨k, hk, rfl, hO, hb⟩ := hrel
      have hRl := kept_len (ls.take k) []
      rw [List.length_nil, List.length_take] at hRl
      by_cases hlt : k < ls.length
      · obtain ⟨x, hx⟩ : ∃ x, ls[k]? = some x := ⟨_, List.getElem?_eq_getElem hlt⟩
        obtain ⟨g, o, rfl, h0, h1⟩ := HC.out k x hx
        have hg := World.block_lt_of_cell? _ _ h0
        have d0 := (hb.cell (p := ⟨g, o + k * 2, none⟩) hg).trans h0
        have d1 := (hb.cell (p := ⟨g, o + k * 2 + 1, none⟩) hg).trans h1
        have HT := Lib.hid (kept_take hx)
        clear h0 h1 hx
        have HO := Lib.hid hO; have HB := Lib.hid hb
        by_cases hno : 0 < x.no
        · have HN := Lib.hid (HT.out.trans (by unfold kp; rw [if_pos hno]))
          change (kept (ls.take k)).length ≤ _ at hRl
          generalize kept (ls.take k) = R at HO HN hRl hO
          have cp := refPut_any _ R x wr hO.sees (by omega)
          have hs := hO.sees
          obtain ⟨ou, cu, rfl, _, _⟩ := hs
          clear hO hb HT
          go_wp2_with (go_at_call 10; refine cp.mono ?_; rintro e w2 ⟨u2, rfl, hO2, hb2⟩)
          go_roundw
          case rel => exact ⟨k + 1, by omega, by go_num, by rw [HN.out]; exact hO2.mono HB.out.size, below_two HB.out hb2⟩
          case measure => simp [intOf]; omega
        · have HN := Lib.hid (HT.out.trans (by unfold kp; rw [if_neg hno]))
          clear hO hb HT
          go_wp2
          go_roundw
          case rel => exact ⟨k + 1, by omega, by go_num, by rw [HN.out]; exact HO.out, HB.out⟩
          case measure => simp [intOf]; omega
      · have hall : ls.take k = ls := List.take_of_length_le (by omega)
        rw [hall] at hO hRl
        have hup := up_kept ls
        change (kept ls).length ≤ _ at hRl
        generalize kept ls = R at hO hRl hup
        have HUR := Lib.hid hup
        have HSa := Lib.hid hO.sees
        have HB := Lib.hid hb
        have hf := hO.forms
        have HP1 : Hid True := Lib.hid trivial
        have HP2 : Hid True := Lib.hid trivial
        clear hall hup hb hO
        rcases hf with ⟨rfl, rfl⟩ | ⟨g9, c9, rfl⟩
        · go_wp2_with (first
              | (at_builtin; refine wpList_append_own_none rfl _ _ 22 rfl wr.heap.size 25 i0 2 Try.underlying22 hi0 _ 0 [] rfl (empty_own wr) rfl ?_
                 have hb1 : Below W.heap.size W (wr.alloc (.cells #[] 25)) := HB.out.alloc HB.out.size _
                 have hOb : Own wr.heap.size (.slice (some ⟨wr.heap.size, 0, none⟩) 0 0) [] (wr.alloc (.cells #[] 25)) := empty_own wr
                 have HSa1 := Lib.hid (HSa.out.below ((Below.refl _ _).alloc (Nat.le_refl _) (.cells #[] 25)))
                 have HSb1 := Lib.hid hOb.sees
                 have HB1 := Lib.hid hb1
                 have hX := (HX.out.below hb1).facts
                 generalize wr.alloc (.cells #[] 25) = w1 at HSa1 HSb1 HB1 hX
                 obtain ⟨x0, x1, _, _⟩ := hX
                 clear hb1 hOb)
              | (go_at_call 9; have once := HP1.out; clear HP1 once; refine (put_any HSa1.out X.name X.no HUR.out (by simp)).mono ?_; rintro e w2 ⟨u2, rfl, hO2, hb2⟩
                 obtain ⟨x0, x1, _, _⟩ := (HX.out.below (below_two HB1.out hb2)).facts)
              | (go_at_call 7; refine (drop_any (HSa1.out.below hb2) X.name HUR.out (by simp)).mono ?_; rintro e w3 ⟨u3, rfl, hO3, hb3⟩
                 obtain ⟨x0, x1, _, _⟩ := (HX.out.below (below_two (below_two HB1.out hb2) hb3)).facts)
              | (go_at_call 9; refine (put_any ((HSa1.out.below hb2).below hb3) X.name 7 HUR.out (by simp)).mono ?_; rintro e w4 ⟨u4, rfl, hO4, hb4⟩
                 have hs4 := hO4.sees
                 have HS4 := Lib.hid hs4
                 obtain ⟨o4, c4, rfl, _, _⟩ := hs4)
              | (go_at_call 11; have once := HP2.out; clear HP2 once; refine (same_any _ _ [] w4 (((HSa1.out.below hb2).below hb3).below hb4) (((HSb1.out.below hb2).below hb3).below hb4) (by simp)).mono ?_; rintro e w5 ⟨rfl, hb5⟩
                 obtain ⟨x0, x1, _, _⟩ := (HX.out.below (below_two (below_two (below_two (below_two HB1.out hb2) hb3) hb4) hb5)).facts)
              | (go_at_call 10; refine (refPut_any _ [] ⟨X.name, 7⟩ w5 ((((HSb1.out.below hb2).below hb3).below hb4).below hb5) (by simp)).mono ?_; rintro e w6 ⟨u6, rfl, hO6, hb6⟩
                 have hs6 := hO6.sees
                 have HS6 := Lib.hid hs6
                 obtain ⟨o6, c6, rfl, _, _⟩ := hs6)
              | (go_at_call 11; refine (same_any _ _ (put [] ⟨X.name, 7⟩) w6 ((HS4.out.below hb5).below hb6) HS6.out (by have := put_len [] ⟨X.name, 7⟩; rw [List.length_nil] at this; omega)).mono ?_; rintro e w7 ⟨rfl, hb7⟩)
              | (go_at_call 6; refine (ca _).mono ?_; rintro e w8 ⟨rfl, hb8⟩))
          go_ret
          exact ⟨rfl, below_two HB0.out (below_two (below_two (below_two (below_two (below_two (below_two (below_two HB1.out hb2) hb3) hb4) hb5) hb6) hb7) hb8)⟩
        · have HF := Lib.hid (sees_flat (HSa.out.below ((Below.refl _ _).alloc (Nat.le_refl _) (.cells #[] 25))))
          go_wp2_with (first
              | (at_builtin; refine wpList_append_own _ rfl _ _ 22 rfl wr.heap.size 25 i0 (.agg #[.string ⟨#[]⟩, .int .i64 0]) 2 24 Try.underlying22 hi0 hz0 hz1 hz2 rfl (by decide) _ _ _ rfl (empty_own wr) ⟨g9, 0, none⟩ R.length c9 (flat R) rfl (flat_len R) HF.out (flat_one R) (by unfold maxLen; omega) (by omega) (by simp) ?_; intro v' w1 hown' hgrow _
                 have hb1 : Below wr.heap.size wr w1 := ((Below.refl _ _).alloc (Nat.le_refl _) _).grown hgrow (by simp) (fun k hk => ((empty_own wr).lt k hk).1)
                 have hOb : Own wr.heap.size v' R w1 := own_app hown'
                 have hsb := hOb.sees
                 have HSa1 := Lib.hid (HSa.out.below hb1)
                 have HSb1 := Lib.hid hsb
                 have HB1 := Lib.hid (below_two HB.out hb1)
                 have hX := (HX.out.below HB1.out).facts
                 obtain ⟨x0, x1, _, _⟩ := hX
                 obtain ⟨ob, cb, rfl, _, _⟩ := hsb
                 clear hb1 hOb hown' hgrow)
              | (go_at_call 9; have once := HP1.out; clear HP1 once; refine (put_any HSa1.out X.name X.no HUR.out (by omega)).mono ?_; rintro e w2 ⟨u2, rfl, hO2, hb2⟩
                 obtain ⟨x0, x1, _, _⟩ := (HX.out.below (below_two HB1.out hb2)).facts)
              | (go_at_call 7; refine (drop_any (HSa1.out.below hb2) X.name HUR.out (by omega)).mono ?_; rintro e w3 ⟨u3, rfl, hO3, hb3⟩
                 obtain ⟨x0, x1, _, _⟩ := (HX.out.below (below_two (below_two HB1.out hb2) hb3)).facts)
              | (go_at_call 9; refine (put_any ((HSa1.out.below hb2).below hb3) X.name 7 HUR.out (by omega)).mono ?_; rintro e w4 ⟨u4, rfl, hO4, hb4⟩
                 have hs4 := hO4.sees
                 have HS4 := Lib.hid hs4
                 obtain ⟨o4, c4, rfl, _, _⟩ := hs4)
              | (go_at_call 11; have once := HP2.out; clear HP2 once; refine (same_any _ _ R w4 (((HSa1.out.below hb2).below hb3).below hb4) (((HSb1.out.below hb2).below hb3).below hb4) (by omega)).mono ?_; rintro e w5 ⟨rfl, hb5⟩
                 obtain ⟨x0, x1, _, _⟩ := (HX.out.below (below_two (below_two (below_two (below_two HB1.out hb2) hb3) hb4) hb5)).facts)
              | (go_at_call 10; refine (refPut_any _ R ⟨X.name, 7⟩ w5 ((((HSb1.out.below hb2).below hb3).below hb4).below hb5) (by omega)).mono ?_; rintro e w6 ⟨u6, rfl, hO6, hb6⟩
                 have hs6 := hO6.sees
                 have HS6 := Lib.hid hs6
                 obtain ⟨o6, c6, rfl, _, _⟩ := hs6)
              | (go_at_call 11; refine (same_any _ _ (put R ⟨X.name, 7⟩) w6 ((HS4.out.below hb5).below hb6) HS6.out (by have := put_len R ⟨X.name, 7⟩; omega)).mono ?_; rintro e w7 ⟨rfl, hb7⟩)
              | (go_at_call 6; refine (ca _).mono ?_; rintro e w8 ⟨rfl, hb8⟩))
          go_ret
          exact ⟨rfl, below_two HB0.out (below_two (below_two (below_two (below_two (below_two (below_two (below_two HB1.out hb2) hb3) hb4) hb5) hb6) hb7) hb8)⟩
  · have hl' : (40 : Int) < ls.length := by omega
    go_enter Try.func5, Try.ntmps5
    go_wp2_with fail
    rw [← HW.out]
    go_wp2_with (go_at_call 6; refine (ca _).mono ?_; rintro e w2 ⟨rfl, hb2⟩)
    go_ret
    exact ⟨rfl, below_two HB0.out hb2⟩
end Go.Proofs.Ytllipmhemgponaa.E
