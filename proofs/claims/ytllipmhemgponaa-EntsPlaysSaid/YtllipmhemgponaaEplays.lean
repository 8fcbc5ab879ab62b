/-
  The walk of EntsPlays.
-/
import Derived.Test.YtllipmhemgponaaEkeep
namespace Go.Proofs.Ytllipmhemgponaa.E
open Go.RowKit Go.Shelf

/-- one entry more: put in, or dropped -/
def pl (R : List Ent) (x : Ent) : List Ent := if x.no < 1 then drop R x.name else put R x
def plays (ls : List Ent) : List Ent := ls.foldl pl []
theorem plays_take {ls : List Ent} {k : Nat} {x : Ent} (h : ls[k]? = some x) : plays (ls.take (k + 1)) = pl (plays (ls.take k)) x := by
  rw [List.take_add_one, h]; simp [plays]
theorem up_pl {R : List Ent} (h : Up R) (x : Ent) : Up (pl R x) := by
  unfold pl; split
  · exact up_drop h _
  · exact up_put h _
theorem up_foldpl : ∀ (ls R : List Ent), Up R → Up (ls.foldl pl R)
  | [], _, h => h
  | x :: ls, _, h => up_foldpl ls _ (up_pl h x)
theorem up_plays (ls : List Ent) : Up (plays ls) := up_foldpl ls [] List.Pairwise.nil
theorem pl_len (R : List Ent) (x : Ent) : (pl R x).length ≤ R.length + 1 := by
  unfold pl; split
  · have := drop_len R x.name; omega
  · exact put_len R x
theorem foldpl_len : ∀ (ls R : List Ent), (ls.foldl pl R).length ≤ R.length + ls.length
  | [], R => by simp
  | x :: ls, R => by
    have h1 := foldpl_len ls (pl R x)
    have h2 := pl_len R x
    simp only [List.foldl_cons, List.length_cons]; omega
theorem plays_len (ls : List Ent) : (plays ls).length ≤ ls.length := by have := foldpl_len ls []; simpa [plays] using this

/-- the element at hand, the two rows, and the rest of the call's world -/
abbrev SP (n0 g : Nat) (x : Ent) (a b : Value) (R : List Ent) (w0 w' : World) : Prop :=
  w'.cell? ⟨g, 0, none⟩ = some (.string ⟨x.name.toArray⟩) ∧ w'.cell? ⟨g, 1, none⟩ = some (.int .i64 x.no) ∧ Own n0 a R w' ∧ Own n0 b R w' ∧ Below w0.heap.size w0 w'
theorem SP.below {n0 g : Nat} {x : Ent} {a b : Value} {R : List Ent} {w0 w w' : World} (h : SP n0 g x a b R w0 w) (hb : Below w.heap.size w w') : SP n0 g x a b R w0 w' := by
  obtain ⟨h0, h1, h3, h4, h5⟩ := h
  have hg : g < w.heap.size := World.block_lt_of_cell? _ _ h0
  exact ⟨(hb.cell (p := ⟨g, 0, none⟩) hg).trans h0, (hb.cell (p := ⟨g, 1, none⟩) hg).trans h1, h3.below hb, h4.below hb, below_two h5 hb⟩
theorem put_held {n0 g : Nat} {x : Ent} {a b : Value} {R R' : List Ent} {w0 : World} (hu : Up R) (hl : R.length ≤ 100000) (hn0 : n0 ≤ w0.heap.size) (hR : put R x = R') (W : World) (h : SP n0 g x a b R w0 W) :
    Calls Try.prog 9 #[a, .string ⟨x.name.toArray⟩, .int .i64 x.no] W fun e w' => ∃ u, e = .returned u ∧ Own n0 u R' w' ∧ SP n0 g x a b R w0 w' := by
  refine (put_any h.2.2.1.sees x.name x.no hu hl).mono ?_
  rintro e w' ⟨u, rfl, hO, hB⟩
  exact ⟨u, rfl, by rw [← hR]; exact hO.mono (Nat.le_trans hn0 h.2.2.2.2.size), h.below hB⟩
theorem rput_held {n0 g : Nat} {x : Ent} {a b : Value} {R R' : List Ent} {w0 : World} (hl : R.length ≤ 100000) (hn0 : n0 ≤ w0.heap.size) (hR : put R x = R') (W : World) (h : SP n0 g x a b R w0 W) :
    Calls Try.prog 10 #[b, .agg #[.string ⟨x.name.toArray⟩, .int .i64 x.no]] W fun e w' => ∃ u, e = .returned u ∧ Own n0 u R' w' ∧ SP n0 g x a b R w0 w' ∧ Below W.heap.size W w' := by
  refine (refPut_any b R x W h.2.2.2.1.sees hl).mono ?_
  rintro e w' ⟨u, rfl, hO, hB⟩
  exact ⟨u, rfl, by rw [← hR]; exact hO.mono (Nat.le_trans hn0 h.2.2.2.2.size), h.below hB, hB⟩

theorem noOf_cons (x : Ent) (l : List Ent) (n : List UInt8) : noOf (x :: l) n = if x.name = n then x.no else noOf l n := by
  unfold noOf fil
  rw [List.filter_cons]
  by_cases h : x.name = n <;> simp [h]
theorem nameOf_cons (x : Ent) (l : List Ent) (no : Int) : nameOf (x :: l) no = if x.no = no then some x.name else nameOf l no := by
  unfold nameOf
  rw [List.find?_cons]
  by_cases h : x.no = no <;> simp [h]
theorem drop_cons {R : List Ent} {t : Nat} {x : Ent} (h : R[t]? = some x) : R.drop t = x :: R.drop (t + 1) := by
  obtain ⟨hk, he⟩ := List.getElem?_eq_some_iff.1 h
  rw [← he]; exact List.drop_eq_getElem_cons hk

set_option maxRecDepth 100000 in
set_option maxHeartbeats 16000000 in
theorem entsPlays_walk (v : Value) (ls : List Ent) (N : ByteArray) (no : Int) (w : World) (hS : Sees v ls w) (hsz : ls.length ≤ 9223372036854775807) :
    Calls Try.prog 3 #[v, .string N, .int .i64 no] w fun e w' => e = .returned (.bool true) ∧ Below w.heap.size w w' := by
  obtain ⟨n, rfl⟩ := bytes_eq N
  have ca := fun w' => awake_any w'
  obtain ⟨oa, cap, rfl, _, hcells⟩ := hS
  have HC := Lib.hid hcells
  clear hcells
  by_cases hl : ls.length ≤ 40
  · have hl' : ¬ (40 : Int) < ls.length := by omega
    by_cases hn : n.length ≤ 300
    · have hn' : ¬ (300 : Int) < n.length := by omega
      clear hn
      go_enter Try.func3, Try.ntmps3
      go_wp2
      go_loopw [7, 8, 9] (fun a b i wr => ∃ k : Nat, k ≤ ls.length ∧ i = .int .i64 k ∧ Own w.heap.size a (plays (ls.take k)) wr ∧ Own w.heap.size b (plays (ls.take k)) wr ∧ Below w.heap.size w wr) (fun _ _ i _ => ls.length - (intOf i).toNat)
      case atStart => exact ⟨0, Nat.zero_le _, rfl, Own.nil _ _, Own.nil _ _, Below.refl _ _⟩
      case round =>
        obtain ⟨k, hk, rfl, hOa, hOb, hb⟩ := hrel
        have hup := up_plays (ls.take k)
        have hlen : (plays (ls.take k)).length ≤ 40 := by
          have := plays_len (ls.take k)
          rw [List.length_take] at this; omega
        by_cases hlt : k < ls.length
        · obtain ⟨x, hx⟩ : ∃ x, ls[k]? = some x := ⟨_, List.getElem?_eq_getElem hlt⟩
          obtain ⟨g, o, rfl, h0, h1⟩ := HC.out k x hx
          have hg := World.block_lt_of_cell? _ _ h0
          have d0 := (hb.cell (p := ⟨g, o + k * 2, none⟩) hg).trans h0
          have d1 := (hb.cell (p := ⟨g, o + k * 2 + 1, none⟩) hg).trans h1
          have HS := Lib.hid (plays_take hx)
          have hlen2 := pl_len (plays (ls.take k)) x
          obtain ⟨W, hW⟩ : ∃ W, W = wr.alloc (.cells #[.string ⟨x.name.toArray⟩, .int .i64 x.no] 25) := ⟨_, rfl⟩
          have hbW : Below wr.heap.size wr W := by rw [hW]; exact (Below.refl _ _).alloc (Nat.le_refl _) _
          have hx2 : Box2 wr.heap.size x W := by rw [hW]; exact Box2.new x wr
          obtain ⟨x0, x1, _, _⟩ := hx2.facts
          generalize plays (ls.take k) = R at hOa hOb HS hup hlen hlen2
          have T0 : SP w.heap.size wr.heap.size x _ _ R w W := ⟨x0, x1, hOa.below hbW, hOb.below hbW, below_two hb hbW⟩
          have HT0 := Lib.hid T0; have HW := Lib.hid hW; have HUP := Lib.hid hup
          clear h0 h1 hx hOa hOb hb T0 hW hup hbW hx2
          by_cases hxn : x.name.length ≤ 300
          · have hxn' : ¬ (300 : Int) < x.name.length := by omega
            by_cases ht : x.no < 1
            · have HP0 : plays (ls.take (k + 1)) = drop R x.name := by rw [HS.out]; unfold pl; rw [if_pos ht]
              have hpl0 : (drop R x.name).length ≤ 100000 := by have := drop_len R x.name; omega
              have hup2 := up_drop HUP.out x.name
              have ht2 := there_len HUP.out x.name
              have cd := drop_any HT0.out.2.2.1.sees x.name HUP.out (by omega)
              have hgW : wr.heap.size < W.heap.size := World.block_lt_of_cell? _ _ x0
              have HBW := Lib.hid HT0.out.2.2.2.2
              obtain ⟨R', hR'⟩ : ∃ R', drop R x.name = R' := ⟨_, rfl⟩
              rw [hR'] at HP0 hpl0 hup2 ht2 cd
              have HP := Lib.hid HP0; have HUP2 := Lib.hid hup2; have HR' := Lib.hid hR'; have hpl := hpl0
              clear HP0 hup2 hR' hpl0
              cases hth : there R x.name with
              | false =>
                rw [hth] at cd
                have hge : ¬ (R'.length : Int) < R.length := by rw [ht2] at hth; have := of_decide_eq_false hth; omega
                clear hth ht2
                go_wp2_with fail
                rw [← HW.out]
                go_wp2_with (first
                  | (go_at_call 7; refine cd.mono ?_; rintro e w2 ⟨ua, rfl, hO1, hb2⟩; have q0 := (hb2.cell (p := ⟨wr.heap.size, 0, none⟩) hgW).trans x0)
                  | (go_at_call 8; refine (refDrop_any u8 R x.name w2 (HT0.out.2.2.2.1.below hb2).sees (by omega)).mono ?_; rw [HR'.out]; rintro e w3 ⟨ub, rfl, hO2, hb3⟩
                     have HO1 := Lib.hid ((hO1.below hb3).mono (Nat.le_trans HBW.out.size (Nat.le_refl _)))
                     have hs2 := hO2.sees
                     have HO2 := Lib.hid (hO2.mono (Nat.le_trans HBW.out.size hb2.size))
                     have hs8 := HT0.out.2.2.2.1.sees
                     obtain ⟨o2, c2, rfl, _, _⟩ := hs2
                     obtain ⟨o8, c8, rfl, _, _⟩ := hs8
                     have HB := Lib.hid (below_two (below_two HBW.out hb2) hb3)
                     clear hO1 hO2)
                  | (go_at_call 11; refine (same_any _ _ R' w3 HO1.out.sees HO2.out.sees hpl).mono ?_; rintro e w4 ⟨rfl, hb4⟩)
                  | (go_at_call 12; refine (check_any (HO1.out.below hb4).sees hpl).mono ?_; rw [up_chk R' HUP2.out]; rintro e w5 ⟨rfl, hb5⟩))
                go_roundw
                case rel => exact ⟨k + 1, by omega, by go_num, by rw [HP.out]; exact (HO1.out.below hb4).below hb5, by rw [HP.out]; exact (HO2.out.below hb4).below hb5, below_two (below_two HB.out hb4) hb5⟩
                case measure => simp [intOf]; omega
              | true =>
                rw [hth] at cd
                have hge : (R'.length : Int) < R.length := by rw [ht2] at hth; have := of_decide_eq_true hth; omega
                clear hth ht2
                go_wp2_with fail
                rw [← HW.out]
                go_wp2_with (first
                  | (go_at_call 7; refine cd.mono ?_; rintro e w2 ⟨ua, rfl, hO1, hb2⟩; have q0 := (hb2.cell (p := ⟨wr.heap.size, 0, none⟩) hgW).trans x0)
                  | (go_at_call 8; refine (refDrop_any u8 R x.name w2 (HT0.out.2.2.2.1.below hb2).sees (by omega)).mono ?_; rw [HR'.out]; rintro e w3 ⟨ub, rfl, hO2, hb3⟩
                     have HO1 := Lib.hid ((hO1.below hb3).mono (Nat.le_trans HBW.out.size (Nat.le_refl _)))
                     have hs2 := hO2.sees
                     have HO2 := Lib.hid (hO2.mono (Nat.le_trans HBW.out.size hb2.size))
                     have hs8 := HT0.out.2.2.2.1.sees
                     obtain ⟨o2, c2, rfl, _, _⟩ := hs2
                     obtain ⟨o8, c8, rfl, _, _⟩ := hs8
                     have HB := Lib.hid (below_two (below_two HBW.out hb2) hb3)
                     clear hO1 hO2)
                  | (go_at_call 11; refine (same_any _ _ R' w3 HO1.out.sees HO2.out.sees hpl).mono ?_; rintro e w4 ⟨rfl, hb4⟩)
                  | (go_at_call 12; refine (check_any (HO1.out.below hb4).sees hpl).mono ?_; rw [up_chk R' HUP2.out]; rintro e w5 ⟨rfl, hb5⟩))
                go_roundw
                case rel => exact ⟨k + 1, by omega, by go_num, by rw [HP.out]; exact (HO1.out.below hb4).below hb5, by rw [HP.out]; exact (HO2.out.below hb4).below hb5, below_two (below_two HB.out hb4) hb5⟩
                case measure => simp [intOf]; omega
            · have HP : Hid (plays (ls.take (k + 1)) = put R x) := Lib.hid (by rw [HS.out]; unfold pl; rw [if_neg ht])
              have hpl : (put R x).length ≤ 100000 := by have := put_len R x; omega
              have HUP2 := Lib.hid (up_put HUP.out x)
              obtain ⟨R', hR'⟩ : ∃ R', put R x = R' := ⟨_, rfl⟩
              have cd := fun W h => put_held (a := u7) (b := u8) (n0 := w.heap.size) (g := wr.heap.size) (x := x) (R := R) (w0 := w) HUP.out (by omega) (Nat.le_refl _) hR' W h
              have cr := fun W h => rput_held (a := u7) (b := u8) (n0 := w.heap.size) (g := wr.heap.size) (x := x) (R := R) (w0 := w) (by omega) (Nat.le_refl _) hR' W h
              rw [hR'] at HP hpl HUP2
              clear hR'
              go_wp2_with fail
              rw [← HW.out]
              go_wp2_with fail
              have T1 : SP w.heap.size wr.heap.size x u7 u8 R w W.drew := HT0.out.below ((Below.refl _ _).drew)
              go_region_held3 (fun w' => w'.cell? ⟨wr.heap.size, 0, none⟩ = some (.string ⟨x.name.toArray⟩) ∧ w'.cell? ⟨wr.heap.size, 1, none⟩ = some (.int .i64 x.no) ∧ Own w.heap.size u7 R w' ∧ Own w.heap.size u8 R w' ∧ Below w.heap.size w w') (first | exact T3 | exact T2 | exact T1)
                (first
                  | (go_at_call 9; refine (cd _ (by assumption)).mono ?_; rintro e w2 ⟨ua, rfl, hO1, T2⟩)
                  | (go_at_call 10; refine (cr _ (by assumption)).mono ?_; rintro e w3 ⟨ub, rfl, hO2, T3, hB3⟩))
              have HO1 := Lib.hid (hO1.below hB3)
              have HO2 := Lib.hid hO2
              have HB := Lib.hid T3.2.2.2.2
              clear hO1 hO2 T1 T2 T3 hB3 cd cr x0 x1
              go_wp2_with (first
                | (go_at_call 11; refine (same_any _ _ R' w3 HO1.out.sees HO2.out.sees hpl).mono ?_; rintro e w4 ⟨rfl, hb4⟩)
                | (go_at_call 12; refine (check_any (HO1.out.below hb4).sees hpl).mono ?_; rw [up_chk R' HUP2.out]; rintro e w5 ⟨rfl, hb5⟩))
              go_roundw
              case rel => exact ⟨k + 1, by omega, by go_num, by rw [HP.out]; exact (HO1.out.below hb4).below hb5, by rw [HP.out]; exact (HO2.out.below hb4).below hb5, below_two (below_two HB.out hb4) hb5⟩
              case measure => simp [intOf]; omega
          · have hxn' : (300 : Int) < x.name.length := by omega
            go_wp2_with fail
            rw [← HW.out]
            go_wp2_with (go_at_call 6; refine (ca _).mono ?_; rintro e w2 ⟨rfl, hb2⟩)
            go_ret
            exact ⟨rfl, below_two HT0.out.2.2.2.2 hb2⟩
        · have hall : ls.take k = ls := List.take_of_length_le (by omega)
          rw [hall] at hOa hOb hup hlen
          generalize plays ls = R at hOa hOb hup hlen
          have HSa := Lib.hid hOa.sees
          have hsb := hOb.sees
          obtain ⟨oa1, ca1, rfl, _, _⟩ := hOa.sees
          obtain ⟨ob, cb, rfl, _, hcb⟩ := hsb
          have HCB := Lib.hid hcb; have HUP := Lib.hid hup; have HB := Lib.hid hb
          have hRi : (R.length : Int) ≤ 40 := by omega
          clear hall hOa hOb hup hb hcb
          go_wp2
          go_loopw [14, 15, 16, 17] (fun a1 b1 c1 i wr2 => ∃ (j : Nat) (z : Int), j ≤ R.length ∧ z = (j : Int) - 1 ∧ i = .int .i64 z ∧ a1 = .int .i64 (noOf (R.drop j) n) ∧ b1 = .string ⟨((nameOf (R.drop j) no).getD []).toArray⟩ ∧ c1 = .bool (nameOf (R.drop j) no).isSome ∧ wr2 = wr) (fun _ _ _ i _ => (intOf i + 1).toNat)
          case atStart => exact ⟨R.length, _, Nat.le_refl _, rfl, rfl, by rw [List.drop_length]; rfl, by rw [List.drop_length]; rfl, by rw [List.drop_length]; rfl, rfl⟩
          case round =>
            obtain ⟨j, z, hj, hz, rfl, rfl, rfl, rfl, rfl⟩ := hrel
            cases j with
            | zero =>
              have hzn : ¬ (0 : Int) ≤ z := by omega
              rw [List.drop_zero]
              have cn := name_any HSa.out no (by omega)
              have cf := fun w' (hb' : Below wr.heap.size wr w') => find_any (HSa.out.below hb') n HUP.out (by omega)
              generalize noOf R n = f at cf
              generalize (nameOf R no).isSome = h at cn
              generalize (nameOf R no).getD [] = m at cn
              go_wp2_with (first
                | (go_at_call 13; refine cn.mono ?_; rintro e w2 ⟨rfl, hb2⟩)
                | (go_at_call 14; refine (cf _ hb2).mono ?_; rintro e w3 ⟨rfl, hb3⟩)
                | (go_at_call 6; refine (ca _).mono ?_; rintro e w4 ⟨rfl, hb4⟩))
              go_ret
              exact ⟨rfl, below_two (below_two (below_two HB.out hb2) hb3) hb4⟩
            | succ t =>
              obtain rfl : z = (t : Int) := by omega
              obtain ⟨x, hx⟩ : ∃ x, R[t]? = some x := ⟨_, List.getElem?_eq_getElem (by omega)⟩
              obtain ⟨g, o, rfl, h0, h1⟩ := HCB.out t x hx
              have hti : (t : Int) < (R.length : Int) := by omega
              have HD := Lib.hid (drop_cons hx)
              have H1 := Lib.hid (noOf_cons x (R.drop (t + 1)) n)
              have H2 := Lib.hid (nameOf_cons x (R.drop (t + 1)) no)
              clear hx hz
              generalize noOf (R.drop (t + 1)) n = f at H1
              generalize nameOf (R.drop (t + 1)) no = q at H2
              by_cases hn1 : x.name = n
              · have K1 := Lib.hid (H1.out.trans (by rw [if_pos hn1]))
                have hb1 : (x.name == n) = true := by rw [hn1]; exact beq_self_eq_true _
                clear hn1
                by_cases hn2 : x.no = no
                · have K2 := Lib.hid (H2.out.trans (by rw [if_pos hn2]))
                  have hb2 : (x.no == no) = true := by rw [hn2]; exact beq_self_eq_true _
                  clear hn2
                  go_wp2
                  go_roundw
                  case rel => exact ⟨t, (t : Int) - 1, by omega, rfl, by first | rfl | go_num, by rw [HD.out, K1.out], by rw [HD.out, K2.out]; rfl, by rw [HD.out, K2.out]; rfl, trivial⟩
                  case measure => simp [intOf]
                · have K2 := Lib.hid (H2.out.trans (by rw [if_neg hn2]))
                  have hb2 : (x.no == no) = false := by rw [beq_eq_false_iff_ne]; exact hn2
                  clear hn2
                  go_wp2
                  go_roundw
                  case rel => exact ⟨t, (t : Int) - 1, by omega, rfl, by first | rfl | go_num, by rw [HD.out, K1.out], by rw [HD.out, K2.out], by rw [HD.out, K2.out], trivial⟩
                  case measure => simp [intOf]
              · have K1 := Lib.hid (H1.out.trans (by rw [if_neg hn1]))
                have hb1 : (x.name == n) = false := by rw [beq_eq_false_iff_ne]; exact hn1
                clear hn1
                by_cases hn2 : x.no = no
                · have K2 := Lib.hid (H2.out.trans (by rw [if_pos hn2]))
                  have hb2 : (x.no == no) = true := by rw [hn2]; exact beq_self_eq_true _
                  clear hn2
                  go_wp2
                  go_roundw
                  case rel => exact ⟨t, (t : Int) - 1, by omega, rfl, by first | rfl | go_num, by rw [HD.out, K1.out], by rw [HD.out, K2.out]; rfl, by rw [HD.out, K2.out]; rfl, trivial⟩
                  case measure => simp [intOf]
                · have K2 := Lib.hid (H2.out.trans (by rw [if_neg hn2]))
                  have hb2 : (x.no == no) = false := by rw [beq_eq_false_iff_ne]; exact hn2
                  clear hn2
                  go_wp2
                  go_roundw
                  case rel => exact ⟨t, (t : Int) - 1, by omega, rfl, by first | rfl | go_num, by rw [HD.out, K1.out], by rw [HD.out, K2.out], by rw [HD.out, K2.out], trivial⟩
                  case measure => simp [intOf]
    · have hn' : (300 : Int) < n.length := by omega
      go_enter Try.func3, Try.ntmps3
      go_wp2_with (go_at_call 6; refine (ca _).mono ?_; rintro e w2 ⟨rfl, hb2⟩)
      go_ret
      exact ⟨rfl, hb2⟩
  · have hl' : (40 : Int) < ls.length := by omega
    go_enter Try.func3, Try.ntmps3
    go_wp2_with (go_at_call 6; refine (ca _).mono ?_; rintro e w2 ⟨rfl, hb2⟩)
    go_ret
    exact ⟨rfl, hb2⟩
end Go.Proofs.Ytllipmhemgponaa.E
