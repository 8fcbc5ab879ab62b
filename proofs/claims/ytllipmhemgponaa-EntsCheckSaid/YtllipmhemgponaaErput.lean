/-
  The law's own put and drop.
-/
import Derived.Test.YtllipmhemgponaaEcheck
namespace Go.Proofs.Ytllipmhemgponaa.E
open Go.RowKit Go.Shelf

theorem cell_two_new (w : World) (a b : Value) (t : TypeId) : ∀ j u, [a, b][j]? = some u → (w.alloc (.cells #[a, b] t)).cell? ((⟨w.heap.size, 0, none⟩ : Addr).add j) = some u := by
  intro j u h
  rw [add_at, Nat.zero_add, World.cell?_alloc_new]
  match j, h with
  | 0, h => cases h; rfl
  | 1, h => cases h; rfl
  | j + 2, h => simp at h
set_option maxRecDepth 100000 in
set_option maxHeartbeats 4000000 in
theorem refDrop_any (v : Value) (ls : List Ent) (n : List UInt8) (w : World) (hR : Sees v ls w) (hl : ls.length ≤ 100000) :
    Calls Try.prog 8 #[v, .string ⟨n.toArray⟩] w fun e w' => ∃ u, e = .returned u ∧ Own w.heap.size u (drop ls n) w' ∧ Below w.heap.size w w' := by
  obtain ⟨i0, hi, hz0, hz1, hz2⟩ := info_parts infoE
  obtain ⟨oa, cap, rfl, _, hcells⟩ := hR
  have HC := Lib.hid hcells
  clear hcells
  go_enter Try.func8, Try.ntmps8
  go_wp2
  go_loopw [5, 6] (fun u i wr => ∃ k : Nat, k ≤ ls.length ∧ i = .int .i64 k ∧ Own w.heap.size u (drop (ls.take k) n) wr ∧ Below w.heap.size w wr) (fun _ i _ => ls.length - (intOf i).toNat)
  case atStart => exact ⟨0, Nat.zero_le _, rfl, Own.nil _ _, Below.refl _ _⟩
  case round =>
    obtain ⟨k, hk, rfl, hO, hb⟩ := hrel
    by_cases hlt : k < ls.length
    · obtain ⟨x, hx⟩ : ∃ x, ls[k]? = some x := ⟨_, List.getElem?_eq_getElem hlt⟩
      obtain ⟨g, o, rfl, h0, h1⟩ := HC.out k x hx
      have HS := Lib.hid (drop_take n hx)
      have hg := World.block_lt_of_cell? _ _ h0
      have d0 := (hb.cell (p := ⟨g, o + k * 2, none⟩) hg).trans h0
      have d1 := (hb.cell (p := ⟨g, o + k * 2 + 1, none⟩) hg).trans h1
      have hlen := drop_len (ls.take k) n
      rw [List.length_take] at hlen
      clear h0 h1 hx
      by_cases hn : x.name = n
      · have HD := Lib.hid (HS.out.trans (by rw [if_pos hn, List.append_nil]))
        have HO := Lib.hid hO
        clear hO
        subst hn
        go_wp2
        go_roundw
        case rel => exact ⟨k + 1, by omega, by go_num, by rw [HD.out]; exact HO.out, hb⟩
        case measure => simp [intOf]; omega
      · have HD := Lib.hid (HS.out.trans (by rw [if_neg hn]))
        have hn' : (x.name == n) = false := by simp [hn]
        unfold Own at hO
        generalize drop (ls.take k) n = ds at HD hO hlen
        clear hn
        go_wp2_with (at_builtin; refine wpList_append_own _ rfl _ _ 22 rfl w.heap.size 25 i0 (.agg #[.string ⟨#[]⟩, .int .i64 0]) 2 24 Try.underlying22 hi hz0 hz1 hz2 rfl (by decide) _ _ _ rfl (hO.alloc _) ⟨wr.heap.size, 0, none⟩ 1 1 [.string ⟨x.name.toArray⟩, .int .i64 x.no] rfl rfl (cell_two_new _ _ _ _) (enc_one x) (by unfold maxLen; omega) (by omega) (by have := hb.size; simp; omega) ?_; intro v' w1 hown' hgrow _)
        have HO := Lib.hid hown'
        clear hown'
        go_roundw
        case rel => exact ⟨k + 1, by omega, by go_num, by rw [HD.out]; exact Own.snoc HO.out, (hb.alloc hb.size _).grown hgrow (by have := hb.size; simp; omega) (fun k hk => (hO.lt k hk).1)⟩
        case measure => simp [intOf]; omega
    · have HS : Hid (drop (ls.take k) n = drop ls n) := Lib.hid (by rw [List.take_of_length_le (by omega)])
      have HO := Lib.hid hO
      clear hO
      go_wp2
      go_ret
      exact ⟨_, rfl, by rw [← HS.out]; exact HO.out, hb⟩
theorem app_room {ls : List Ent} {k : Nat} {n : List UInt8} {y : Ent} {m : Nat} (h : ls.length ≤ 100000) (hm : m = ((lo ls n ++ [y]) ++ hi (ls.take k) n).length) : m ≤ 200001 := by
  have h1 := lo_len ls n
  have h2 := hi_len (ls.take k) n
  rw [List.length_take] at h2
  simp at hm; omega

set_option maxRecDepth 100000 in
set_option maxHeartbeats 8000000 in
theorem refPut_any (v : Value) (ls : List Ent) (y : Ent) (w : World) (hR : Sees v ls w) (hl : ls.length ≤ 100000) :
    Calls Try.prog 10 #[v, .agg #[.string ⟨y.name.toArray⟩, .int .i64 y.no]] w fun e w' => ∃ u, e = .returned u ∧ Own w.heap.size u (put ls y) w' ∧ Below w.heap.size w w' := by
  have mixed : Try.prog.follows Departure.mixedOrders = true := by kernel_rfl
  obtain ⟨i0, hi0, hz0, hz1, hz2⟩ := info_parts infoE
  obtain ⟨oa, cap, rfl, _, hcells⟩ := hR
  obtain ⟨W, hW⟩ : ∃ W, W = w.alloc (.cells #[.string ⟨y.name.toArray⟩, .int .i64 y.no] 25) := ⟨_, rfl⟩
  have B0 : Below w.heap.size w W := by rw [hW]; exact (Below.refl _ _).alloc (Nat.le_refl _) _
  have q0 : W.cell? ⟨w.heap.size, 0, none⟩ = some (.string ⟨y.name.toArray⟩) := by rw [hW, World.cell?_alloc_new]; rfl
  have q1 : W.cell? ⟨w.heap.size, 1, none⟩ = some (.int .i64 y.no) := by rw [hW, World.cell?_alloc_new]; rfl
  have hWs : W.heap.size = w.heap.size + 1 := by rw [hW]; simp
  have HC : Hid (∀ k x, ls[k]? = some x → ∃ g o, oa = some ⟨g, o, none⟩ ∧ g < W.heap.size ∧ W.cell? ⟨g, o + k * 2, none⟩ = some (.string ⟨x.name.toArray⟩) ∧ W.cell? ⟨g, o + k * 2 + 1, none⟩ = some (.int .i64 x.no)) := Lib.hid (by
    intro k x hx
    obtain ⟨g, o, rfl, h0, h1⟩ := hcells k x hx
    have hg : g < w.heap.size := World.block_lt_of_cell? _ _ h0
    exact ⟨g, o, rfl, by omega, (B0.cell (p := ⟨g, o + k * 2, none⟩) hg).trans h0, (B0.cell (p := ⟨g, o + k * 2 + 1, none⟩) hg).trans h1⟩)
  have HW := Lib.hid hW; have HWs := Lib.hid hWs; have HB0 := Lib.hid B0
  have HQ := Lib.hid (And.intro q0 q1)
  clear hcells hW hWs B0 q0 q1
  go_enter Try.func10, Try.ntmps10
  go_wp2_with fail
  rw [← HW.out]
  have hsz : w.heap.size < W.heap.size := by rw [HWs.out]; omega
  go_loopw [5, 6] (fun u i wr => ∃ k : Nat, k ≤ ls.length ∧ i = .int .i64 k ∧ Own W.heap.size u (lo (ls.take k) y.name) wr ∧ Below W.heap.size W wr) (fun _ i _ => ls.length - (intOf i).toNat)
  case atStart => exact ⟨0, Nat.zero_le _, rfl, Own.nil _ _, Below.refl _ _⟩
  case round =>
    obtain ⟨k, hk, rfl, hO, hb⟩ := hrel
    have p0 := (hb.cell (p := ⟨w.heap.size, 0, none⟩) hsz).trans HQ.out.1
    by_cases hlt : k < ls.length
    · obtain ⟨x, hx⟩ : ∃ x, ls[k]? = some x := ⟨_, List.getElem?_eq_getElem hlt⟩
      obtain ⟨g, o, rfl, hg, h0, h1⟩ := HC.out k x hx
      have HS := Lib.hid (lo_take y.name hx)
      have d0 := (hb.cell (p := ⟨g, o + k * 2, none⟩) hg).trans h0
      have d1 := (hb.cell (p := ⟨g, o + k * 2 + 1, none⟩) hg).trans h1
      have hlen := lo_len (ls.take k) y.name
      rw [List.length_take] at hlen
      clear h0 h1 hx
      by_cases hn : x.name < y.name
      · have HD := Lib.hid (HS.out.trans (by rw [if_pos hn]))
        have hn' := less_yes hn
        unfold Own at hO
        generalize lo (ls.take k) y.name = ds at HD hO hlen
        clear hn
        have hO1 := own_drew hO
        have hb1 : Below W.heap.size W wr.drew := hb.drew
        have e0 : wr.drew.cell? ⟨g, o + k * 2, none⟩ = some (.string ⟨x.name.toArray⟩) := d0
        have e1 : wr.drew.cell? ⟨g, o + k * 2 + 1, none⟩ = some (.int .i64 x.no) := d1
        clear hO hb
        go_wp2
        go_region_o
        clear d0 d1 p0
        generalize wr.drew = wd at hO1 hb1 e0 e1 ⊢
        go_wp2_with (at_builtin; refine wpList_append_own _ rfl _ _ 22 rfl W.heap.size 25 i0 (.agg #[.string ⟨#[]⟩, .int .i64 0]) 2 24 Try.underlying22 hi0 hz0 hz1 hz2 rfl (by decide) _ _ _ rfl (hO1.alloc _) ⟨wd.heap.size, 0, none⟩ 1 1 [.string ⟨x.name.toArray⟩, .int .i64 x.no] rfl rfl (cell_two_new _ _ _ _) (enc_one x) (by unfold maxLen; omega) (by omega) (by have := hb1.size; simp; omega) ?_; intro v' w1 hown' hgrow _)
        have HO := Lib.hid hown'
        clear hown'
        go_roundw
        case rel => exact ⟨k + 1, by omega, by go_num, by rw [HD.out]; exact Own.snoc HO.out, (hb1.alloc hb1.size _).grown hgrow (by have := hb1.size; simp; omega) (fun k hk => (hO1.lt k hk).1)⟩
        case measure => simp [intOf]; omega
      · have HD := Lib.hid (HS.out.trans (by rw [if_neg hn, List.append_nil]))
        have hn' := less_no hn
        have HO := Lib.hid hO
        clear hn hO
        go_wp2
        go_region_o
        go_wp2
        go_roundw
        case rel => exact ⟨k + 1, by omega, by go_num, by rw [HD.out]; exact HO.out.drew, hb.drew⟩
        case measure => simp [intOf]; omega
    · have hall : ls.take k = ls := List.take_of_length_le (by omega)
      rw [hall] at hO
      have hlen := lo_len ls y.name
      have p1 := (hb.cell (p := ⟨w.heap.size, 1, none⟩) hsz).trans HQ.out.2
      clear hall
      unfold Own at hO
      have HX : Hid (lo ls y.name ++ [y] = lo ls y.name ++ [y]) := Lib.hid rfl
      obtain ⟨ds, hds⟩ : ∃ ds, lo ls y.name = ds := ⟨_, rfl⟩
      have HDS := Lib.hid hds
      rw [hds] at hO hlen
      clear hds HX
      go_wp2_with (at_builtin; refine wpList_append_own _ rfl _ _ 22 rfl W.heap.size 25 i0 (.agg #[.string ⟨#[]⟩, .int .i64 0]) 2 24 Try.underlying22 hi0 hz0 hz1 hz2 rfl (by decide) _ _ _ rfl (hO.alloc _) ⟨wr.heap.size, 0, none⟩ 1 1 [.string ⟨y.name.toArray⟩, .int .i64 y.no] rfl rfl (cell_two_new _ _ _ _) (enc_one y) (by unfold maxLen; omega) (by omega) (by have := hb.size; simp; omega) ?_; intro v' w1 hown' hgrow _)
      have HO := Lib.hid (Own.snoc hown')
      have hb2 : Below W.heap.size W w1 := (hb.alloc hb.size _).grown hgrow (by have := hb.size; simp; omega) (fun k hk => (hO.lt k hk).1)
      clear hown' hgrow hb hO p0 p1
      go_loopw [5, 7] (fun u i wr => ∃ k : Nat, k ≤ ls.length ∧ i = .int .i64 k ∧ Own W.heap.size u ((ds ++ [y]) ++ hi (ls.take k) y.name) wr ∧ Below W.heap.size W wr) (fun _ i _ => ls.length - (intOf i).toNat)
      case atStart => exact ⟨0, Nat.zero_le _, rfl, by simpa [hi] using HO.out, hb2⟩
      case round =>
        clear hb2
        obtain ⟨k, hk, rfl, hO, hb⟩ := hrel
        have p0 := (hb.cell (p := ⟨w.heap.size, 0, none⟩) hsz).trans HQ.out.1
        by_cases hlt : k < ls.length
        · obtain ⟨x, hx⟩ : ∃ x, ls[k]? = some x := ⟨_, List.getElem?_eq_getElem hlt⟩
          obtain ⟨g, o, rfl, hg, h0, h1⟩ := HC.out k x hx
          have HS := Lib.hid (hi_take y.name hx)
          have d0 := (hb.cell (p := ⟨g, o + k * 2, none⟩) hg).trans h0
          have d1 := (hb.cell (p := ⟨g, o + k * 2 + 1, none⟩) hg).trans h1
          have hroom : ((ds ++ [y]) ++ hi (ls.take k) y.name).length ≤ 200001 := app_room (n := y.name) (y := y) hl (by rw [HDS.out])
          clear h0 h1 hx
          by_cases hn : y.name < x.name
          · have HD : Hid ((ds ++ [y]) ++ hi (ls.take (k + 1)) y.name = ((ds ++ [y]) ++ hi (ls.take k) y.name) ++ [x]) := Lib.hid (by rw [HS.out, if_pos hn, List.append_assoc (ds ++ [y])])
            have hn1 := less_no (lt_asymm hn)
            have hn2 : (x.name == y.name) = false := by
              rw [beq_eq_false_iff_ne]; intro e; rw [e] at hn; exact lt_irrefl _ hn
            unfold Own at hO
            generalize (ds ++ [y]) ++ hi (ls.take k) y.name = es at HD hO hroom
            have hO1 := own_drew hO
            have hb1 : Below W.heap.size W wr.drew := hb.drew
            have e0 : wr.drew.cell? ⟨g, o + k * 2, none⟩ = some (.string ⟨x.name.toArray⟩) := d0
            have e1 : wr.drew.cell? ⟨g, o + k * 2 + 1, none⟩ = some (.int .i64 x.no) := d1
            clear hn hO hb
            go_wp2
            go_region_o
            clear d0 d1 p0
            generalize wr.drew = wd at hO1 hb1 e0 e1 ⊢
            go_wp2_with (at_builtin; refine wpList_append_own _ rfl _ _ 22 rfl W.heap.size 25 i0 (.agg #[.string ⟨#[]⟩, .int .i64 0]) 2 24 Try.underlying22 hi0 hz0 hz1 hz2 rfl (by decide) _ _ _ rfl (hO1.alloc _) ⟨wd.heap.size, 0, none⟩ 1 1 [.string ⟨x.name.toArray⟩, .int .i64 x.no] rfl rfl (cell_two_new _ _ _ _) (enc_one x) (by unfold maxLen; omega) (by omega) (by have := hb1.size; simp; omega) ?_; intro v' w1 hown' hgrow _)
            have HO3 := Lib.hid hown'
            clear hown'
            go_roundw
            case rel => exact ⟨k + 1, by omega, by go_num, by rw [HD.out]; exact Own.snoc HO3.out, (hb1.alloc hb1.size _).grown hgrow (by have := hb1.size; simp; omega) (fun k hk => (hO1.lt k hk).1)⟩
            case measure => simp [intOf]; omega
          · have HD := Lib.hid (HS.out.trans (by rw [if_neg hn, List.append_nil]))
            have HO3 := Lib.hid hO
            clear hO
            by_cases he : x.name = y.name
            · have hn2 : (x.name == y.name) = true := by rw [he]; exact beq_self_eq_true _
              have hn1 : Op.bytesLess x.name y.name = false := less_no (by rw [he]; exact lt_irrefl _)
              clear he hn
              go_wp2
              go_region_o
              go_wp2
              go_roundw
              case rel => exact ⟨k + 1, by omega, by go_num, by rw [HD.out]; exact HO3.out.drew, hb.drew⟩
              case measure => simp [intOf]; omega
            · have hn1 : Op.bytesLess x.name y.name = true := less_yes (by
                rcases tri x.name y.name with h | h | h
                · exact h
                · exact absurd h he
                · exact absurd h hn)
              clear he hn
              go_wp2
              go_region_o
              go_wp2
              go_roundw
              case rel => exact ⟨k + 1, by omega, by go_num, by rw [HD.out]; exact HO3.out.drew, hb.drew⟩
              case measure => simp [intOf]; omega
        · have HP : Hid ((ds ++ [y]) ++ hi (ls.take k) y.name = put ls y) := Lib.hid (by rw [List.take_of_length_le (by omega), ← HDS.out]; rfl)
          have HO3 := Lib.hid hO
          clear hO
          go_wp2
          go_ret
          exact ⟨_, rfl, by rw [← HP.out]; exact HO3.out.mono (Nat.le_of_lt hsz), HB0.out.trans (hb.mono (Nat.le_of_lt hsz))⟩
end Go.Proofs.Ytllipmhemgponaa.E
