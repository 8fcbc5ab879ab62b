/-
  The reference's Find and Put.
-/
import Derived.Test.YtmoimijclafgcaaFmount
namespace Go.Proofs.Ytmoimijclafgcaa.E
open Go.RowKit Go.Shelf

/-- the number of a name; 0: it is not there -/
def numOf (ls : List Ent) (n : List UInt8) : Int := match ls.find? (fun x => decide (x.name = n)) with | some x => x.no | none => 0
set_option maxRecDepth 100000 in
set_option maxHeartbeats 4000000 in
theorem refFind_any {v : Value} {ls : List Ent} {w : World} (hS : Sees v ls w) (n : List UInt8) (hl : ls.length ≤ 100000) :
    Calls Try.prog 59 #[v, .string ⟨n.toArray⟩] w fun e w' => e = .returned (.int .i64 (numOf ls n)) ∧ w = w' := by
  obtain ⟨oa, cap, rfl, _, hcells⟩ := hS
  have HC := Lib.hid hcells
  clear hcells
  go_enter Try.func59, Try.ntmps59
  go_wp2
  go_loopw [5] (fun i wr => ∃ k : Nat, k ≤ ls.length ∧ i = .int .i64 k ∧ (∀ y ∈ ls.take k, decide (y.name = n) = false) ∧ wr = w) (fun i _ => ls.length - (RowKit.intOf i).toNat)
  case atStart => exact ⟨0, Nat.zero_le _, rfl, fun y hy => by simp at hy, rfl⟩
  case round =>
    obtain ⟨k, hk, rfl, hno, rfl⟩ := hrel
    have HB := Lib.hid hno
    clear hno
    by_cases hlt : k < ls.length
    · obtain ⟨x, hx⟩ : ∃ x, ls[k]? = some x := ⟨_, List.getElem?_eq_getElem hlt⟩
      obtain ⟨g, o, rfl, h0, h1⟩ := HC.out k x hx
      have HF := Lib.hid (G.seek_take (fun x : Ent => decide (x.name = n)) hx HB.out)
      clear hx
      by_cases hn : x.name = n
      · have HN := Lib.hid (HF.out.1 (by simpa using hn))
        subst hn
        clear HF
        go_wp2
        go_ret
        exact ⟨by unfold numOf; rw [HN.out]; rfl, by first | rfl | trivial⟩
      · have HN := Lib.hid (HF.out.2 (by simpa using hn))
        have hn' : (x.name == n) = false := by simpa using hn
        clear HF hn
        go_wp2
        go_roundw
        case rel => exact ⟨k + 1, by omega, by go_num, HN.out, by first | rfl | trivial⟩
        case measure => simp [RowKit.intOf]; omega
    · have HE := Lib.hid (G.seek_end (fun x : Ent => decide (x.name = n)) (l := ls) (by have := HB.out; rwa [List.take_of_length_le (by omega)] at this))
      go_wp2
      go_ret
      exact ⟨by unfold numOf; rw [HE.out]; rfl, by first | rfl | trivial⟩
theorem str_gtr (a b : List UInt8) (W : World) : (binOp .gtr 9 (.string ⟨a.toArray⟩) (.string ⟨b.toArray⟩)).run Try.prog W = .ok (.bool (!(Op.bytesLess a b || a == b))) W := by
  simp [binOp, go_sem, Op.stringOp, ByteArray.toList_eq]
theorem cell_two_new (w : World) (a b : Value) (t : TypeId) : ∀ j u, [a, b][j]? = some u → (w.alloc (.cells #[a, b] t)).cell? ((⟨w.heap.size, 0, none⟩ : Addr).add j) = some u := by
  intro j u h
  rw [add_at, Nat.zero_add, World.cell?_alloc_new]
  match j, h with
  | 0, h => cases h; rfl
  | 1, h => cases h; rfl
  | j + 2, h => simp at h
theorem app_room {ls : List Ent} {k : Nat} {n : List UInt8} {y : Ent} {m : Nat} (h : ls.length ≤ 100000) (hm : m = ((lo ls n ++ [y]) ++ hi (ls.take k) n).length) : m ≤ 200001 := by
  have h1 := lo_len ls n
  have h2 := hi_len (ls.take k) n
  rw [List.length_take] at h2
  simp at hm; omega
set_option maxRecDepth 100000 in
set_option maxHeartbeats 8000000 in
theorem refPut_any {v : Value} {ls : List Ent} (y : Ent) {w : World} (hR : Sees v ls w) (hl : ls.length ≤ 100000) :
    Calls Try.prog 62 #[v, .string ⟨y.name.toArray⟩, .int .i64 y.no] w fun e w' => ∃ u, e = .returned u ∧ Own w.heap.size u (put ls y) w' ∧ Below w.heap.size w w' := by
  obtain ⟨i0, hi0, hz0, hz1, hz2⟩ := info_parts infoE
  obtain ⟨oa, cap, rfl, _, hcells⟩ := hR
  have HC := Lib.hid hcells
  clear hcells
  go_enter Try.func62, Try.ntmps62
  go_wp2_with fail
  go_loopw [7, 8] (fun u i wr => ∃ k : Nat, k ≤ ls.length ∧ i = .int .i64 k ∧ Own w.heap.size u (lo (ls.take k) y.name) wr ∧ Below w.heap.size w wr) (fun _ i _ => ls.length - (RowKit.intOf i).toNat)
  case atStart => exact ⟨0, Nat.zero_le _, rfl, Own.nil _ _, Below.refl _ _⟩
  case round =>
    obtain ⟨k, hk, rfl, hO, hb⟩ := hrel
    by_cases hlt : k < ls.length
    · obtain ⟨x, hx⟩ : ∃ x, ls[k]? = some x := ⟨_, List.getElem?_eq_getElem hlt⟩
      obtain ⟨g, o, rfl, h0, h1⟩ := HC.out k x hx
      have hg := World.block_lt_of_cell? _ _ h0
      have HS := Lib.hid (lo_take y.name hx)
      have d0 := (hb.cell (p := ⟨g, o + k * 2, none⟩) hg).trans h0
      have d1 := (hb.cell (p := ⟨g, o + k * 2 + 1, none⟩) hg).trans h1
      have hlen := lo_len (ls.take k) y.name
      rw [List.length_take] at hlen
      clear h0 h1 hx
      by_cases hn : x.name < y.name
      · have HD := Lib.hid (HS.out.trans (by rw [if_pos hn]))
        have hn' := less_yes hn
        unfold Own at hO
        generalize lo (ls.take k) y.name = ds at HD hO hlen
        clear hn
        go_wp2_with (at_builtin; refine wpList_append_own _ rfl _ _ 69 rfl w.heap.size 128 i0 (.agg #[.string ⟨#[]⟩, .int .i64 0]) 2 24 Try.underlying69 hi0 hz0 hz1 hz2 rfl (by decide) _ _ _ rfl (hO.alloc _) ⟨wr.heap.size, 0, none⟩ 1 1 [.string ⟨x.name.toArray⟩, .int .i64 x.no] rfl rfl (cell_two_new _ _ _ _) (enc_one x) (by unfold maxLen; omega) (by omega) (by have := hb.size; simp; omega) ?_; intro v' w1 hown' hgrow _)
        have HO := Lib.hid hown'
        clear hown'
        go_roundw
        case rel => exact ⟨k + 1, by omega, by go_num, by rw [HD.out]; exact Own.snoc HO.out, (hb.alloc hb.size _).grown hgrow (by have := hb.size; simp; omega) (fun k hk => (hO.lt k hk).1)⟩
        case measure => simp [RowKit.intOf]; omega
      · have HD := Lib.hid (HS.out.trans (by rw [if_neg hn, List.append_nil]))
        have hn' := less_no hn
        have HO := Lib.hid hO
        clear hn hO
        go_wp2
        go_roundw
        case rel => exact ⟨k + 1, by omega, by go_num, by rw [HD.out]; exact HO.out, hb⟩
        case measure => simp [RowKit.intOf]; omega
    · have hall : ls.take k = ls := List.take_of_length_le (by omega)
      rw [hall] at hO
      have hlen := lo_len ls y.name
      clear hall
      unfold Own at hO
      obtain ⟨ds, hds⟩ : ∃ ds, lo ls y.name = ds := ⟨_, rfl⟩
      have HDS := Lib.hid hds
      rw [hds] at hO hlen
      clear hds
      go_wp2_with (at_builtin; refine wpList_append_own _ rfl _ _ 69 rfl w.heap.size 128 i0 (.agg #[.string ⟨#[]⟩, .int .i64 0]) 2 24 Try.underlying69 hi0 hz0 hz1 hz2 rfl (by decide) _ _ _ rfl (hO.alloc _) ⟨wr.heap.size, 0, none⟩ 1 1 [.string ⟨y.name.toArray⟩, .int .i64 y.no] rfl rfl (cell_two_new _ _ _ _) (enc_one y) (by unfold maxLen; omega) (by omega) (by have := hb.size; simp; omega) ?_; intro v' w1 hown' hgrow _)
      have HO := Lib.hid (Own.snoc hown')
      have hb2 : Below w.heap.size w w1 := (hb.alloc hb.size _).grown hgrow (by have := hb.size; simp; omega) (fun k hk => (hO.lt k hk).1)
      clear hown' hgrow hb hO
      go_loopw [7, 9] (fun u i wr => ∃ k : Nat, k ≤ ls.length ∧ i = .int .i64 k ∧ Own w.heap.size u ((ds ++ [y]) ++ hi (ls.take k) y.name) wr ∧ Below w.heap.size w wr) (fun _ i _ => ls.length - (RowKit.intOf i).toNat)
      case atStart => exact ⟨0, Nat.zero_le _, rfl, by simpa [hi] using HO.out, hb2⟩
      case round =>
        clear hb2
        obtain ⟨k, hk, rfl, hO, hb⟩ := hrel
        by_cases hlt : k < ls.length
        · obtain ⟨x, hx⟩ : ∃ x, ls[k]? = some x := ⟨_, List.getElem?_eq_getElem hlt⟩
          obtain ⟨g, o, rfl, h0, h1⟩ := HC.out k x hx
          have hg := World.block_lt_of_cell? _ _ h0
          have HS := Lib.hid (hi_take y.name hx)
          have d0 := (hb.cell (p := ⟨g, o + k * 2, none⟩) hg).trans h0
          have d1 := (hb.cell (p := ⟨g, o + k * 2 + 1, none⟩) hg).trans h1
          have hroom : ((ds ++ [y]) ++ hi (ls.take k) y.name).length ≤ 200001 := app_room (n := y.name) (y := y) hl (by rw [HDS.out])
          clear h0 h1 hx
          by_cases hn : y.name < x.name
          · have HD : Hid ((ds ++ [y]) ++ hi (ls.take (k + 1)) y.name = ((ds ++ [y]) ++ hi (ls.take k) y.name) ++ [x]) := Lib.hid (by rw [HS.out, if_pos hn, List.append_assoc (ds ++ [y])])
            have hn0 := less_yes hn
            have hn1 := less_no (lt_asymm hn)
            have hn2 : (x.name == y.name) = false := by
              rw [beq_eq_false_iff_ne]; intro e; rw [e] at hn; exact lt_irrefl _ hn
            have hraw : ∀ W, (binOp .gtr 9 (.string ⟨x.name.toArray⟩) (.string ⟨y.name.toArray⟩)).run Try.prog W = .ok (.bool true) W := fun W => by rw [str_gtr]; simp [hn1, hn2]
            unfold Own at hO
            generalize (ds ++ [y]) ++ hi (ls.take k) y.name = es at HD hO hroom
            clear hn
            go_wp2_with (at_builtin; refine wpList_append_own _ rfl _ _ 69 rfl w.heap.size 128 i0 (.agg #[.string ⟨#[]⟩, .int .i64 0]) 2 24 Try.underlying69 hi0 hz0 hz1 hz2 rfl (by decide) _ _ _ rfl (hO.alloc _) ⟨wr.heap.size, 0, none⟩ 1 1 [.string ⟨x.name.toArray⟩, .int .i64 x.no] rfl rfl (cell_two_new _ _ _ _) (enc_one x) (by unfold maxLen; omega) (by omega) (by have := hb.size; simp; omega) ?_; intro v' w1 hown' hgrow _)
            have HO3 := Lib.hid hown'
            clear hown'
            go_roundw
            case rel => exact ⟨k + 1, by omega, by go_num, by rw [HD.out]; exact Own.snoc HO3.out, (hb.alloc hb.size _).grown hgrow (by have := hb.size; simp; omega) (fun k hk => (hO.lt k hk).1)⟩
            case measure => simp [RowKit.intOf]; omega
          · have HD := Lib.hid (HS.out.trans (by rw [if_neg hn, List.append_nil]))
            have HO3 := Lib.hid hO
            have hn0 := less_no hn
            clear hO
            by_cases he : x.name = y.name
            · have hn2 : (x.name == y.name) = true := by rw [he]; exact beq_self_eq_true _
              have hn1 : Op.bytesLess x.name y.name = false := less_no (by rw [he]; exact lt_irrefl _)
              have hraw : ∀ W, (binOp .gtr 9 (.string ⟨x.name.toArray⟩) (.string ⟨y.name.toArray⟩)).run Try.prog W = .ok (.bool false) W := fun W => by rw [str_gtr]; simp [hn2]
              clear he hn
              go_wp2
              go_roundw
              case rel => exact ⟨k + 1, by omega, by go_num, by rw [HD.out]; exact HO3.out, hb⟩
              case measure => simp [RowKit.intOf]; omega
            · have hn1 : Op.bytesLess x.name y.name = true := less_yes (by
                rcases tri x.name y.name with h | h | h
                · exact h
                · exact absurd h he
                · exact absurd h hn)
              have hraw : ∀ W, (binOp .gtr 9 (.string ⟨x.name.toArray⟩) (.string ⟨y.name.toArray⟩)).run Try.prog W = .ok (.bool false) W := fun W => by rw [str_gtr]; simp [hn1]
              clear he hn
              go_wp2
              go_roundw
              case rel => exact ⟨k + 1, by omega, by go_num, by rw [HD.out]; exact HO3.out, hb⟩
              case measure => simp [RowKit.intOf]; omega
        · have HP : Hid ((ds ++ [y]) ++ hi (ls.take k) y.name = put ls y) := Lib.hid (by rw [List.take_of_length_le (by omega), ← HDS.out]; rfl)
          have HO3 := Lib.hid hO
          clear hO
          go_wp2
          go_ret
          exact ⟨_, rfl, by rw [← HP.out]; exact HO3.out, hb⟩
end Go.Proofs.Ytmoimijclafgcaa.E
