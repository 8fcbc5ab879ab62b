/-
  The reference's Put and Drop; a row of lines of the call's own.
-/
import Derived.Test.YtolobnokpmbajaaDoorZsame
import Derived.Maps.AppendAt
import Derived.OwnWalk
import Derived.RangeFuncBox
namespace Go.Proofs.YtolobnokpmbajaaDoor.Z
open Go.RowKit Go.Shelf

theorem info30 : (Tryd.prog.info? 30).map (fun i => (i.zero, i.size, i.bytes)) = some (some (.agg #[.int .i64 0, .int .i64 0, .string ⟨#[]⟩]), 3, 32) := by kernel_rfl
def flat (ls : List Line) : List Value := ls.flatMap enc
theorem flat_len (ls : List Line) : (flat ls).length = ls.length * 3 := by
  induction ls with
  | nil => rfl
  | cons x ls ih => simp only [flat, List.flatMap_cons, List.length_append, List.length_cons]; unfold flat at ih; rw [ih, enc_len]; omega
theorem flat_snoc (ls : List Line) (x : Line) : flat (ls ++ [x]) = flat ls ++ enc x := by simp [flat]
theorem flat_at : ∀ (ls : List Line) (k : Nat) (x : Line) (j : Nat), ls[k]? = some x → j < 3 → (flat ls)[k * 3 + j]? = (enc x)[j]?
  | [], k, x, j, h, _ => by simp at h
  | y :: ls, 0, x, j, h, hj => by
    simp at h; subst h
    simp only [flat, List.flatMap_cons, Nat.zero_mul, Nat.zero_add]
    rw [List.getElem?_append_left (by rw [enc_len]; exact hj)]
  | y :: ls, k + 1, x, j, h, hj => by
    have h' : ls[k]? = some x := by simpa using h
    have e := flat_at ls k x j h' hj
    simp only [flat, List.flatMap_cons] at e ⊢
    rw [List.getElem?_append_right (by rw [enc_len]; omega), enc_len, show (k + 1) * 3 + j - 3 = k * 3 + j by omega]
    exact e
/-- the slice v holds these lines, in memory of the call's own -/
def Own (B : Nat) (v : Value) (ls : List Line) (w : World) : Prop := w.ownsRow B 30 3 v ls.length (flat ls)
theorem Own.nil (B : Nat) (w : World) : Own B (.slice none 0 0) [] w := World.ownsRow_nil _ _ _ _
theorem Own.snoc {B : Nat} {v : Value} {ls : List Line} {x : Line} {w : World} (h : w.ownsRow B 30 3 v (ls.length + 1) (flat ls ++ enc x)) : Own B v (ls ++ [x]) w := by
  unfold Own; rw [flat_snoc, List.length_append]; exact h
theorem Own.mono {B B' : Nat} {v : Value} {ls : List Line} {w : World} (h : Own B v ls w) (hb : B' ≤ B) : Own B' v ls w := by
  refine ⟨h.1, h.2.imp id ?_⟩
  rintro ⟨g, cap, cur, h1, h2, h3⟩
  exact ⟨g, cap, cur, h1, Nat.le_trans hb h2, h3⟩
theorem Own.below {B : Nat} {v : Value} {ls : List Line} {w w' : World} (h : Own B v ls w) (hb : Below w.heap.size w w') : Own B v ls w' :=
  h.kept (row := none) ⟨hb.os, hb.tape, hb.output, hb.size, fun j hj _ => hb.block j hj⟩ (by cases hv : v.ownBlock <;> simp)
theorem Own.forms {B : Nat} {v : Value} {ls : List Line} {w : World} (h : Own B v ls w) : (v = .slice none 0 0 ∧ ls = []) ∨ ∃ g cap, v = .slice (some ⟨g, 0, none⟩) ls.length cap := by
  rcases h.2 with ⟨h1, h2⟩ | ⟨g, cap, cur, h1, _⟩
  · exact .inl ⟨h1, List.eq_nil_of_length_eq_zero h2⟩
  · exact .inr ⟨g, cap, h1⟩
theorem Own.sees {B : Nat} {v : Value} {ls : List Line} {w : World} (h : Own B v ls w) : Sees v ls w := by
  rcases h.forms with ⟨rfl, rfl⟩ | ⟨g, cap, rfl⟩
  · exact ⟨none, 0, rfl, by simp⟩
  · refine ⟨_, _, rfl, fun k x hk => ⟨g, 0, rfl, ?_⟩⟩
    have hlt : k < ls.length := (List.getElem?_eq_some_iff.1 hk).1
    have c : ∀ j, j < 3 → w.cell? ⟨g, k * 3 + j, none⟩ = (enc x)[j]? := fun j hj => by
      rw [World.ownsRow.cellAt h (k * 3 + j) (by omega)]
      exact flat_at ls k x j hk hj
    exact ⟨by rw [Nat.zero_add]; exact c 0 (by decide), by rw [Nat.zero_add]; exact c 1 (by decide), by rw [Nat.zero_add]; exact c 2 (by decide)⟩
theorem one3 (x : Line) : ∀ u ∈ [Value.int .i64 x.size, .int .i64 x.time, .string ⟨x.name.toArray⟩], u.oneCell' = true := enc_one x

/-- the lines without one of a name -/
def drop (ls : List Line) (n : List UInt8) : List Line := ls.filter fun x => decide (x.name ≠ n)
theorem drop_take {ls : List Line} {k : Nat} {x : Line} (n : List UInt8) (h : ls[k]? = some x) : drop (ls.take (k + 1)) n = drop (ls.take k) n ++ (if x.name = n then [] else [x]) := by
  rw [List.take_add_one, h]
  unfold drop
  rw [List.filter_append]
  by_cases hx : x.name = n <;> simp [hx]
theorem drop_len (ls : List Line) (n : List UInt8) : (drop ls n).length ≤ ls.length := List.length_filter_le _ _

set_option maxRecDepth 100000 in
set_option maxHeartbeats 4000000 in
theorem refDrop_any (v : Value) (ls : List Line) (n : List UInt8) (w : World) (hR : Sees v ls w) (hl : ls.length ≤ 100000) :
    Calls Tryd.prog 16 #[v, .string ⟨n.toArray⟩] w fun e w' => ∃ u, e = .returned u ∧ Own w.heap.size u (drop ls n) w' ∧ Below w.heap.size w w' := by
  obtain ⟨i0, hi, hz0, hz1, hz2⟩ := info_parts info30
  obtain ⟨oa, cap, rfl, hcells⟩ := hR
  have HC := Lib.hid hcells
  clear hcells
  go_enter Tryd.func16, Tryd.ntmps16
  go_wp2
  go_loopw [5, 6] (fun u i wr => ∃ k : Nat, k ≤ ls.length ∧ i = .int .i64 k ∧ Own w.heap.size u (drop (ls.take k) n) wr ∧ Below w.heap.size w wr) (fun _ i _ => ls.length - (intOf i).toNat)
  case atStart => exact ⟨0, Nat.zero_le _, rfl, Own.nil _ _, Below.refl _ _⟩
  case round =>
    obtain ⟨k, hk, rfl, hO, hb⟩ := hrel
    by_cases hlt : k < ls.length
    · obtain ⟨x, hx⟩ : ∃ x, ls[k]? = some x := ⟨_, List.getElem?_eq_getElem hlt⟩
      obtain ⟨g, o, rfl, h0, h1, h2⟩ := HC.out k x hx
      have HS := Lib.hid (drop_take n hx)
      have hg := World.block_lt_of_cell? _ _ h0
      have d0 := (hb.cell (p := ⟨g, o + k * 3, none⟩) hg).trans h0
      have d1 := (hb.cell (p := ⟨g, o + k * 3 + 1, none⟩) hg).trans h1
      have d2 := (hb.cell (p := ⟨g, o + k * 3 + 2, none⟩) hg).trans h2
      have hlen := drop_len (ls.take k) n
      rw [List.length_take] at hlen
      clear h0 h1 h2 hx
      by_cases hn : x.name = n
      · have HD := Lib.hid (HS.out.trans (by rw [if_pos hn, List.append_nil]))
        have HO := Lib.hid hO
        clear hO
        subst hn
        go_wp2
        go_roundw
        case rel => exact ⟨k + 1, by omega, by go_num, by rw [HD.out]; exact HO.out, hb⟩
        case measure => simp [intOf]; omega
      · have HD := Lib.hid (HS.out.trans (by rw [if_neg hn]))
        have hn' : (x.name == n) = false := by simp [hn]
        unfold Own at hO
        generalize drop (ls.take k) n = ds at HD hO hlen
        clear hn
        go_wp2_with (at_builtin; refine wpList_append_own _ rfl _ _ 22 rfl w.heap.size 30 i0 (.agg #[.int .i64 0, .int .i64 0, .string ⟨#[]⟩]) 3 32 Tryd.underlying22 hi hz0 hz1 hz2 rfl (by decide) _ _ _ rfl (hO.alloc _) ⟨wr.heap.size, 0, none⟩ 1 1 [.int .i64 x.size, .int .i64 x.time, .string ⟨x.name.toArray⟩] rfl rfl (Q.cell_three_new _ _ _ _ _) (one3 x) (by unfold maxLen; omega) (by omega) (by have := hb.size; simp; omega) ?_; intro v' w1 hown' hgrow _)
        have HO := Lib.hid hown'
        clear hown'
        go_roundw
        case rel => exact ⟨k + 1, by omega, by go_num, by rw [HD.out]; exact Own.snoc HO.out, (hb.alloc hb.size _).grown hgrow (by have := hb.size; simp; omega) (fun k hk => (hO.lt k hk).1)⟩
        case measure => simp [intOf]; omega
    · have HS : Hid (drop (ls.take k) n = drop ls n) := Lib.hid (by rw [List.take_of_length_le (by omega)])
      have HO := Lib.hid hO
      clear hO
      go_wp2
      go_ret
      exact ⟨_, rfl, by rw [← HS.out]; exact HO.out, hb⟩
end Go.Proofs.YtolobnokpmbajaaDoor.Z
