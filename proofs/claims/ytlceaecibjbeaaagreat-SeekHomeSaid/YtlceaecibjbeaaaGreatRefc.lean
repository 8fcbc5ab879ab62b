/-
  What the reference's Parts, Slash, Last and Same do.
-/
import Derived.Test.YtlceaecibjbeaaaGreatRefb
namespace Go.Proofs.YtlceaecibjbeaaaGreat.V
open Go.RowKit Go.Shelf

theorem Texts.nil (B : Nat) (w : World) : Texts B (.slice none 0 0) [] w := World.ownsRow_nil _ _ _ _
theorem Texts.mono {B B' : Nat} {v : Value} {ps : List (List UInt8)} {w : World} (h : Texts B v ps w) (hb : B' ≤ B) : Texts B' v ps w := by
  refine ⟨h.1, h.2.imp id ?_⟩
  rintro ⟨g, cap, cur, h1, h2, h3⟩
  exact ⟨g, cap, cur, h1, Nat.le_trans hb h2, h3⟩
theorem Texts.below {B : Nat} {v : Value} {ps : List (List UInt8)} {w w' : World} (h : Texts B v ps w) (hb : Below w.heap.size w w') : Texts B v ps w' :=
  h.kept (row := none) ⟨hb.os, hb.tape, hb.output, hb.size, fun j hj _ => hb.block j hj⟩ (by cases hv : v.ownBlock <;> simp)
theorem Texts.cell {B g cap n : Nat} {ps : List (List UInt8)} {w : World} (h : Texts B (.slice (some ⟨g, 0, none⟩) n cap) ps w) (k : Nat) (p : List UInt8) (hk : ps[k]? = some p) : w.cell? ⟨g, k, none⟩ = some (.string ⟨p.toArray⟩) := by
  have hlt : k < ps.length := (List.getElem?_eq_some_iff.1 hk).1
  have hn : n = ps.length := by
    rcases h.2 with ⟨h', _⟩ | ⟨g', cap', cur, h', _⟩
    · simp at h'
    · simp only [Value.slice.injEq] at h'; exact h'.2.1
  subst hn
  rw [World.ownsRow.cellAt h k (by omega), List.getElem?_map, hk]; rfl
theorem Texts.forms {B : Nat} {v : Value} {ps : List (List UInt8)} {w : World} (h : Texts B v ps w) : (v = .slice none 0 0 ∧ ps = []) ∨ ∃ g cap, v = .slice (some ⟨g, 0, none⟩) ps.length cap := by
  rcases h.2 with ⟨h1, h2⟩ | ⟨g, cap, cur, h1, _⟩
  · exact .inl ⟨h1, List.eq_nil_of_length_eq_zero h2⟩
  · exact .inr ⟨g, cap, h1⟩

theorem keep_miss {ps : List (List UInt8)} {k : Nat} {p : List UInt8} (h : ps[k]? = some p) (hk : M.keep p = false) : (ps.take (k + 1)).filter M.keep = (ps.take k).filter M.keep := by
  obtain ⟨hlt, rfl⟩ := List.getElem?_eq_some_iff.1 h
  rw [List.take_succ_eq_append_getElem hlt, List.filter_append, List.filter_cons, if_neg (by simp [hk])]; simp
theorem keep_hit {ps : List (List UInt8)} {k : Nat} {p : List UInt8} (h : ps[k]? = some p) (hk : M.keep p = true) : (ps.take (k + 1)).filter M.keep = (ps.take k).filter M.keep ++ [p] := by
  obtain ⟨hlt, rfl⟩ := List.getElem?_eq_some_iff.1 h
  rw [List.take_succ_eq_append_getElem hlt, List.filter_append, List.filter_cons, if_pos (by simp [hk])]; simp

set_option maxRecDepth 100000 in
set_option maxHeartbeats 2000000 in
theorem refParts_any (s : ByteArray) (hs : s.size ≤ 5000) (w : World) :
    Calls Tryz.prog 30 #[.string s] w fun e w' => ∃ v, e = .returned v ∧ Texts w.heap.size v (M.parts s.data.toList) w' ∧ Below w.heap.size w w' := by
  obtain ⟨i0, hi, hz0, hz1, hz2⟩ := info_parts info9
  have cp := fun w => pieces_any s hs w
  have hlen : (M.pieces s.data.toList).length ≤ 5001 := by
    have := M.pieces_len s.data.toList
    rw [← Lib.size_eq] at this; omega
  have hpos := M.pieces_pos s.data.toList
  unfold M.parts
  generalize M.pieces s.data.toList = ps at cp hlen hpos
  go_enter Tryz.func30, Tryz.ntmps30
  go_wp2_with (go_at_call 69; refine (cp _).mono ?_; rintro e w1 ⟨v0, rfl, hT, hb1⟩; obtain ⟨g, cap, rfl⟩ := hT.form hpos)
  go_loopw [3, 5] (fun v i wr => ∃ k : Nat, k ≤ ps.length ∧ i = .int .i64 k ∧ Texts w1.heap.size v ((ps.take k).filter M.keep) wr ∧ Below w1.heap.size w1 wr) (fun _ i _ => ps.length - (intOf i).toNat)
  case atStart => exact ⟨0, Nat.zero_le _, rfl, Texts.nil _ _, Below.refl _ _⟩
  case round =>
    obtain ⟨k, hk, rfl, hown, hb⟩ := hrel
    have HB1 := Lib.hid hb1
    clear hb1
    by_cases hkl : k < ps.length
    · obtain ⟨p, hp⟩ : ∃ p, ps[k]? = some p := ⟨_, List.getElem?_eq_getElem hkl⟩
      have hcell := (hT.below hb).cell k p hp
      have HT := Lib.hid hT; clear hT
      have hol : ((ps.take k).filter M.keep).length ≤ 5001 := Nat.le_trans (List.length_filter_le _ _) (by rw [List.length_take]; omega)
      by_cases h0 : p = []
      · subst h0
        have HK := Lib.hid (keep_miss hp rfl)
        have HO := Lib.hid hown
        clear hp hown hol
        go_wp2
        go_roundw
        case rel => exact ⟨k + 1, by omega, by go_num, by rw [HK.out]; exact HO.out, hb⟩
        case measure => simp [intOf]; omega
      by_cases h1 : p = [46]
      · subst h1
        have HK := Lib.hid (keep_miss hp rfl)
        have HO := Lib.hid hown
        clear hp hown hol
        go_wp2
        go_roundw
        case rel => exact ⟨k + 1, by omega, by go_num, by rw [HK.out]; exact HO.out, hb⟩
        case measure => simp [intOf]; omega
      have HK := Lib.hid (keep_hit hp (M.keep_other h0 h1))
      clear hp
      obtain ⟨qs, HQ⟩ : ∃ qs, Hid ((ps.take k).filter M.keep = qs) := ⟨_, Lib.hid rfl⟩
      unfold Texts at hown
      rw [HQ.out] at hown hol
      have h0' : p.isEmpty = false := by cases p <;> simp_all
      have h1' : (p == [46]) = false := by simpa using h1
      go_wp2_with (at_builtin; refine wpList_append_own _ rfl _ _ 25 rfl w1.heap.size 9 i0 (.string ⟨#[]⟩) 1 16 Tryz.underlying25 hi hz0 hz1 hz2 rfl (by decide) _ _ _ rfl (hown.alloc _) ⟨wr.heap.size, 0, none⟩ 1 1 [str p] rfl rfl (cell_one_new _ _ _) (by simp [Value.oneCell', str]) (by unfold maxLen; omega) (by omega) (by have := hb.size; simp; omega) ?_; intro v' w2 hown' hgrow _)
      go_roundw
      case rel => exact ⟨k + 1, by omega, by go_num, by rw [HK.out, HQ.out]; exact Texts.snoc hown', (hb.alloc hb.size _).grown hgrow (by have := hb.size; simp; omega) (fun k hk => (hown.lt k hk).1)⟩
      case measure => simp [intOf]; omega
    · have HT := Lib.hid hT; clear hT
      have HO := Lib.hid hown; clear hown
      go_wp2
      go_ret
      refine ⟨_, rfl, ?_, HB1.out.trans (hb.mono HB1.out.size)⟩
      have := HO.out
      rw [List.take_of_length_le (by omega)] at this
      exact this.mono HB1.out.size
end Go.Proofs.YtlceaecibjbeaaaGreat.V
