/-
  ents.Put, Drop, Find, Name, Check.
-/
import Derived.Test.YtllipmhemgponaaErep
namespace Go.Proofs.Ytllipmhemgponaa.E
open Go.RowKit Go.Shelf

theorem put_parts {ls : List Ent} (hu : Up ls) (y : Ent) : ls.take (lo ls y.name).length ++ ([y] ++ ls.drop (after ls y.name)) = put ls y := by
  obtain ⟨h1, h2, _, _⟩ := after_facts hu y.name
  rw [← h1, ← h2]; simp [put]
theorem drop_is {ls : List Ent} (hu : Up ls) (n : List UInt8) : ls.take (lo ls n).length ++ ([] ++ ls.drop (after ls n)) = drop ls n := by
  obtain ⟨h1, h2, _, _⟩ := after_facts hu n
  rw [← h1, ← h2, List.nil_append]; exact drop_parts hu n

set_option maxRecDepth 100000 in
set_option maxHeartbeats 4000000 in
theorem put_any {v : Value} {ls : List Ent} {w : World} (hS : Sees v ls w) (n : List UInt8) (no : Int) (hu : Up ls) (hl : ls.length ≤ 100000) :
    Calls Try.prog 9 #[v, .string ⟨n.toArray⟩, .int .i64 no] w fun e w' => ∃ u, e = .returned u ∧ Own w.heap.size u (put ls ⟨n, no⟩) w' ∧ Below w.heap.size w w' := by
  have cs := span_any v ls n w hS hu hl
  obtain ⟨_, _, h3, h4⟩ := after_facts hu n
  have HP := Lib.hid (put_parts hu ⟨n, no⟩)
  dsimp only at HP
  generalize (lo ls n).length = p at cs h4 HP
  generalize after ls n = q at cs h3 h4 HP
  have HS := Lib.hid hS
  obtain ⟨oa, cap, rfl, _⟩ := hS
  clear hu
  go_enter Try.func9, Try.ntmps9
  go_wp2_with (first
    | (go_at_call 15; refine cs.mono ?_; rintro e w1 ⟨rfl, hb1⟩)
    | (go_at_call 16
       have hb2 : Below w1.heap.size w1 (w1.alloc (.cells #[.string ⟨n.toArray⟩, .int .i64 no] 25)) := (Below.refl _ _).alloc (Nat.le_refl _) _
       have cr := replaced_any ((HS.out.below hb1).below hb2) (one_sees ⟨n, no⟩ w1 25) p q h4 h3 hl (by simp)
       refine cr.mono ?_
       rintro e w2 ⟨u, rfl, hO2, hb3⟩))
  go_ret
  exact ⟨_, rfl, by rw [← HP.out]; exact hO2.mono (by have := hb1.size; simp; omega), below_two hb1 (below_two hb2 hb3)⟩

set_option maxRecDepth 100000 in
set_option maxHeartbeats 4000000 in
theorem drop_any {v : Value} {ls : List Ent} {w : World} (hS : Sees v ls w) (n : List UInt8) (hu : Up ls) (hl : ls.length ≤ 100000) :
    Calls Try.prog 7 #[v, .string ⟨n.toArray⟩] w fun e w' => ∃ u, e = .returned (.tuple #[u, .bool (there ls n)]) ∧ Own w.heap.size u (drop ls n) w' ∧ Below w.heap.size w w' := by
  have cs := span_any v ls n w hS hu hl
  obtain ⟨_, _, h3, h4⟩ := after_facts hu n
  have HP := Lib.hid (drop_is hu n)
  have HA : Hid (there ls n = decide ((lo ls n).length < after ls n)) := Lib.hid (by unfold after; cases there ls n <;> simp)
  generalize (lo ls n).length = p at cs h4 HP HA
  generalize after ls n = q at cs h3 h4 HP HA
  have HS := Lib.hid hS
  obtain ⟨oa, cap, rfl, _⟩ := hS
  clear hu
  go_enter Try.func7, Try.ntmps7
  go_wp2_with (first
    | (go_at_call 15; refine cs.mono ?_; rintro e w1 ⟨rfl, hb1⟩)
    | (go_at_call 16
       have cr := replaced_any (HS.out.below hb1) (sees_none none 0 (Nat.zero_le _) w1) p q h4 h3 hl (by decide)
       refine cr.mono ?_
       rintro e w2 ⟨u, rfl, hO2, hb3⟩))
  go_ret2
  exact ⟨_, by rw [HA.out]; simp; rfl, by rw [← HP.out]; exact hO2.mono hb1.size, below_two hb1 hb3⟩

/-- the number of a name, or 0 -/
def noOf (ls : List Ent) (n : List UInt8) : Int := ((fil n ls).head?.map (·.no)).getD 0
theorem noOf_yes {ls : List Ent} (hu : Up ls) {n : List UInt8} (h : there ls n = true) : ∃ x, ls[(lo ls n).length]? = some x ∧ noOf ls n = x.no := by
  have hp := row_parts hu n
  unfold there at h
  unfold noOf
  rcases fil_one hu n with hf | ⟨x, hf⟩
  · rw [hf] at h; cases h
  · rw [hf] at hp ⊢
    have e : (lo ls n ++ ([x] ++ hi ls n))[(lo ls n).length]? = some x := by
      rw [List.getElem?_append_right (Nat.le_refl _), Nat.sub_self]; rfl
    rw [← hp] at e
    exact ⟨x, e, rfl⟩
theorem noOf_no {ls : List Ent} {n : List UInt8} (h : there ls n = false) : noOf ls n = 0 := by
  unfold there at h
  unfold noOf
  cases hf : fil n ls with
  | nil => rfl
  | cons x l => rw [hf] at h; cases h

set_option maxRecDepth 100000 in
set_option maxHeartbeats 4000000 in
theorem find_any {v : Value} {ls : List Ent} {w : World} (hS : Sees v ls w) (n : List UInt8) (hu : Up ls) (hl : ls.length ≤ 100000) :
    Calls Try.prog 14 #[v, .string ⟨n.toArray⟩] w fun e w' => e = .returned (.int .i64 (noOf ls n)) ∧ Below w.heap.size w w' := by
  have cs := span_any v ls n w hS hu hl
  cases ht : there ls n with
  | false =>
    have ha : after ls n = (lo ls n).length := by unfold after; rw [ht]; rfl
    have HN := Lib.hid (noOf_no ht)
    rw [ha] at cs
    generalize (lo ls n).length = p at cs
    obtain ⟨oa, cap, rfl, _⟩ := hS
    clear hu ht ha
    go_enter Try.func14, Try.ntmps14
    go_wp2_with (go_at_call 15; refine cs.mono ?_; rintro e w1 ⟨rfl, hb1⟩)
    go_ret
    exact ⟨by rw [HN.out]; rfl, hb1⟩
  | true =>
    have ha : after ls n = (lo ls n).length + 1 := by unfold after; rw [ht]; rfl
    obtain ⟨x, hx, hno⟩ := noOf_yes hu ht
    have HN := Lib.hid hno
    rw [ha] at cs
    have hpl : (lo ls n).length < ls.length := (List.getElem?_eq_some_iff.1 hx).1
    generalize (lo ls n).length = p at cs hx hpl
    obtain ⟨oa, cap, rfl, _, hc⟩ := hS
    obtain ⟨g, o, rfl, h0, h1⟩ := hc p x hx
    have hg := World.block_lt_of_cell? _ _ h1
    have H1 := Lib.hid h1
    have hpl2 : (p : Int) < (ls.length : Int) := by omega
    clear hu ht ha hno hx hc h0 h1
    go_enter Try.func14, Try.ntmps14
    go_wp2_with (go_at_call 15; refine cs.mono ?_; rintro e w1 ⟨rfl, hb1⟩; have d1 := (hb1.cell (p := ⟨g, o + p * 2 + 1, none⟩) hg).trans H1.out)
    go_ret
    exact ⟨by rw [HN.out]; rfl, hb1⟩

/-- the first name with a number -/
def nameOf (ls : List Ent) (no : Int) : Option (List UInt8) := (ls.find? fun x => decide (x.no = no)).map (·.name)
theorem find_take {ls : List Ent} {k : Nat} {x : Ent} {no : Int} (h : ls[k]? = some x) (hb : ∀ y ∈ ls.take k, y.no ≠ no) : (x.no = no → nameOf ls no = some x.name) ∧ (x.no ≠ no → ∀ y ∈ ls.take (k + 1), y.no ≠ no) := by
  have hs : ls = ls.take k ++ (x :: ls.drop (k + 1)) := by
    have hk := (List.getElem?_eq_some_iff.1 h)
    obtain ⟨hk, he⟩ := hk
    rw [← he, ← List.drop_eq_getElem_cons hk, List.take_append_drop]
  refine ⟨fun e => ?_, fun e y hy => ?_⟩
  · unfold nameOf
    rw [hs, List.find?_append, List.find?_eq_none.2 (fun y hy => by simpa using hb y hy)]
    simp [e]
  · rw [List.take_add_one, h] at hy
    rcases List.mem_append.1 hy with hy | hy
    · exact hb y hy
    · simp at hy; subst hy; exact e
theorem find_end {ls : List Ent} {no : Int} (hb : ∀ y ∈ ls, y.no ≠ no) : nameOf ls no = none := by
  unfold nameOf
  rw [List.find?_eq_none.2 (fun y hy => by simpa using hb y hy)]; rfl

set_option maxRecDepth 100000 in
set_option maxHeartbeats 4000000 in
theorem name_any {v : Value} {ls : List Ent} {w : World} (hS : Sees v ls w) (no : Int) (hl : ls.length ≤ 100000) :
    Calls Try.prog 13 #[v, .int .i64 no] w fun e w' => e = .returned (.tuple #[.string ⟨((nameOf ls no).getD []).toArray⟩, .bool (nameOf ls no).isSome]) ∧ Below w.heap.size w w' := by
  obtain ⟨oa, cap, rfl, _, hcells⟩ := hS
  have HC := Lib.hid hcells
  clear hcells
  go_enter Try.func13, Try.ntmps13
  go_wp2
  go_loopw [10] (fun i wr => ∃ k : Nat, k ≤ ls.length ∧ i = .int .i64 k ∧ (∀ y ∈ ls.take k, y.no ≠ no) ∧ Below w.heap.size w wr) (fun i _ => ls.length - (intOf i).toNat)
  case atStart => exact ⟨0, Nat.zero_le _, rfl, fun y hy => by simp at hy, Below.refl _ _⟩
  case round =>
    obtain ⟨k, hk, rfl, hno, hb⟩ := hrel
    have HB := Lib.hid hno
    clear hno
    by_cases hlt : k < ls.length
    · obtain ⟨x, hx⟩ : ∃ x, ls[k]? = some x := ⟨_, List.getElem?_eq_getElem hlt⟩
      obtain ⟨g, o, rfl, h0, h1⟩ := HC.out k x hx
      have hg := World.block_lt_of_cell? _ _ h0
      have d0 := (hb.cell (p := ⟨g, o + k * 2, none⟩) hg).trans h0
      have d1 := (hb.cell (p := ⟨g, o + k * 2 + 1, none⟩) hg).trans h1
      have HF := Lib.hid (find_take hx HB.out)
      have hb2 : Below w.heap.size w (wr.alloc (.cells #[.string ⟨x.name.toArray⟩, .int .i64 x.no] 25)) := hb.alloc hb.size _
      have HB2 := Lib.hid hb2
      clear h0 h1 hx hb2
      by_cases hn : x.no = no
      · have HN := Lib.hid (HF.out.1 hn)
        subst hn
        clear HF
        go_wp2
        go_ret2
        exact ⟨by rw [HN.out]; rfl, HB2.out⟩
      · have HN := Lib.hid (HF.out.2 hn)
        have hn' : (x.no == no) = false := by simpa using hn
        clear HF hn
        go_wp2
        go_roundw
        case rel => exact ⟨k + 1, by omega, by go_num, HN.out, HB2.out⟩
        case measure => simp [intOf]; omega
    · have HE := Lib.hid (find_end (ls := ls) (no := no) (by have := HB.out; rwa [List.take_of_length_le (by omega)] at this))
      go_wp2
      go_ret2
      exact ⟨by rw [HE.out]; rfl, hb⟩
end Go.Proofs.Ytllipmhemgponaa.E
