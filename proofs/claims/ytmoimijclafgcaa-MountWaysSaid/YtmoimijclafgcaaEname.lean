/-
  ents.Name.
-/
import Derived.Test.YtmoimijclafgcaaEbase
namespace Go.Proofs.Ytmoimijclafgcaa.E
open Go.RowKit Go.Shelf

/-- the first name with a number -/
def nameOf (ls : List Ent) (no : Int) : Option (List UInt8) := (ls.find? fun x => decide (x.no = no)).map (·.name)
theorem find_take {ls : List Ent} {k : Nat} {x : Ent} {no : Int} (h : ls[k]? = some x) (hb : ∀ y ∈ ls.take k, y.no ≠ no) : (x.no = no → nameOf ls no = some x.name) ∧ (x.no ≠ no → ∀ y ∈ ls.take (k + 1), y.no ≠ no) := by
  have hs : ls = ls.take k ++ (x :: ls.drop (k + 1)) := by
    have hk := (List.getElem?_eq_some_iff.1 h)
    obtain ⟨hk, he⟩ := hk
    rw [← he, ← List.drop_eq_getElem_cons hk, List.take_append_drop]
  refine ⟨fun e => ?_, fun e y hy => ?_⟩
  · unfold nameOf
    rw [hs, List.find?_append, List.find?_eq_none.2 (fun y hy => by simpa using hb y hy)]
    simp [e]
  · rw [List.take_add_one, h] at hy
    rcases List.mem_append.1 hy with hy | hy
    · exact hb y hy
    · simp at hy; subst hy; exact e
theorem find_end {ls : List Ent} {no : Int} (hb : ∀ y ∈ ls, y.no ≠ no) : nameOf ls no = none := by
  unfold nameOf
  rw [List.find?_eq_none.2 (fun y hy => by simpa using hb y hy)]; rfl

set_option maxRecDepth 100000 in
set_option maxHeartbeats 4000000 in
theorem name_any {v : Value} {ls : List Ent} {w : World} (hS : Sees v ls w) (no : Int) (hl : ls.length ≤ 100000) :
    Calls Try.prog 76 #[v, .int .i64 no] w fun e w' => e = .returned (.tuple #[.string ⟨((nameOf ls no).getD []).toArray⟩, .bool (nameOf ls no).isSome]) ∧ Below w.heap.size w w' := by
  obtain ⟨oa, cap, rfl, _, hcells⟩ := hS
  have HC := Lib.hid hcells
  clear hcells
  go_enter Try.func76, Try.ntmps76
  go_wp2
  go_loopw [10] (fun i wr => ∃ k : Nat, k ≤ ls.length ∧ i = .int .i64 k ∧ (∀ y ∈ ls.take k, y.no ≠ no) ∧ Below w.heap.size w wr) (fun i _ => ls.length - (intOf i).toNat)
  case atStart => exact ⟨0, Nat.zero_le _, rfl, fun y hy => by simp at hy, Below.refl _ _⟩
  case round =>
    obtain ⟨k, hk, rfl, hno, hb⟩ := hrel
    have HB := Lib.hid hno
    clear hno
    by_cases hlt : k < ls.length
    · obtain ⟨x, hx⟩ : ∃ x, ls[k]? = some x := ⟨_, List.getElem?_eq_getElem hlt⟩
      obtain ⟨g, o, rfl, h0, h1⟩ := HC.out k x hx
      have hg := World.block_lt_of_cell? _ _ h0
      have d0 := (hb.cell (p := ⟨g, o + k * 2, none⟩) hg).trans h0
      have d1 := (hb.cell (p := ⟨g, o + k * 2 + 1, none⟩) hg).trans h1
      have HF := Lib.hid (find_take hx HB.out)
      have hb2 : Below w.heap.size w (wr.alloc (.cells #[.string ⟨x.name.toArray⟩, .int .i64 x.no] 128)) := hb.alloc hb.size _
      have HB2 := Lib.hid hb2
      clear h0 h1 hx hb2
      by_cases hn : x.no = no
      · have HN := Lib.hid (HF.out.1 hn)
        subst hn
        clear HF
        go_wp2
        go_ret2
        exact ⟨by rw [HN.out]; rfl, HB2.out⟩
      · have HN := Lib.hid (HF.out.2 hn)
        have hn' : (x.no == no) = false := by simpa using hn
        clear HF hn
        go_wp2
        go_roundw
        case rel => exact ⟨k + 1, by omega, by go_num, HN.out, HB2.out⟩
        case measure => simp [intOf]; omega
    · have HE := Lib.hid (find_end (ls := ls) (no := no) (by have := HB.out; rwa [List.take_of_length_le (by omega)] at this))
      go_wp2
      go_ret2
      exact ⟨by rw [HE.out]; rfl, hb⟩
end Go.Proofs.Ytmoimijclafgcaa.E
