/-
  ents.Check.
-/
import Derived.Test.YtllipmhemgponaaEops
import Derived.Deep.QuietTactic
import Derived.BigQuiet
import Derived.Laws.Cover1
namespace Go.Proofs.Ytllipmhemgponaa.E
open Go.RowKit Go.Shelf

/-- do names rise, each once? -/
def chk : List Ent → Bool
  | x :: y :: l => decide (x.name < y.name) && chk (y :: l)
  | _ => true
theorem chk_snoc : ∀ (l : List Ent) (x y : Ent), chk (l ++ [x, y]) = (chk (l ++ [x]) && decide (x.name < y.name))
  | [], x, y => by simp [chk]
  | [a], x, y => by simp [chk]
  | a :: b :: l, x, y => by
    have := chk_snoc (b :: l) x y
    simp only [List.cons_append, chk] at this ⊢
    rw [this, Bool.and_assoc]
theorem chk_take {ls : List Ent} {j : Nat} {x y : Ent} (h1 : ls[j]? = some x) (h2 : ls[j + 1]? = some y) : chk (ls.take (j + 1 + 1)) = (chk (ls.take (j + 1)) && decide (x.name < y.name)) := by
  rw [List.take_add_one, h2, List.take_add_one, h1]
  simp only [Option.toList]
  rw [List.append_assoc]
  exact chk_snoc _ _ _
theorem chk_one {ls : List Ent} {k : Nat} (h : k ≤ 1) : chk (ls.take k) = true := by
  match ls, k, h with
  | [], k, _ => simp [chk]
  | x :: l, 0, _ => rfl
  | x :: l, 1, _ => rfl
theorem chk_no {ls : List Ent} {k : Nat} (h : chk (ls.take k) = false) : chk ls = false := by
  have key : ∀ (l m : List Ent), chk l = false → chk (l ++ m) = false := by
    intro l
    induction l with
    | nil => intro m h; cases h
    | cons x l ih =>
      intro m h
      cases l with
      | nil => cases h
      | cons y l =>
        simp only [chk, List.cons_append] at h ⊢
        rcases Bool.and_eq_false_iff.1 h with h | h
        · rw [h]; rfl
        · have := ih m h
          simp only [List.cons_append] at this
          rw [this, Bool.and_false]
  have := key _ (ls.drop k) h
  rwa [List.take_append_drop] at this
theorem up_chk : ∀ ls : List Ent, Up ls → chk ls = true
  | [], _ => rfl
  | [_], _ => rfl
  | x :: y :: l, h => by
    obtain ⟨h1, h2⟩ := List.pairwise_cons.1 h
    simp only [chk]
    rw [up_chk (y :: l) h2, decide_eq_true (h1 y (by simp))]; rfl

set_option maxRecDepth 100000 in
set_option maxHeartbeats 4000000 in
theorem check_any {v : Value} {ls : List Ent} {w : World} (hS : Sees v ls w) (hl : ls.length ≤ 100000) :
    Calls Try.prog 12 #[v] w fun e w' => e = .returned (.bool (chk ls)) ∧ Below w.heap.size w w' := by
  obtain ⟨oa, cap, rfl, _, hcells⟩ := hS
  have HC := Lib.hid hcells
  clear hcells
  go_enter Try.func12, Try.ntmps12
  go_wp2
  go_loopw [6] (fun i wr => ∃ k : Nat, k ≤ ls.length ∧ i = .int .i64 k ∧ chk (ls.take k) = true ∧ Below w.heap.size w wr) (fun i _ => ls.length - (intOf i).toNat)
  case atStart => exact ⟨0, Nat.zero_le _, rfl, rfl, Below.refl _ _⟩
  case round =>
    obtain ⟨k, hk, rfl, hc, hb⟩ := hrel
    have HK := Lib.hid hc
    clear hc
    by_cases hlt : k < ls.length
    · by_cases hk0 : k = 0
      · subst hk0
        go_wp2
        go_region
        go_wp2
        go_roundw
        case rel => exact ⟨1, by omega, rfl, chk_one (by decide), hb.drew⟩
        case measure => simp [intOf]; omega
      · obtain ⟨j, rfl⟩ : ∃ j, k = j + 1 := ⟨k - 1, by omega⟩
        obtain ⟨x, hx⟩ : ∃ x, ls[j]? = some x := ⟨_, List.getElem?_eq_getElem (by omega)⟩
        obtain ⟨y, hy⟩ : ∃ y, ls[j + 1]? = some y := ⟨_, List.getElem?_eq_getElem hlt⟩
        obtain ⟨g, o, rfl, h0, _⟩ := HC.out j x hx
        obtain ⟨g', o', e, h1, _⟩ := HC.out (j + 1) y hy
        cases e
        have hg := World.block_lt_of_cell? _ _ h0
        have d0 := (hb.cell (p := ⟨g, o + j * 2, none⟩) hg).trans h0
        have d1 := (hb.cell (p := ⟨g, o + (j + 1) * 2, none⟩) hg).trans h1
        have HT := Lib.hid (chk_take hx hy)
        have hw1 : IntKind.i64.wrap (j : Int) = (j : Int) := IntWalk.i64_in _ (by omega)
        have hj1 : (j : Int) < (ls.length : Int) := by omega
        have hj2 : (j : Int) + 1 < (ls.length : Int) := by omega
        have hj3 : ((j : Int) + 1).toNat = j + 1 := by omega
        have hj4 : (0 : Int) ≤ (j : Int) + 1 := by omega
        have hj5 : (0 : Int) < (j : Int) + 1 := by omega
        have hk2 : IntKind.i64.wrap ((j : Int) + 1) = (j : Int) + 1 := IntWalk.i64_in _ (by omega)
        clear hx hy hk0 h0 h1
        have HB := Lib.hid hb
        clear hb
        by_cases hxy : x.name < y.name
        · have hless := less_yes hxy
          have HN := Lib.hid (HT.out.trans (by rw [HK.out, decide_eq_true hxy, Bool.and_true]))
          clear HT hxy
          go_wp2
          go_quiet (fail)
          go_wp2
          go_roundw
          case rel => exact ⟨j + 1 + 1, by omega, by go_num, HN.out, below_two HB.out (below_drewN _)⟩
          case measure => simp [intOf]; omega
        · have hless := less_no hxy
          have HN := Lib.hid (chk_no (HT.out.trans (by rw [decide_eq_false hxy, Bool.and_false])))
          clear HT hxy
          go_wp2
          go_quiet (fail)
          go_wp2
          go_ret
          exact ⟨by rw [HN.out]; rfl, below_two HB.out (below_drewN _)⟩
    · have HE : Hid (chk ls = true) := Lib.hid (by have := HK.out; rwa [List.take_of_length_le (by omega)] at this)
      go_wp2
      go_ret
      exact ⟨by rw [HE.out]; rfl, hb⟩
end Go.Proofs.Ytllipmhemgponaa.E
