/-
  The laws' few and awake.
-/
import Derived.Test.YtolobnokpmbajaaDoorZmath
import Derived.Laws.StructEq
namespace Go.Proofs.YtolobnokpmbajaaDoor.Z
open Go.RowKit Go.Shelf

theorem parse_rows (s : List UInt8) (hs : s.length ≤ 900000) (hmem : ∀ t ∈ I.lines s, t.length ≤ 5000) (w : World) :
    Calls Tryd.prog 13 #[.string ⟨s.toArray⟩] w fun e w' => ∃ u, e = .returned u ∧ Sees u (rows (I.lines s)) w' ∧ Below w.heap.size w w' := by
  refine (parse_any s hs hmem w).mono ?_
  rintro e w' ⟨u, ms, rfl, hst, hS, hb⟩
  exact ⟨u, rfl, by rw [rows_is, ← stab_puts hst]; exact hS, hb⟩

/-- names not too long, lines not too many -/
def fewL (ls : List Line) : Bool := ls.all (fun x => decide (x.name.length ≤ 300)) && decide (ls.length ≤ 30)
theorem fewL_yes {ls : List Line} (h : fewL ls = true) : (∀ x ∈ ls, x.name.length ≤ 300) ∧ ls.length ≤ 30 := by simpa [fewL] using h

set_option maxRecDepth 100000 in
set_option maxHeartbeats 4000000 in
theorem few_any (v : Value) (ls : List Line) (w : World) (hR : Sees v ls w) (hl : ls.length ≤ 9223372036854775807) :
    Calls Tryd.prog 8 #[v] w fun e w' => e = .returned (.bool (fewL ls)) ∧ w' = w := by
  obtain ⟨oa, cap, rfl, hcells⟩ := hR
  have HC := Lib.hid hcells
  clear hcells
  go_enter Tryd.func8, Tryd.ntmps8
  go_wp2
  go_loop [3] (fun i => ∃ k : Nat, k ≤ ls.length ∧ i = .int .i64 k ∧ (ls.take k).all (fun x => decide (x.name.length ≤ 300)) = true) (fun i => ls.length - (intOf i).toNat)
  case atStart => exact ⟨0, Nat.zero_le _, rfl, rfl⟩
  case round =>
    obtain ⟨k, hk, rfl, hall⟩ := hrel
    have HA := Lib.hid hall
    clear hall
    by_cases hlt : k < ls.length
    · obtain ⟨x, hx⟩ : ∃ x, ls[k]? = some x := ⟨_, List.getElem?_eq_getElem hlt⟩
      obtain ⟨g, o, rfl, h0, h1, h2⟩ := HC.out k x hx
      have HX := Lib.hid hx
      clear hx
      by_cases hn : x.name.length ≤ 300
      · have hn' : ¬ (300 : Int) < x.name.length := by omega
        have HN := Lib.hid hn
        clear hn
        go_wp2
        go_round
        case rel => exact ⟨k + 1, by omega, by go_num, by rw [List.take_add_one, HX.out]; simp only [Option.toList_some, List.all_append, HA.out, List.all_cons, List.all_nil, Bool.and_true, Bool.true_and]; exact decide_eq_true HN.out⟩
        case measure => simp [intOf]; omega
      · have hn' : (300 : Int) < x.name.length := by omega
        have HF : Hid (fewL ls = false) := Lib.hid (by
          unfold fewL
          have : ls.all (fun x => decide (x.name.length ≤ 300)) = false := by
            rw [List.all_eq_false]
            exact ⟨x, List.mem_of_getElem? HX.out, by simpa using hn⟩
          rw [this]; rfl)
        clear hn
        go_wp2
        go_ret
        exact ⟨by rw [HF.out]; rfl, rfl⟩
    · have HF : Hid (fewL ls = decide (ls.length ≤ 30)) := Lib.hid (by
        unfold fewL
        have := HA.out
        rw [List.take_of_length_le (by omega)] at this
        rw [this]; rfl)
      by_cases h30 : ls.length ≤ 30
      · have h30' : (ls.length : Int) ≤ 30 := by omega
        have HD : Hid (decide (ls.length ≤ 30) = true) := Lib.hid (decide_eq_true h30)
        clear h30
        go_wp2
        go_ret
        exact ⟨by rw [HF.out, HD.out]; rfl, rfl⟩
      · have h30' : ¬ (ls.length : Int) ≤ 30 := by omega
        have HD : Hid (decide (ls.length ≤ 30) = false) := Lib.hid (decide_eq_false h30)
        clear h30
        go_wp2
        go_ret
        exact ⟨by rw [HF.out, HD.out]; rfl, rfl⟩

/-! ### the example -/
def exS : List UInt8 := [120, 10, 49, 32, 50, 32, 97, 10, 51, 32, 52, 32, 97, 10]
theorem ex_rows : rows (I.lines exS) = [⟨3, 4, [97]⟩] := by decide +kernel
theorem ex_mem : ∀ t ∈ I.lines exS, t.length ≤ 5000 := by decide +kernel
def exL : Line := ⟨5, 7, [97, 32, 98]⟩
theorem ex_text : text [exL] = [53, 32, 55, 32, 97, 37, 50, 48, 98, 10] := by decide +kernel
theorem ex_sees (w : World) (t : TypeId) : Sees (.slice (some ⟨w.heap.size, 0, none⟩) 1 1) [exL] (w.alloc (.cells #[.int .i64 5, .int .i64 7, .string ⟨#[97, 32, 98]⟩] t)) := by
  refine ⟨_, 1, rfl, fun k x h => ⟨w.heap.size, 0, rfl, ?_⟩⟩
  have hk : k = 0 := by have := (List.getElem?_eq_some_iff.1 h).1; simp at this; exact this
  subst hk
  simp at h; subst h
  exact ⟨by rw [World.cell?_alloc_new]; rfl, by rw [World.cell?_alloc_new]; rfl, by rw [World.cell?_alloc_new]; rfl⟩
theorem ex_fit : ∀ x ∈ [exL], Fit x := by
  intro x hx; simp at hx; subst hx
  exact ⟨by decide, by decide, by decide, by decide, by decide⟩
theorem ex_write (w : World) (v : Value) (hR : Sees v [exL] w) (hL : K.Laid w) : Calls Tryd.prog 10 #[v] w fun e w' => e = .returned (.string ⟨#[53, 32, 55, 32, 97, 37, 50, 48, 98, 10]⟩) ∧ Below w.heap.size w w' := by
  have := write_any v [exL] w hR ex_fit (by decide) hL
  rw [ex_text] at this
  exact this
theorem ex_parse (w : World) : Calls Tryd.prog 13 #[.string ⟨#[120, 10, 49, 32, 50, 32, 97, 10, 51, 32, 52, 32, 97, 10]⟩] w fun e w' =>
    ∃ g o cap, e = .returned (.slice (some ⟨g, o, none⟩) 1 cap) ∧ (w'.cell? ⟨g, o, none⟩ = some (.int .i64 3) ∧ w'.cell? ⟨g, o + 1, none⟩ = some (.int .i64 4) ∧ w'.cell? ⟨g, o + 2, none⟩ = some (.string ⟨#[97]⟩)) ∧ Below w.heap.size w w' := by
  have := parse_rows exS (by decide) ex_mem w
  rw [ex_rows] at this
  refine this.mono ?_
  rintro e w' ⟨u, rfl, ⟨oa, cap, rfl, hc⟩, hb⟩
  obtain ⟨g, o, rfl, h0, h1, h2⟩ := hc 0 _ rfl
  exact ⟨g, o, cap, rfl, ⟨by simpa using h0, by simpa using h1, by simpa using h2⟩, hb⟩

set_option maxRecDepth 100000 in
set_option maxHeartbeats 4000000 in
theorem awake_any (w : World) (hL : K.Laid w) :
    Calls Tryd.prog 9 #[] w fun e w' => e = .returned (.bool true) ∧ Below w.heap.size w w' := by
  have HL := Lib.hid hL
  clear hL
  go_enter Tryd.func9, Tryd.ntmps9
  go_wp2_with (first
    | (go_at_call 13; refine (ex_parse _).mono ?_; rintro e w1 ⟨g, o, cap, rfl, ⟨h0, h1, h2⟩, hb1⟩; have HC := Lib.hid (And.intro h0 (And.intro h1 h2)); clear h0 h1 h2)
    | (go_at_call 10; refine (ex_write _ _ (ex_sees _ _) (HL.out.of_below (below_two hb1 ((Below.refl _ _).alloc (Nat.le_refl _) _)))).mono ?_; rintro e w2 ⟨rfl, hb2⟩
       have hg := World.block_lt_of_cell? _ _ HC.out.1
       have hb3 : Below w1.heap.size w1 w2 := below_two ((Below.refl _ _).alloc (Nat.le_refl _) _) hb2
       have d0 := (hb3.cell (p := ⟨g, o, none⟩) hg).trans HC.out.1
       have d1 := (hb3.cell (p := ⟨g, o + 1, none⟩) hg).trans HC.out.2.1
       have d2 := (hb3.cell (p := ⟨g, o + 2, none⟩) hg).trans HC.out.2.2))
  go_ret
  exact ⟨rfl, below_two hb1 hb3⟩
end Go.Proofs.YtolobnokpmbajaaDoor.Z
