/-
  What the program's calls that only read answer: parts, Devs, part, Root, Over, under, isRoot, node, directory, Use, blocksOf.
-/
import Derived.Test.YtmoimijclafgcaaGbase
namespace Go.Proofs.Ytmoimijclafgcaa.G
open Go.RowKit Go.Shelf Go.Maps

theorem seek_take {α : Type} (p : α → Bool) {l : List α} {k : Nat} {x : α} (hx : l[k]? = some x) (hb : ∀ y ∈ l.take k, p y = false) : (p x = true → l.find? p = some x) ∧ (p x = false → ∀ y ∈ l.take (k + 1), p y = false) := by
  obtain ⟨hl, he⟩ := List.getElem?_eq_some_iff.1 hx
  constructor
  · intro h
    have e : l = l.take k ++ (x :: l.drop (k + 1)) := by
      rw [← he, ← List.drop_eq_getElem_cons hl, List.take_append_drop]
    rw [e, List.find?_append, List.find?_eq_none.2 (fun y hy => by rw [hb y hy]; simp), List.find?_cons, h]
    rfl
  · intro h y hy
    rw [List.take_succ_eq_append_getElem hl, he] at hy
    rcases List.mem_append.1 hy with hy | hy
    · exact hb y hy
    · obtain rfl := List.mem_singleton.1 hy
      exact h
theorem seek_end {α : Type} (p : α → Bool) {l : List α} (hb : ∀ y ∈ l, p y = false) : l.find? p = none := List.find?_eq_none.2 fun y hy => by rw [hb y hy]; simp

section
variable {B X A M : Nat} {mv : Value} {st : St} {w : World}
theorem parts_any (h : Wd B X A M mv st w) : Calls Try.prog 41 #[.pointer (some ⟨X, 0, none⟩)] w fun e w' => e = .returned mv ∧ w = w' := by
  have c1 := h.facts.2.1
  clear h
  go_enter Try.func41, Try.ntmps41
  go_wp2
  go_ret
  exact ⟨rfl, rfl⟩
theorem Devs_any (h : Wd B X A M mv st w) : Calls Try.prog 14 #[.pointer (some ⟨X, 0, none⟩)] w fun e w' => e = .returned (.int .i64 st.d.length) ∧ w = w' := by
  have c1 := parts_any h
  obtain ⟨oa, cap, rfl⟩ := h.rows.slice
  clear h
  go_enter Try.func14, Try.ntmps14
  go_wp2_with (refine c1.mono ?_; rintro e w1 ⟨rfl, rfl⟩)
  go_ret
  exact ⟨rfl, rfl⟩
theorem Wd.len (h : Wd B X A M mv st w) : st.d.length ≤ 9223372036854775807 := by
  rcases h.rows.forms with ⟨_, e⟩ | ⟨_, _, _, _, _, _, h1, h2⟩
  · rw [e]; decide
  · unfold maxLen at h2; omega
theorem part_none (h : Wd B X A M mv st w) (k : Int) (hk : mt st.d k = none) : Calls Try.prog 43 #[.pointer (some ⟨X, 0, none⟩), .int .i64 k] w fun e w' => e = .returned (.pointer none) ∧ w = w' := by
  have c1 := parts_any h
  have hl := h.len
  obtain ⟨oa, cap, rfl⟩ := h.rows.slice
  clear h
  have hn : k < 1 ∨ (st.d.length : Int) < k := by
    by_cases h1 : 1 ≤ k
    · by_cases h2 : k ≤ st.d.length
      · obtain ⟨m, hm⟩ := mt_in h1 h2
        rw [hm] at hk; cases hk
      · omega
    · omega
  clear hk
  generalize st.d.length = n at *
  by_cases h1 : k < 1
  · go_enter Try.func43, Try.ntmps43
    go_wp2_with (refine c1.mono ?_; rintro e w1 ⟨rfl, rfl⟩)
    go_ret
    exact ⟨rfl, rfl⟩
  · have h2 : (n : Int) < k := by omega
    clear hn
    go_enter Try.func43, Try.ntmps43
    go_wp2_with (refine c1.mono ?_; rintro e w1 ⟨rfl, rfl⟩)
    go_ret
    exact ⟨rfl, rfl⟩
theorem part_some (h : Wd B X A M mv st w) {i : Nat} {m : Mt} (hk : st.d[i]? = some m) {g cap : Nat} (hg : mv = .slice (some ⟨g, 0, none⟩) st.d.length cap) :
    Calls Try.prog 43 #[.pointer (some ⟨X, 0, none⟩), .int .i64 ((i : Int) + 1)] w fun e w' => e = .returned (.pointer (some ⟨g, i * 6, none⟩)) ∧ w = w' := by
  have c1 := parts_any h
  have hl := h.len
  subst hg
  have hi : i < st.d.length := (List.getElem?_eq_some_iff.1 hk).1
  clear h hk
  generalize st.d.length = n at *
  obtain ⟨k, hk⟩ : ∃ k : Int, (i : Int) + 1 = k := ⟨_, rfl⟩
  rw [hk]
  have h1 : ¬ k < 1 := by omega
  have h2 : ¬ (n : Int) < k := by omega
  have h3 : k - 1 = (i : Int) := by omega
  have h4 : (i : Int) < n := by omega
  clear hk
  go_enter Try.func43, Try.ntmps43
  go_wp2_with (refine c1.mono ?_; rintro e w1 ⟨rfl, rfl⟩)
  go_ret
  exact ⟨rfl, rfl⟩
theorem Root_any (h : Wd B X A M mv st w) (k : Int) : Calls Try.prog 50 #[.pointer (some ⟨X, 0, none⟩), .int .i64 k] w fun e w' => e = .returned (.int .i64 (rootOf st.d k)) ∧ w = w' := by
  cases hm : mt st.d k with
  | none =>
    have c1 := part_none h k hm
    have e : rootOf st.d k = 0 := by unfold rootOf; rw [hm]
    rw [e]
    clear h hm e
    go_enter Try.func50, Try.ntmps50
    go_wp2_with (refine c1.mono ?_; rintro e w1 ⟨rfl, rfl⟩)
    go_ret
    exact ⟨rfl, rfl⟩
  | some m =>
    obtain ⟨h1, h2, h3⟩ := mt_some hm
    obtain ⟨i, hi⟩ : ∃ i, (k - 1).toNat = i := ⟨_, rfl⟩
    rw [hi] at h3
    obtain ⟨g, cap, hg, hat⟩ := h.rows.at h3
    have c1 := part_some h h3 hg
    rw [show (i : Int) + 1 = k by omega] at c1
    have e : rootOf st.d k = m.root := by unfold rootOf; rw [hm]
    rw [e]
    have c0 := hat.1
    clear h hm e h1 h2 h3 hi hat
    go_enter Try.func50, Try.ntmps50
    go_wp2_with (refine c1.mono ?_; rintro e w1 ⟨rfl, rfl⟩)
    go_ret
    exact ⟨rfl, rfl⟩
end
end Go.Proofs.Ytmoimijclafgcaa.G
