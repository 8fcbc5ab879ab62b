/-
  What track's Clean, Join, Rel and Split do.
-/
import Derived.Test.YtfdjgbonjenldaaDoorRefclean
namespace Go.Proofs.YtfdjgbonjenldaaDoor
open Go.RowKit Go.Shelf

theorem map_mk (ps : List (List UInt8)) : (ps.map (fun p => (⟨p.toArray⟩ : ByteArray))).map (·.data.toList) = ps := by
  rw [List.map_map]
  conv => rhs; rw [← List.map_id ps]
  rfl
theorem join_texts {B : Nat} {v : Value} {ps : List (List UInt8)} {w : World} (h : Texts B v ps w) (hn : ps.length ≤ 10000) (hl : (M.jn ps).length ≤ 10000) :
    Calls Tryd.prog 23 #[v, .string ⟨#[47]⟩] w fun e w' => e = .returned (.string ⟨(M.jn ps).toArray⟩) ∧ Below w.heap.size w w' := by
  rcases h.forms with ⟨rfl, rfl⟩ | ⟨g, cap, rfl⟩
  · refine (Tryd.strings_Join_none none 0 ⟨#[47]⟩ w).mono fun e w' ⟨he, hw⟩ => ?_
    subst hw
    exact ⟨he, Below.refl _ _⟩
  · have hc := h.cap_le
    have hg := (World.ownsRow.lt h g rfl).2
    have hj := Tryd.strings_Join g 0 cap (ps.map (fun p => (⟨p.toArray⟩ : ByteArray))) ⟨#[47]⟩ w (by
      intro j x hx
      rw [List.getElem?_map] at hx
      cases hp : ps[j]? with
      | none => rw [hp] at hx; cases hx
      | some p =>
        rw [hp] at hx
        obtain rfl : (⟨p.toArray⟩ : ByteArray) = x := Option.some.inj hx
        rw [Nat.zero_add]
        exact h.cell j p hp) hg (by rw [List.length_map]; omega) (by rw [List.length_map]; exact hc) (by rw [map_mk]; exact Nat.le_trans hl (by decide))
    rw [List.length_map, map_mk] at hj
    exact hj

set_option maxHeartbeats 1000000 in
theorem clean_l (l : List UInt8) (hs : l.length ≤ 5000) (w : World) :
    Calls Tryd.prog 11 #[.string ⟨l.toArray⟩] w fun e w' => e = .returned (.string ⟨(M.clean l).toArray⟩) ∧ Below w.heap.size w w' := by
  have cr := fun w => remaining_any l hs w
  have ca := fun w => absolute_l l w
  obtain ⟨h1, h2⟩ := M.kept_len l
  have hn : (M.kept l).length ≤ 10000 := by omega
  have hl : (M.jn (M.kept l)).length ≤ 10000 := by omega
  clear h1 h2
  have cj := fun {B v w} (h : Texts B v (M.kept l) w) => join_texts h hn hl
  by_cases hb : M.abs l = true
  · rw [M.clean_abs hb]
    rw [hb] at ca
    clear hb
    generalize M.kept l = k at cr hn hl cj ⊢
    generalize M.jn k = t at hl cj ⊢
    have ha := add_ll [47] t (by simp; omega)
    go_enter Tryd.func11, Tryd.ntmps11
    go_wp2_with (first
      | (go_at_call 24; refine (cr _).mono ?_; rintro e w1 ⟨v, rfl, hT, hb1⟩)
      | (go_at_call 23; refine (cj hT).mono ?_; rintro e w2 ⟨rfl, hb2⟩)
      | (go_at_call 19; refine (ca _).mono ?_; rintro e w9 ⟨rfl, hw9⟩; obtain rfl := hw9.symm))
    go_ret
    exact ⟨rfl, hb1.trans (hb2.mono hb1.size)⟩
  · have hb' : M.abs l = false := by simpa using hb
    rw [hb'] at ca
    clear hb
    by_cases ht : M.jn (M.kept l) = []
    · rw [M.clean_none hb' ht]
      clear hb'
      generalize M.kept l = k at cr hn hl cj ht ⊢
      rw [ht] at cj
      clear ht hl
      go_enter Tryd.func11, Tryd.ntmps11
      go_wp2_with (first
        | (go_at_call 24; refine (cr _).mono ?_; rintro e w1 ⟨v, rfl, hT, hb1⟩)
        | (go_at_call 23; refine (cj hT).mono ?_; rintro e w2 ⟨rfl, hb2⟩)
        | (go_at_call 19; refine (ca _).mono ?_; rintro e w9 ⟨rfl, hw9⟩; obtain rfl := hw9.symm))
      go_ret
      exact ⟨rfl, hb1.trans (hb2.mono hb1.size)⟩
    · rw [M.clean_some hb' ht]
      clear hb'
      generalize M.kept l = k at cr hn hl cj ht ⊢
      generalize M.jn k = t at hl cj ht ⊢
      have ht' : t.isEmpty = false := by cases t <;> simp_all
      go_enter Tryd.func11, Tryd.ntmps11
      go_wp2_with (first
        | (go_at_call 24; refine (cr _).mono ?_; rintro e w1 ⟨v, rfl, hT, hb1⟩)
        | (go_at_call 23; refine (cj hT).mono ?_; rintro e w2 ⟨rfl, hb2⟩)
        | (go_at_call 19; refine (ca _).mono ?_; rintro e w9 ⟨rfl, hw9⟩; obtain rfl := hw9.symm))
      go_ret
      exact ⟨rfl, hb1.trans (hb2.mono hb1.size)⟩
theorem refClean_l (l : List UInt8) (hs : l.length ≤ 5000) (w : World) :
    Calls Tryd.prog 12 #[.string ⟨l.toArray⟩] w fun e w' => e = .returned (.string ⟨(M.clean l).toArray⟩) ∧ Below w.heap.size w w' :=
  refClean_any ⟨l.toArray⟩ (by rw [size_l]; exact hs) w

theorem join_l (a b : List UInt8) (ha : a.length ≤ 2000) (hb : b.length ≤ 2000) (w : World) :
    Calls Tryd.prog 13 #[.string ⟨a.toArray⟩, .string ⟨b.toArray⟩] w fun e w' => e = .returned (.string ⟨(M.join a b).toArray⟩) ∧ Below w.heap.size w w' := by
  have ca := fun w => absolute_l b w
  unfold M.join
  by_cases h1 : M.abs b = true
  · have cc := fun w => clean_l b (by omega) w
    rw [if_pos (.inl h1)]
    rw [h1] at ca
    clear h1
    generalize M.clean b = c at cc ⊢
    go_enter Tryd.func13, Tryd.ntmps13
    go_wp2_with (first
      | (go_at_call 11; refine (cc _).mono ?_; rintro e w1 ⟨rfl, hb1⟩)
      | (go_at_call 19; refine (ca _).mono ?_; rintro e w9 ⟨rfl, hw9⟩; obtain rfl := hw9.symm))
    go_ret
    exact ⟨rfl, hb1⟩
  · have h1' : M.abs b = false := by simpa using h1
    by_cases h2 : a = []
    · have cc := fun w => clean_l b (by omega) w
      rw [if_pos (.inr h2)]
      rw [h1'] at ca
      subst h2
      clear h1 h1'
      generalize M.clean b = c at cc ⊢
      go_enter Tryd.func13, Tryd.ntmps13
      go_wp2_with (first
        | (go_at_call 11; refine (cc _).mono ?_; rintro e w1 ⟨rfl, hb1⟩)
        | (go_at_call 19; refine (ca _).mono ?_; rintro e w9 ⟨rfl, hw9⟩; obtain rfl := hw9.symm))
      go_ret
      exact ⟨rfl, hb1⟩
    · have cc := fun w => clean_l (a ++ 47 :: b) (by simp; omega) w
      rw [if_neg (by simp [h1', h2])]
      rw [h1'] at ca
      have h2' : a.isEmpty = false := by cases a <;> simp_all
      have a1 := add_ll a [47] (by simp; omega)
      have a2 := add_ll (a ++ [47]) b (by simp; omega)
      rw [List.append_assoc] at a2
      clear h1 h1'
      generalize M.clean (a ++ 47 :: b) = c at cc ⊢
      go_enter Tryd.func13, Tryd.ntmps13
      go_wp2_with (first
        | (go_at_call 11; refine (cc _).mono ?_; rintro e w1 ⟨rfl, hb1⟩)
        | (go_at_call 19; refine (ca _).mono ?_; rintro e w9 ⟨rfl, hw9⟩; obtain rfl := hw9.symm))
      go_ret
      exact ⟨rfl, hb1⟩

set_option maxHeartbeats 2000000 in
theorem rel_l (a b : List UInt8) (ha : a.length ≤ 2000) (hb : b.length ≤ 2000) (w : World) :
    Calls Tryd.prog 7 #[.string ⟨a.toArray⟩, .string ⟨b.toArray⟩] w fun e w' => e = .returned (.tuple #[.string ⟨(M.rel1 a b).toArray⟩, .bool (decide (M.relOk a b))]) ∧ Below w.heap.size w w' := by
  have cca := fun w => clean_l a (by omega) w
  have ccb := fun w => clean_l b (by omega) w
  have hA := M.clean_most a
  have hB := M.clean_most b
  have caA := fun w => absolute_l (M.clean a) w
  have caB := fun w => absolute_l (M.clean b) w
  have ci := fun w => inside_l (M.clean a) (M.clean b) (by omega) w
  have cb := fun w => below_l (M.clean a) [] (by omega) (by simp) w
  have cp := fun w => Tryd.strings_TrimPrefix ⟨(M.clean b).toArray⟩ ⟨(M.below (M.clean a) []).toArray⟩ w
  rw [show (⟨(M.clean b).toArray⟩ : ByteArray).data.toList = M.clean b from rfl, show (⟨(M.below (M.clean a) []).toArray⟩ : ByteArray).data.toList = M.below (M.clean a) [] from rfl] at cp
  clear hA hB ha hb
  by_cases h : M.relOk a b
  · rw [decide_eq_true h, M.rel1_yes h]
    obtain ⟨h1, h2, h3⟩ := h
    rw [h1] at caA
    rw [h2] at caB
    rw [h3] at ci
    clear h1 h2 h3
    by_cases he : M.clean b = M.clean a
    · rw [M.relTo, if_pos he]
      rw [he] at ccb caB ci cp
      clear caB
      generalize M.clean a = A at cca ccb caA ci cb cp
      clear he cp cb
      go_enter Tryd.func7, Tryd.ntmps7
      go_wp2_with (first
        | (go_at_call 11; first | (refine (cca _).mono ?_; clear cca; rintro e w1 ⟨rfl, hb1⟩) | (refine (ccb _).mono ?_; rintro e w2 ⟨rfl, hb2⟩))
        | (go_at_call 19; refine (caA _).mono ?_; rintro e w9 ⟨rfl, hw9⟩; obtain rfl := hw9.symm)
        | (go_at_call 15; refine (ci _).mono ?_; rintro e w9 ⟨rfl, hw9⟩; obtain rfl := hw9.symm))
      go_ret2
      exact ⟨rfl, hb1.trans (hb2.mono hb1.size)⟩
    · rw [M.relTo, if_neg he]
      have he' : (M.clean b == M.clean a) = false := by simpa using he
      generalize Lib.trimPrefix (M.clean b) (M.below (M.clean a) []) = r at cp ⊢
      generalize M.below (M.clean a) [] = bl at cp cb
      generalize M.clean a = A at *
      generalize M.clean b = B at *
      go_enter Tryd.func7, Tryd.ntmps7
      go_wp2_with (first
        | (go_at_call 11; first | (refine (cca _).mono ?_; clear cca; rintro e w1 ⟨rfl, hb1⟩) | (refine (ccb _).mono ?_; rintro e w2 ⟨rfl, hb2⟩))
        | (go_at_call 19; first | (refine (caA _).mono ?_; clear caA; rintro e w9 ⟨rfl, hw9⟩; obtain rfl := hw9.symm) | (refine (caB _).mono ?_; rintro e w9 ⟨rfl, hw9⟩; obtain rfl := hw9.symm))
        | (go_at_call 15; refine (ci _).mono ?_; rintro e w9 ⟨rfl, hw9⟩; obtain rfl := hw9.symm)
        | (go_at_call 17; refine (cb _).mono ?_; rintro e w9 ⟨rfl, hw9⟩; obtain rfl := hw9.symm)
        | (go_at_call 20; refine (cp _).mono ?_; rintro e w9 ⟨rfl, hw9⟩; obtain rfl := hw9.symm))
      go_ret2
      exact ⟨rfl, hb1.trans (hb2.mono hb1.size)⟩
  · rw [decide_eq_false h, M.rel1_no h]
    clear cp cb
    by_cases h1 : M.abs (M.clean a) = true
    · by_cases h2 : M.abs (M.clean b) = true
      · have h3 : M.inside (M.clean a) (M.clean b) = false := by
          cases hi : M.inside (M.clean a) (M.clean b) with
          | false => rfl
          | true => exact absurd ⟨h1, h2, hi⟩ h
        rw [h1] at caA
        rw [h2] at caB
        rw [h3] at ci
        clear h1 h2 h3 h
        generalize M.clean a = A at *
        generalize M.clean b = B at *
        go_enter Tryd.func7, Tryd.ntmps7
        go_wp2_with (first
          | (go_at_call 11; first | (refine (cca _).mono ?_; clear cca; rintro e w1 ⟨rfl, hb1⟩) | (refine (ccb _).mono ?_; rintro e w2 ⟨rfl, hb2⟩))
          | (go_at_call 19; first | (refine (caA _).mono ?_; clear caA; rintro e w9 ⟨rfl, hw9⟩; obtain rfl := hw9.symm) | (refine (caB _).mono ?_; rintro e w9 ⟨rfl, hw9⟩; obtain rfl := hw9.symm))
          | (go_at_call 15; refine (ci _).mono ?_; rintro e w9 ⟨rfl, hw9⟩; obtain rfl := hw9.symm))
        go_ret2
        exact ⟨rfl, hb1.trans (hb2.mono hb1.size)⟩
      · rw [h1] at caA
        rw [show M.abs (M.clean b) = false by simpa using h2] at caB
        clear h1 h2 h ci
        generalize M.clean a = A at *
        generalize M.clean b = B at *
        go_enter Tryd.func7, Tryd.ntmps7
        go_wp2_with (first
          | (go_at_call 11; first | (refine (cca _).mono ?_; clear cca; rintro e w1 ⟨rfl, hb1⟩) | (refine (ccb _).mono ?_; rintro e w2 ⟨rfl, hb2⟩))
          | (go_at_call 19; first | (refine (caA _).mono ?_; clear caA; rintro e w9 ⟨rfl, hw9⟩; obtain rfl := hw9.symm) | (refine (caB _).mono ?_; rintro e w9 ⟨rfl, hw9⟩; obtain rfl := hw9.symm)))
        go_ret2
        exact ⟨rfl, hb1.trans (hb2.mono hb1.size)⟩
    · rw [show M.abs (M.clean a) = false by simpa using h1] at caA
      clear h1 h ci caB
      generalize M.clean a = A at *
      generalize M.clean b = B at *
      go_enter Tryd.func7, Tryd.ntmps7
      go_wp2_with (first
        | (go_at_call 11; first | (refine (cca _).mono ?_; clear cca; rintro e w1 ⟨rfl, hb1⟩) | (refine (ccb _).mono ?_; rintro e w2 ⟨rfl, hb2⟩))
        | (go_at_call 19; refine (caA _).mono ?_; rintro e w9 ⟨rfl, hw9⟩; obtain rfl := hw9.symm))
      go_ret2
      exact ⟨rfl, hb1.trans (hb2.mono hb1.size)⟩
end Go.Proofs.YtfdjgbonjenldaaDoor
