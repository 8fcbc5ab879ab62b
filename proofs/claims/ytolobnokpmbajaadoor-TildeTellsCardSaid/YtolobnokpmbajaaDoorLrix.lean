/-
  The law's own index.
-/
import Derived.Test.YtolobnokpmbajaaDoorLindex
namespace Go.Proofs.YtolobnokpmbajaaDoor.L
open Go.RowKit Go.Shelf

theorem bytes_of (l : List UInt8) : ∃ s : ByteArray, s = ⟨l.toArray⟩ ∧ s.data.toList = l ∧ s.size = l.length := ⟨_, rfl, rfl, size_l l⟩
theorem parse_nil : K.M.parse [] = none := by decide
theorem ix_short {b s : List UInt8} (h : s.length < b.length + 4) : ix b s = 0 := by
  by_cases hb : b = []
  · subst hb; exact ix_nil s
  · cases hm : mid b s with
    | none => exact ix_none hm
    | some d =>
      rw [ix_mid hb hm]
      have e := mid_some hm
      have hl : d.length = 0 := by
        have := congrArg List.length e
        simp at this; omega
      rw [List.eq_nil_of_length_eq_zero hl]
      exact ixOf_none parse_nil
theorem ix_other {b s : List UInt8} (h : s.take (b.length + 2) ≠ b ++ [46, 126]) : ix b s = 0 := by
  refine ix_none ?_
  unfold mid
  rw [if_neg]
  intro hp
  obtain ⟨r, rfl⟩ := List.isPrefixOf_iff_prefix.1 hp
  apply h
  rw [show b.length + 2 = (b ++ [46, 126]).length by simp, List.take_left]
theorem ix_open {b s : List UInt8} {c : UInt8} (hc : s.getLast? = some c) (h : c ≠ 126) : ix b s = 0 := by
  refine ix_none ?_
  cases hm : mid b s with
  | none => rfl
  | some d =>
    have e := mid_some hm
    rw [e, List.getLast?_append] at hc
    simp at hc
    exact absurd hc.symm h
theorem mid_is {b s : List UInt8} {m : Nat} (hm : s.length = m + 1) (hk : b.length + 2 ≤ m) (h1 : s.take (b.length + 2) = b ++ [46, 126]) (hc : s.getLast? = some 126) :
    mid b s = some ((s.drop (b.length + 2)).take (m - (b.length + 2))) := by
  obtain ⟨q, rfl⟩ := List.getLast?_eq_some_iff.1 hc
  have hq : q.length = m := by simp at hm; exact hm
  have e : ((q ++ [126]).drop (b.length + 2)).take (m - (b.length + 2)) = q.drop (b.length + 2) := by
    rw [List.drop_append_of_le_length (by omega), List.take_append_of_le_length (by simp; omega), List.take_of_length_le (by simp; omega)]
  rw [e]
  have e2 : q ++ [126] = ((b ++ [46, 126]) ++ q.drop (b.length + 2)) ++ [126] := by
    rw [List.take_append_of_le_length (by omega)] at h1
    rw [← h1, List.take_append_drop]
  rw [e2, mid_of]

set_option maxHeartbeats 4000000 in
theorem refIndex_any (b s : List UInt8) (hb : b.length ≤ 2000) (hs : s.length ≤ 2000) (w : World) :
    Calls Tryd.prog 26 #[.string ⟨b.toArray⟩, .string ⟨s.toArray⟩] w fun e w' => e = .returned (.int .i64 (ix b s)) ∧ Below w.heap.size w w' := by
  by_cases hb0 : b = []
  · subst hb0
    rw [ix_nil]
    go_enter Tryd.func26, Tryd.ntmps26
    go_wp2
    go_ret
    exact ⟨rfl, Below.refl _ _⟩
  have hbe : b.isEmpty = false := by cases b <;> simp_all
  by_cases hk : s.length < b.length + 4
  · have HI := Lib.hid (ix_short hk)
    have hk' : (s.length : Int) < (b.length : Int) + 2 + 2 := by omega
    clear hk hb0
    go_enter Tryd.func26, Tryd.ntmps26
    go_wp2
    go_ret
    exact ⟨by rw [HI.out]; rfl, Below.refl _ _⟩
  have hk' : ¬ (s.length : Int) < (b.length : Int) + 2 + 2 := by omega
  have a1 := fun w => add_ll b [46, 126] (by simp; omega) w
  obtain ⟨S, hS, hSd, hSz⟩ := bytes_of s
  obtain ⟨m, hm⟩ : ∃ m, s.length = m + 1 := ⟨s.length - 1, by omega⟩
  have hmS : m < S.size := by omega
  have hx : (S.extract 0 (b.length + 2)).toList = s.take (b.length + 2) := by rw [ByteArray.toList_eq, Lib.extract_upto, ← hSd]
  have hlast : s.getLast? = some (S[m]'hmS) := by
    rw [List.getLast?_eq_getElem?, show s.length - 1 = m by omega, ← hSd]
    simp [hmS]; rfl
  have hsz : (S.size : Int) - 1 = m := by omega
  have hk2 : ¬ (S.size : Int) < (b.length : Int) + 2 + 2 := by omega
  rw [← hS]
  clear hS
  by_cases h3 : s.take (b.length + 2) = b ++ [46, 126]
  · have hx' : ((S.extract 0 (b.length + 2)).toList == b ++ [46, 126]) = true := by rw [hx, h3]; exact beq_self_eq_true _
    by_cases h4 : (S[m]'hmS) = 126
    · have h4' : (S[m]'hmS).toNat = 126 := by rw [h4]; rfl
      rw [h4] at hlast
      have HM := Lib.hid (mid_is hm (by omega) h3 hlast)
      have HI := Lib.hid (ix_mid hb0 HM.out)
      obtain ⟨d, hd⟩ : ∃ d, (s.drop (b.length + 2)).take (m - (b.length + 2)) = d := ⟨_, rfl⟩
      rw [hd] at HI
      have hdx : S.extract (b.length + 2) m = ⟨d.toArray⟩ := by
        rw [← hd, ← hSd, Lib.extract_eq]
      clear hb0 HM hlast h3 hx h4 hd hk hk'
      cases hp : K.M.parse d with
      | none =>
        have HX := Lib.hid (ixOf_none hp)
        have cp := fun w => refParse_out (d := d) (n := 0) (b := false) (by rw [hp]; exact ⟨rfl, rfl⟩) w
        clear hp
        go_enter Tryd.func26, Tryd.ntmps26
        go_wp2_with (go_at_call 54; rw [hdx]; refine (cp _).mono ?_; rintro e w2 ⟨rfl, hb2⟩)
        go_ret
        exact ⟨by rw [HI.out, HX.out]; rfl, hb2⟩
      | some n =>
        have cp := fun w => refParse_out (d := d) (n := n) (b := true) (by rw [hp]; exact ⟨rfl, rfl⟩) w
        cases hv : vn n
        · have HX := Lib.hid (ixOf_no hp hv)
          have hr := vn_no hv
          clear hp hv
          go_enter Tryd.func26, Tryd.ntmps26
          go_wp2_with (go_at_call 54; rw [hdx]; refine (cp _).mono ?_; rintro e w2 ⟨rfl, hb2⟩)
          all_goals first
            | (go_ret; exact ⟨by rw [HI.out, HX.out]; rfl, hb2⟩)
            | omega
        · have HX := Lib.hid (ixOf_yes hp hv)
          have hr := vn_yes hv
          obtain ⟨hr1, hr2⟩ := hr
          clear hp hv
          go_enter Tryd.func26, Tryd.ntmps26
          go_wp2_with (go_at_call 54; rw [hdx]; refine (cp _).mono ?_; rintro e w2 ⟨rfl, hb2⟩)
          go_ret
          exact ⟨by rw [HI.out, HX.out]; rfl, hb2⟩
    · have HI := Lib.hid (ix_open (b := b) hlast h4)
      have h4i : (((S[m]'hmS).toNat : Int) != 126) = true := by
        have h4' : ¬ (S[m]'hmS).toNat = 126 := by intro e; exact h4 (UInt8.toNat_inj.1 (by rw [e]; rfl))
        simp; omega
      clear hb0 hlast h3 hx h4 hk hk'
      go_enter Tryd.func26, Tryd.ntmps26
      go_wp2
      go_ret
      exact ⟨by rw [HI.out]; rfl, Below.refl _ _⟩
  · have HI := Lib.hid (ix_other h3)
    have hx' : ((S.extract 0 (b.length + 2)).toList == b ++ [46, 126]) = false := by rw [hx]; simpa using h3
    clear hb0 hlast h3 hx hk hk'
    go_enter Tryd.func26, Tryd.ntmps26
    go_wp2
    go_ret
    exact ⟨by rw [HI.out]; rfl, Below.refl _ _⟩
end Go.Proofs.YtolobnokpmbajaaDoor.L
