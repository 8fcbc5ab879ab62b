/-
  What the reference's Group does.
-/
import Derived.Test.YtjdccfegmllphaaGreatDoorIrval
namespace Go.Proofs.YtjdccfegmllphaaGreatDoor.I
open Go.RowKit Go.Shelf

/-- the lines of the group as the reference gathers them -/
def grp : Bool → List (List UInt8) → List (List UInt8) → List (List UInt8) × Bool
  | b, out, [] => (out, b)
  | b, out, t :: ts =>
    if ok t = false then grp b out ts
    else if b = false ∧ t ≠ head then ([], false)
    else if b = true ∧ Lib.hasPrefix t [91] = true then (out, true)
    else grp true (if b then out ++ [t] else out) ts
theorem grp_skip {b : Bool} {out : List (List UInt8)} {t : List UInt8} (ts : List (List UInt8)) (h : ok t = false) : grp b out (t :: ts) = grp b out ts := by rw [grp, if_pos h]
theorem grp_none {out : List (List UInt8)} {t : List UInt8} (ts : List (List UInt8)) (h : ok t = true) (ht : t ≠ head) : grp false out (t :: ts) = ([], false) := by
  rw [grp, if_neg (by rw [h]; simp), if_pos ⟨rfl, ht⟩]
theorem grp_begin {out : List (List UInt8)} (ts : List (List UInt8)) : grp false out (head :: ts) = grp true out ts := by
  rw [grp, if_neg (by decide), if_neg (fun e => e.2 rfl), if_neg (fun e => by cases e.1)]; rfl
theorem grp_end {out : List (List UInt8)} {t : List UInt8} (ts : List (List UInt8)) (h : ok t = true) (ht : Lib.hasPrefix t [91] = true) : grp true out (t :: ts) = (out, true) := by
  rw [grp, if_neg (by rw [h]; simp), if_neg (fun e => by cases e.1), if_pos ⟨rfl, ht⟩]
theorem grp_more {out : List (List UInt8)} {t : List UInt8} (ts : List (List UInt8)) (h : ok t = true) (ht : Lib.hasPrefix t [91] = false) : grp true out (t :: ts) = grp true (out ++ [t]) ts := by
  rw [grp, if_neg (by rw [h]; simp), if_neg (fun e => by cases e.1), if_neg (by rw [ht]; simp), if_pos rfl]
theorem pre_at {T : ByteArray} (h : 0 < T.size) (c : UInt8) : Lib.hasPrefix T.data.toList [c] = decide ((T[0]'h).toNat = c.toNat) := by
  have h1 := drop_cons T 0 h
  rw [List.drop_zero] at h1
  rw [h1]
  by_cases hc : T[0]'h = c
  · rw [hc]; simp [Lib.hasPrefix]
  · have h2 : ¬ (T[0]'h).toNat = c.toNat := fun e => hc (UInt8.toNat_inj.1 e)
    have : (c == T[0]'h) = false := by rw [beq_eq_false_iff_ne]; exact fun e => hc e.symm
    simp [Lib.hasPrefix, List.isPrefixOf, this, h2]

set_option maxRecDepth 100000 in
set_option maxHeartbeats 4000000 in
theorem group_any (s : List UInt8) (hs : s.length ≤ 5000) (w : World) :
    Calls Tryz.prog 20 #[.string ⟨s.toArray⟩] w fun e w' => ∃ v, e = .returned (.tuple #[v, .bool (grp false [] ((lines s).map bare)).2]) ∧ Texts w.heap.size v (grp false [] ((lines s).map bare)).1 w' ∧ Below w.heap.size w w' := by
  obtain ⟨i0, hi, hz0, hz1, hz2⟩ := info_parts info9
  have cl := fun w => lines_any ⟨s.toArray⟩ (by rw [size_l]; exact hs) w
  rw [show (⟨s.toArray⟩ : ByteArray).data.toList = s from rfl] at cl
  have hlen : (lines s).length ≤ 5001 := by have := lines_len s; omega
  have hpos := lines_pos s
  have HLE : Hid (∀ p ∈ lines s, p.length ≤ 5000) := Lib.hid (fun p hp => by have := line_le hp; omega)
  generalize lines s = ls at cl hlen hpos HLE
  obtain ⟨G, HG⟩ : ∃ G, Hid (grp false [] (ls.map bare) = G) := ⟨_, Lib.hid rfl⟩
  rw [HG.out]
  go_enter Tryz.func20, Tryz.ntmps20
  go_wp2_with (go_at_call 40; refine (cl _).mono ?_; rintro e w1 ⟨v0, rfl, hT, hb1⟩; obtain ⟨g, cap, rfl⟩ := hT.form hpos)
  go_loopw [4, 5, 7] (fun v b i wr => ∃ (n : Nat) (bb : Bool) (out : List (List UInt8)), n ≤ ls.length ∧ i = .int .i64 n ∧ b = .bool bb ∧ out.length ≤ n ∧ grp bb out ((ls.drop n).map bare) = G ∧ Texts w1.heap.size v out wr ∧ Below w1.heap.size w1 wr) (fun _ _ i _ => ls.length - (intOf i).toNat)
  case atStart => exact ⟨0, false, [], Nat.zero_le _, rfl, rfl, Nat.zero_le _, HG.out, Texts.nil _ _, Below.refl _ _⟩
  case round =>
    obtain ⟨n, bb, out, hn, rfl, rfl, hon, hgr, hown, hb⟩ := hrel
    have HB1 := Lib.hid hb1
    clear hb1
    by_cases hlt : n < ls.length
    · obtain ⟨p, hp⟩ : ∃ p, ls[n]? = some p := ⟨_, List.getElem?_eq_getElem hlt⟩
      have hcell := (hT.below hb).cell n p hp
      have HT := Lib.hid hT; clear hT
      have hdrop : (ls.drop n).map bare = bare p :: (ls.drop (n + 1)).map bare := by
        rw [List.drop_eq_getElem_cons hlt]
        rw [List.getElem?_eq_getElem hlt] at hp
        rw [Option.some.inj hp, List.map_cons]
      have hpl : p.length ≤ 5000 := HLE.out p (List.mem_of_getElem? hp)
      have cb := fun w => bareT p (by omega) w
      rw [hdrop] at hgr
      obtain ⟨T, hTe⟩ : ∃ T : ByteArray, T = ⟨(bare p).toArray⟩ := ⟨_, rfl⟩
      rw [← hTe] at cb
      have hTd : T.data.toList = bare p := by rw [hTe]
      rw [← hTd] at hgr
      have HTL := Lib.hid (ByteArray.toList_eq T)
      have HZ := Lib.hid (Lib.size_eq T)
      have HGR := Lib.hid hgr
      have HO := Lib.hid hown
      clear hTe hTd hdrop hp hpl hgr
      by_cases h0 : T.size = 0
      · have hok : ok T.data.toList = false := by rw [data_nil h0]; rfl
        have HK := Lib.hid (HGR.out.symm.trans (grp_skip _ hok)).symm
        have ht0 : T.toList = [] := by rw [HTL.out, data_nil h0]
        clear hok hown h0
        go_wp2_with (go_at_call 41; refine (cb _).mono ?_; rintro e w2 ⟨rfl, hw2⟩; obtain rfl := hw2.symm)
        go_roundw
        case rel => exact ⟨n + 1, bb, out, by omega, by go_num, rfl, by omega, HK.out, HO.out, hb⟩
        case measure => simp [intOf]; omega
      have hp0 : 0 < T.size := by omega
      have ht0 : T.toList.isEmpty = false := by
        rw [HTL.out]
        cases hh : T.data.toList with
        | nil => exact absurd (by rw [HZ.out, hh]; rfl) h0
        | cons _ _ => rfl
      have hne : (T.data.toList == []) = false := by
        rw [beq_eq_false_iff_ne]; intro e; exact h0 (by rw [HZ.out, e]; rfl)
      by_cases h35 : (T[0]'hp0).toNat = 35
      · have hok : ok T.data.toList = false := by rw [ok, pre_at hp0, decide_eq_true (show (T[0]'hp0).toNat = (35 : UInt8).toNat from h35)]; simp
        have HK := Lib.hid (HGR.out.symm.trans (grp_skip _ hok)).symm
        clear hok hown h0 hne
        go_wp2_with (go_at_call 41; refine (cb _).mono ?_; rintro e w2 ⟨rfl, hw2⟩; obtain rfl := hw2.symm)
        go_roundw
        case rel => exact ⟨n + 1, bb, out, by omega, by go_num, rfl, by omega, HK.out, HO.out, hb⟩
        case measure => simp [intOf]; omega
      have hok : ok T.data.toList = true := by rw [ok, hne, pre_at hp0, decide_eq_false (show ¬ (T[0]'hp0).toNat = (35 : UInt8).toNat from h35)]; rfl
      have h35' : ((((T[0]'hp0).toNat : Nat) : Int) == 35) = false := by rw [beq_eq_false_iff_ne]; omega
      cases bb with
      | false =>
        by_cases hh : T.data.toList = head
        · have HK : Hid (grp true out ((ls.drop (n + 1)).map bare) = G) := Lib.hid (by
            have := HGR.out
            rw [hh, grp_begin] at this; exact this)
          have hth : T.toList = [91, 84, 114, 97, 115, 104, 32, 73, 110, 102, 111, 93] := by rw [HTL.out, hh]; rfl
          clear hok hown h0 hne hh
          go_wp2_with (go_at_call 41; refine (cb _).mono ?_; rintro e w2 ⟨rfl, hw2⟩; obtain rfl := hw2.symm)
          go_roundw
          case rel => exact ⟨n + 1, true, out, by omega, by go_num, rfl, by omega, HK.out, HO.out, hb⟩
          case measure => simp [intOf]; omega
        · have HK : Hid (G = ([], false)) := Lib.hid (by rw [← HGR.out, grp_none _ hok hh])
          have hth : (T.toList == [91, 84, 114, 97, 115, 104, 32, 73, 110, 102, 111, 93]) = false := by rw [beq_eq_false_iff_ne, HTL.out]; exact hh
          clear hok hown h0 hne hh
          go_wp2_with (go_at_call 41; refine (cb _).mono ?_; rintro e w2 ⟨rfl, hw2⟩; obtain rfl := hw2.symm)
          go_ret2
          rw [HK.out]
          exact ⟨_, rfl, Texts.nil _ _, HB1.out.trans (hb.mono HB1.out.size)⟩
      | true =>
        by_cases h91 : (T[0]'hp0).toNat = 91
        · have HK : Hid (G = (out, true)) := Lib.hid (by rw [← HGR.out, grp_end _ hok (by rw [pre_at hp0]; exact decide_eq_true h91)])
          clear hok hown h0 hne
          go_wp2_with (go_at_call 41; refine (cb _).mono ?_; rintro e w2 ⟨rfl, hw2⟩; obtain rfl := hw2.symm)
          go_ret2
          rw [HK.out]
          exact ⟨_, rfl, HO.out.mono HB1.out.size, HB1.out.trans (hb.mono HB1.out.size)⟩
        · have HK := Lib.hid (HGR.out.symm.trans (grp_more _ hok (by rw [pre_at hp0]; exact decide_eq_false h91))).symm
          have h91' : ((((T[0]'hp0).toNat : Nat) : Int) == 91) = false := by rw [beq_eq_false_iff_ne]; omega
          have HTS : Hid ((.string T : Value) = str T.data.toList) := Lib.hid (by unfold str; rw [Array.toArray_toList])
          unfold Texts at hown
          have hol : out.length ≤ 5001 := by omega
          clear hok h0 hne
          go_wp2_with (first
            | (go_at_call 41; refine (cb _).mono ?_; rintro e w2 ⟨rfl, hw2⟩; obtain rfl := hw2.symm)
            | (at_builtin; refine wpList_append_own _ rfl _ _ 48 rfl w1.heap.size 9 i0 (.string ⟨#[]⟩) 1 16 Tryz.underlying48 hi hz0 hz1 hz2 rfl (by decide) _ _ _ rfl (hown.alloc _) ⟨wr.heap.size, 0, none⟩ 1 1 [.string T] rfl rfl (cell_one_new _ _ _) (by simp [Value.oneCell']) (by unfold maxLen; omega) (by omega) (by have := hb.size; simp; omega) ?_; intro v' w3 hown' hgrow _))
          go_roundw
          case rel => exact ⟨n + 1, true, out ++ [T.data.toList], by omega, by go_num, rfl, by simp; omega, HK.out, Texts.snoc (by rw [← HTS.out]; exact hown'), (hb.alloc hb.size _).grown hgrow (by have := hb.size; simp; omega) (fun k hk => (hown.lt k hk).1)⟩
          case measure => simp [intOf]; omega
    · have HK : Hid (G = (out, bb)) := Lib.hid (by rw [← hgr, List.drop_of_length_le (by omega)]; rfl)
      have HT := Lib.hid hT; have HO := Lib.hid hown
      clear hgr hT hown
      go_wp2
      go_ret2
      rw [HK.out]
      exact ⟨_, rfl, HO.out.mono HB1.out.size, HB1.out.trans (hb.mono HB1.out.size)⟩
end Go.Proofs.YtjdccfegmllphaaGreatDoor.I
