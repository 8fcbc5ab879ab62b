/-
  What the reference's Value does.
-/
import Derived.Test.YtjdccfegmllphaaGreatDoorIrbare
namespace Go.Proofs.YtjdccfegmllphaaGreatDoor.I
open Go.RowKit Go.Shelf

/-- what a line tells of a key -/
def hit1 (key p : List UInt8) : Option (List UInt8) := if (Lib.cut p [61]).2.2 = true ∧ bare0 (Lib.cut p [61]).1 = key then some (bare0 (Lib.cut p [61]).2.1) else none
def value (key : List UInt8) : List (List UInt8) → Option (List UInt8)
  | [] => none
  | p :: ps => match hit1 key p with
    | some v => some v
    | none => value key ps
theorem value_hit {key p v : List UInt8} (ps : List (List UInt8)) (h : hit1 key p = some v) : value key (p :: ps) = some v := by rw [value, h]
theorem value_miss {key p : List UInt8} (ps : List (List UInt8)) (h : hit1 key p = none) : value key (p :: ps) = value key ps := by rw [value, h]
theorem hit1_no {key p : List UInt8} (h : (61 : UInt8) ∉ p) : hit1 key p = none := by
  rcases cut_one 61 p with ⟨h1, _⟩ | ⟨a, r, h1, h2, _, _⟩
  · unfold hit1; rw [h1]; rfl
  · exact absurd (by rw [h2]; simp) h
theorem hit1_at {key : List UInt8} {P : ByteArray} {m : Nat} (hm : m < P.size) (hc : (P[m]'hm).toNat = 61) (hn : (61 : UInt8) ∉ P.data.toList.take m) :
    hit1 key P.data.toList = if bare0 (P.extract 0 m).data.toList = key then some (bare0 (P.extract (m + 1) P.size).data.toList) else none := by
  have e1 : P.data.toList = P.data.toList.take m ++ 61 :: P.data.toList.drop (m + 1) := by
    have h61 : P[m]'hm = 61 := UInt8.toNat_inj.1 hc
    conv => lhs; rw [← List.take_append_drop m P.data.toList, drop_cons P m hm, h61]
  have e2 : Lib.cut P.data.toList [61] = (P.data.toList.take m, P.data.toList.drop (m + 1), true) := by
    conv => lhs; rw [e1]
    exact cut_app hn
  have e3 : (P.extract 0 m).data.toList = P.data.toList.take m := by rw [Lib.extract_upto]
  have e4 : (P.extract (m + 1) P.size).data.toList = P.data.toList.drop (m + 1) := by
    rw [Lib.extract_data, List.take_of_length_le (by rw [List.length_drop, ← Lib.size_eq]; omega)]
  unfold hit1
  rw [e2, e3, e4]
  by_cases h : bare0 (P.data.toList.take m) = key
  · rw [if_pos ⟨rfl, h⟩, if_pos h]
  · rw [if_neg (fun e => h e.2), if_neg h]
def ValuOut (o : Option (List UInt8)) (e : Ending) : Prop := e = .returned (.tuple #[.string ⟨(o.getD []).toArray⟩, .bool o.isSome])
theorem not_take {P : ByteArray} {m : Nat} (hm : m < P.size) (hc : ¬ (P[m]'hm).toNat = 61) (hn : (61 : UInt8) ∉ P.data.toList.take m) : (61 : UInt8) ∉ P.data.toList.take (m + 1) := by
  rw [take_snoc P m hm]
  simp only [List.mem_append, List.mem_singleton, not_or]
  exact ⟨hn, fun e => hc (by rw [← e]; rfl)⟩

set_option maxRecDepth 100000 in
set_option maxHeartbeats 4000000 in
theorem value_any (v : Value) (ps : List (List UInt8)) (key : List UInt8) (w : World) (hR : Reads v ps w) (hp : ∀ p ∈ ps, p.length ≤ 5000) (hl : ps.length ≤ 5001) :
    Calls Tryz.prog 21 #[v, .string ⟨key.toArray⟩] w fun e w' => ValuOut (value key ps) e ∧ w' = w := by
  obtain ⟨oa, cap, rfl, hcells⟩ := hR
  obtain ⟨O, HO⟩ : ∃ O, Hid (value key ps = O) := ⟨_, Lib.hid rfl⟩
  rw [HO.out]
  have HC := Lib.hid hcells; have HP := Lib.hid hp
  clear hcells hp
  go_enter Tryz.func21, Tryz.ntmps21
  go_wp2
  go_loop [6] (fun i => ∃ n : Nat, n ≤ ps.length ∧ i = .int .i64 n ∧ value key (ps.drop n) = O) (fun i => ps.length - (intOf i).toNat)
  case atStart => exact ⟨0, Nat.zero_le _, rfl, HO.out⟩
  case round =>
    obtain ⟨n, hn, rfl, hv⟩ := hrel
    have HV := Lib.hid hv; clear hv
    by_cases hlt : n < ps.length
    · obtain ⟨p, hp⟩ : ∃ p, ps[n]? = some p := ⟨_, List.getElem?_eq_getElem hlt⟩
      have hdrop : ps.drop n = p :: ps.drop (n + 1) := by
        rw [List.drop_eq_getElem_cons hlt]
        rw [List.getElem?_eq_getElem hlt] at hp
        rw [Option.some.inj hp]
      have hpl : p.length ≤ 5000 := HP.out p (List.mem_of_getElem? hp)
      obtain ⟨g, rfl, hcell⟩ := HC.out n p hp
      obtain ⟨P, hP⟩ : ∃ P : ByteArray, P = ⟨p.toArray⟩ := ⟨_, rfl⟩
      have hPs : P.size ≤ 5000 := by rw [hP, size_l]; exact hpl
      have hPd : P.data.toList = p := by rw [hP]
      rw [← hP] at hcell
      rw [hdrop] at HV
      rw [← hPd] at HV
      have HD := Lib.hid hPd
      clear hP hPd hdrop hp hpl
      go_wp2
      go_loop [7] (fun k => ∃ m : Nat, m ≤ P.size ∧ k = .int .i64 m ∧ (61 : UInt8) ∉ P.data.toList.take m) (fun k => P.size - (intOf k).toNat)
      case atStart => exact ⟨0, Nat.zero_le _, rfl, by simp⟩
      case round =>
        obtain ⟨m, hm, rfl, hno⟩ := hrel
        have HN := Lib.hid hno; clear hno
        by_cases hmt : m < P.size
        · by_cases hc : (P[m]'hmt).toNat = 61
          · have HH := Lib.hid (hit1_at (key := key) hmt hc HN.out)
            have c1 := fun w => bareF (P.extract 0 m) (by simp; omega) w
            have c2 := fun w => bareF (P.extract (m + 1) P.size) (by simp; omega) w
            have s1 : (m : Int) ≤ P.size := by omega
            have s2 : (m : Int) + 1 ≤ P.size := by omega
            have s3 : (0 : Int) ≤ (m : Int) + 1 := by omega
            generalize bare0 (P.extract 0 m).data.toList = kk at c1 HH
            generalize bare0 (P.extract (m + 1) P.size).data.toList = vv at c2 HH
            by_cases hk : kk = key
            · have HF := Lib.hid (HH.out.trans (if_pos hk))
              subst hk
              go_wp2_with (go_at_call 41; first | (refine (c1 _).mono ?_; clear c1; rintro e w1 ⟨rfl, hw1⟩; obtain rfl := hw1.symm) | (refine (c2 _).mono ?_; rintro e w1 ⟨rfl, hw1⟩; obtain rfl := hw1.symm))
              go_ret2
              exact ⟨by rw [← HV.out, value_hit _ HF.out]; rfl, rfl⟩
            · have HF := Lib.hid (HH.out.trans (if_neg hk))
              have hk' : (kk == key) = false := by rw [beq_eq_false_iff_ne]; exact hk
              clear hk c2
              go_wp2_with (go_at_call 41; refine (c1 _).mono ?_; rintro e w1 ⟨rfl, hw1⟩; obtain rfl := hw1.symm)
              go_round
              case rel => exact ⟨n + 1, by omega, by go_num, by rw [← HV.out, value_miss _ HF.out]⟩
              case measure => simp [intOf]; omega
          · have HS := Lib.hid (not_take hmt hc HN.out)
            have hc' : ((((P[m]'hmt).toNat : Nat) : Int) == 61) = false := by rw [beq_eq_false_iff_ne]; omega
            go_wp2
            go_round
            case rel => exact ⟨m + 1, by omega, by go_num, HS.out⟩
            case measure => simp [intOf]; omega
        · have HF : Hid (hit1 key P.data.toList = none) := Lib.hid (hit1_no (by
            have := HN.out
            rw [List.take_of_length_le (by simp; omega)] at this; exact this))
          go_wp2
          go_round
          case rel => exact ⟨n + 1, by omega, by go_num, by rw [← HV.out, value_miss _ HF.out]⟩
          case measure => simp [intOf]; omega
    · have HF : Hid (O = none) := Lib.hid (by
        have := HV.out
        rw [List.drop_of_length_le (by omega)] at this; exact this.symm)
      go_wp2
      go_ret2
      exact ⟨by rw [HF.out]; rfl, rfl⟩
end Go.Proofs.YtjdccfegmllphaaGreatDoor.I
