/-
  What the reference's Bare does.
-/
import Derived.Test.YtjdccfegmllphaaGreatDoorIrlines
namespace Go.Proofs.YtjdccfegmllphaaGreatDoor.I
open Go.RowKit Go.Shelf

def es (cr : Bool) : List UInt8 := if cr then edges else blanks
theorem es_32 (cr : Bool) {c : UInt8} (h : c.toNat = 32) : (es cr).contains c = true := by
  have : c = 32 := UInt8.toNat_inj.1 h
  subst this; cases cr <;> decide
theorem es_9 (cr : Bool) {c : UInt8} (h : c.toNat = 9) : (es cr).contains c = true := by
  have : c = 9 := UInt8.toNat_inj.1 h
  subst this; cases cr <;> decide
theorem es_13 {c : UInt8} (h : c.toNat = 13) : (es true).contains c = true := by
  have : c = 13 := UInt8.toNat_inj.1 h
  subst this; decide
theorem es_other {cr : Bool} {c : UInt8} (h1 : ¬ c.toNat = 32) (h2 : ¬ c.toNat = 9) (h3 : cr = true → ¬ c.toNat = 13) : (es cr).contains c = false := by
  cases hc : (es cr).contains c with
  | false => rfl
  | true =>
    have hm := List.contains_iff_mem.1 hc
    cases cr
    · simp [es, blanks] at hm
      rcases hm with rfl | rfl <;> simp at h1 h2
    · simp [es, edges] at hm
      rcases hm with rfl | rfl | rfl <;> simp at h1 h2 h3
theorem head_tail {t : ByteArray} (h : 0 < t.size) : t.data.toList = t[0]'h :: (t.extract 1 t.size).data.toList := by
  have h1 := drop_cons t 0 h
  rw [List.drop_zero] at h1
  rw [Lib.extract_data, List.take_of_length_le (by rw [List.length_drop, ← Lib.size_eq]; omega)]
  exact h1
theorem left_step {t : ByteArray} {cs : List UInt8} (h : 0 < t.size) (hc : cs.contains (t[0]'h) = true) : Lib.trimLeftS t.data.toList cs = Lib.trimLeftS (t.extract 1 t.size).data.toList cs := by
  conv => lhs; rw [head_tail h]
  rw [left_cons, if_pos hc]
theorem left_stop {t : ByteArray} {cs : List UInt8} (h : 0 < t.size) (hc : cs.contains (t[0]'h) = false) : Lib.trimLeftS t.data.toList cs = t.data.toList := by
  conv => lhs; rw [head_tail h]
  rw [left_cons, hc]
  exact (head_tail h).symm
theorem data_nil {t : ByteArray} (h : t.size = 0) : t.data.toList = [] := List.eq_nil_of_length_eq_zero (by rw [← Lib.size_eq]; exact h)
theorem left_empty {t : ByteArray} {cs : List UInt8} (h : t.size = 0) : Lib.trimLeftS t.data.toList cs = t.data.toList := by rw [data_nil h]; rfl
theorem right_empty {t : ByteArray} {cs : List UInt8} (h : t.size = 0) : Lib.trimRightS t.data.toList cs = t.data.toList := by rw [data_nil h]; rfl
theorem take_last (t : ByteArray) (m : Nat) (hm : t.size = m + 1) : t.data.toList = (t.extract 0 m).data.toList ++ [t[m]'(by omega)] := by
  have h := take_snoc t m (by omega)
  rw [Lib.extract_upto]
  rw [List.take_of_length_le (by rw [← Lib.size_eq]; omega)] at h
  exact h
theorem right_step {t : ByteArray} {cs : List UInt8} {m : Nat} (hm : t.size = m + 1) (hc : cs.contains (t[m]'(by omega)) = true) : Lib.trimRightS t.data.toList cs = Lib.trimRightS (t.extract 0 m).data.toList cs := by
  conv => lhs; rw [take_last t m hm]
  rw [right_snoc, if_pos hc]
theorem right_stop {t : ByteArray} {cs : List UInt8} {m : Nat} (hm : t.size = m + 1) (hc : cs.contains (t[m]'(by omega)) = false) : Lib.trimRightS t.data.toList cs = t.data.toList := by
  conv => lhs; rw [take_last t m hm]
  rw [right_snoc, hc]
  exact (take_last t m hm).symm
theorem bare_end {s t u : ByteArray} {cs : List UInt8} (h1 : Lib.trimLeftS t.data.toList cs = Lib.trimLeftS s.data.toList cs) (h2 : Lib.trimLeftS t.data.toList cs = t.data.toList)
    (h3 : Lib.trimRightS u.data.toList cs = Lib.trimRightS t.data.toList cs) (h4 : Lib.trimRightS u.data.toList cs = u.data.toList) : u = ⟨(Lib.trimS s.data.toList cs).toArray⟩ := by
  rw [← trim_comm, ← h1, h2, ← h3, h4, Array.toArray_toList]

set_option maxHeartbeats 4000000 in
theorem bare_true (s : ByteArray) (hs : s.size ≤ 10000) (w : World) :
    Calls Tryz.prog 41 #[.string s, .bool true] w fun e w' => e = .returned (.string ⟨(Lib.trimS s.data.toList (es true)).toArray⟩) ∧ w' = w := by
  go_enter Tryz.func41, Tryz.ntmps41
  go_wp2
  go_loop [0] (fun v => ∃ t : ByteArray, v = .string t ∧ t.size ≤ 10000 ∧ Lib.trimLeftS t.data.toList (es true) = Lib.trimLeftS s.data.toList (es true)) (fun v => strSize v)
  case atStart => exact ⟨s, rfl, hs, rfl⟩
  case round =>
    obtain ⟨t, rfl, hts, htl⟩ := hrel
    have HTL := Lib.hid htl; clear htl
    by_cases ht0 : t.size = 0
    · have HST : Hid (Lib.trimLeftS t.data.toList (es true) = t.data.toList) := Lib.hid (left_empty ht0)
      have hz : ¬ (0 : Int) < t.size := by omega
      go_wp2
      go_loop [0] (fun v => ∃ u : ByteArray, v = .string u ∧ u.size ≤ 10000 ∧ Lib.trimRightS u.data.toList (es true) = Lib.trimRightS t.data.toList (es true)) (fun v => strSize v)
      case atStart => exact ⟨t, rfl, hts, rfl⟩
      case round =>
        obtain ⟨u, rfl, hus, hur⟩ := hrel
        have HU := Lib.hid hur; clear hur
        by_cases hu0 : u.size = 0
        · have HE := Lib.hid (bare_end HTL.out HST.out HU.out (right_empty hu0))
          have hz2 : ¬ (0 : Int) < u.size := by omega
          go_wp2
          go_ret
          exact ⟨by rw [← HE.out]; rfl, rfl⟩
        obtain ⟨m, hm⟩ : ∃ m, u.size = m + 1 := ⟨u.size - 1, by omega⟩
        have hmi : (u.size : Int) - 1 = m := by omega
        have hmt : m < u.size := by omega
        have hz2 : (0 : Int) < u.size := by omega
        have HZ : Hid ((u.extract 0 m).size = m) := Lib.hid (by simp; omega)
        have HM := Lib.hid hm
        by_cases hc32 : (u[m]'hmt).toNat = 32
        · have HS := Lib.hid (right_step hm (es_32 true hc32))
          clear hm hu0
          go_wp2
          go_round
          case rel => exact ⟨u.extract 0 m, by simp, by rw [HZ.out]; omega, by rw [← HS.out]; exact HU.out⟩
          case measure => simp [strSize]; omega
        have nb32 : ((((u[m]'hmt).toNat : Nat) : Int) == 32) = false := by rw [beq_eq_false_iff_ne]; omega
        by_cases hc9 : (u[m]'hmt).toNat = 9
        · have HS := Lib.hid (right_step hm (es_9 true hc9))
          clear hm hu0
          go_wp2
          go_round
          case rel => exact ⟨u.extract 0 m, by simp, by rw [HZ.out]; omega, by rw [← HS.out]; exact HU.out⟩
          case measure => simp [strSize]; omega
        have nb9 : ((((u[m]'hmt).toNat : Nat) : Int) == 9) = false := by rw [beq_eq_false_iff_ne]; omega
        by_cases hc13 : (u[m]'hmt).toNat = 13
        · have HS := Lib.hid (right_step hm (es_13 hc13))
          clear hm hu0
          go_wp2
          go_round
          case rel => exact ⟨u.extract 0 m, by simp, by rw [HZ.out]; omega, by rw [← HS.out]; exact HU.out⟩
          case measure => simp [strSize]; omega
        have nb13 : ((((u[m]'hmt).toNat : Nat) : Int) == 13) = false := by rw [beq_eq_false_iff_ne]; omega
        have HE := Lib.hid (bare_end HTL.out HST.out HU.out (right_stop hm (es_other hc32 hc9 (fun _ => hc13))))
        clear hm hu0
        go_wp2
        go_ret
        exact ⟨by rw [← HE.out]; rfl, rfl⟩
    have hz : (0 : Int) < t.size := by omega
    have hp : 0 < t.size := by omega
    have h1t : (1 : Int) ≤ t.size := by omega
    have HZ : Hid ((t.extract 1 t.size).size = t.size - 1) := Lib.hid (by simp)
    by_cases hc32 : (t[0]'hp).toNat = 32
    · have HS := Lib.hid (left_step hp (es_32 true hc32))
      clear ht0
      go_wp2
      go_round
      case rel => exact ⟨t.extract 1 t.size, by simp, by rw [HZ.out]; omega, by rw [← HS.out]; exact HTL.out⟩
      case measure => simp [strSize]; omega
    have na32 : ((((t[0]'hp).toNat : Nat) : Int) == 32) = false := by rw [beq_eq_false_iff_ne]; omega
    by_cases hc9 : (t[0]'hp).toNat = 9
    · have HS := Lib.hid (left_step hp (es_9 true hc9))
      clear ht0
      go_wp2
      go_round
      case rel => exact ⟨t.extract 1 t.size, by simp, by rw [HZ.out]; omega, by rw [← HS.out]; exact HTL.out⟩
      case measure => simp [strSize]; omega
    have na9 : ((((t[0]'hp).toNat : Nat) : Int) == 9) = false := by rw [beq_eq_false_iff_ne]; omega
    by_cases hc13 : (t[0]'hp).toNat = 13
    · have HS := Lib.hid (left_step hp (es_13 hc13))
      clear ht0
      go_wp2
      go_round
      case rel => exact ⟨t.extract 1 t.size, by simp, by rw [HZ.out]; omega, by rw [← HS.out]; exact HTL.out⟩
      case measure => simp [strSize]; omega
    have na13 : ((((t[0]'hp).toNat : Nat) : Int) == 13) = false := by rw [beq_eq_false_iff_ne]; omega
    have HST : Hid (Lib.trimLeftS t.data.toList (es true) = t.data.toList) := Lib.hid (left_stop hp (es_other hc32 hc9 (fun _ => hc13)))
    clear ht0
    go_wp2
    clear na32 na9 hc32 hc9 na13 hc13
    go_loop [0] (fun v => ∃ u : ByteArray, v = .string u ∧ u.size ≤ 10000 ∧ Lib.trimRightS u.data.toList (es true) = Lib.trimRightS t.data.toList (es true)) (fun v => strSize v)
    case atStart => exact ⟨t, rfl, hts, rfl⟩
    case round =>
      obtain ⟨u, rfl, hus, hur⟩ := hrel
      have HU := Lib.hid hur; clear hur
      by_cases hu0 : u.size = 0
      · have HE := Lib.hid (bare_end HTL.out HST.out HU.out (right_empty hu0))
        have hz2 : ¬ (0 : Int) < u.size := by omega
        go_wp2
        go_ret
        exact ⟨by rw [← HE.out]; rfl, rfl⟩
      obtain ⟨m, hm⟩ : ∃ m, u.size = m + 1 := ⟨u.size - 1, by omega⟩
      have hmi : (u.size : Int) - 1 = m := by omega
      have hmt : m < u.size := by omega
      have hz2 : (0 : Int) < u.size := by omega
      have HZ : Hid ((u.extract 0 m).size = m) := Lib.hid (by simp; omega)
      have HM := Lib.hid hm
      by_cases hc32 : (u[m]'hmt).toNat = 32
      · have HS := Lib.hid (right_step hm (es_32 true hc32))
        clear hm hu0
        go_wp2
        go_round
        case rel => exact ⟨u.extract 0 m, by simp, by rw [HZ.out]; omega, by rw [← HS.out]; exact HU.out⟩
        case measure => simp [strSize]; omega
      have nb32 : ((((u[m]'hmt).toNat : Nat) : Int) == 32) = false := by rw [beq_eq_false_iff_ne]; omega
      by_cases hc9 : (u[m]'hmt).toNat = 9
      · have HS := Lib.hid (right_step hm (es_9 true hc9))
        clear hm hu0
        go_wp2
        go_round
        case rel => exact ⟨u.extract 0 m, by simp, by rw [HZ.out]; omega, by rw [← HS.out]; exact HU.out⟩
        case measure => simp [strSize]; omega
      have nb9 : ((((u[m]'hmt).toNat : Nat) : Int) == 9) = false := by rw [beq_eq_false_iff_ne]; omega
      by_cases hc13 : (u[m]'hmt).toNat = 13
      · have HS := Lib.hid (right_step hm (es_13 hc13))
        clear hm hu0
        go_wp2
        go_round
        case rel => exact ⟨u.extract 0 m, by simp, by rw [HZ.out]; omega, by rw [← HS.out]; exact HU.out⟩
        case measure => simp [strSize]; omega
      have nb13 : ((((u[m]'hmt).toNat : Nat) : Int) == 13) = false := by rw [beq_eq_false_iff_ne]; omega
      have HE := Lib.hid (bare_end HTL.out HST.out HU.out (right_stop hm (es_other hc32 hc9 (fun _ => hc13))))
      clear hm hu0
      go_wp2
      go_ret
      exact ⟨by rw [← HE.out]; rfl, rfl⟩

set_option maxHeartbeats 4000000 in
theorem bare_false (s : ByteArray) (hs : s.size ≤ 10000) (w : World) :
    Calls Tryz.prog 41 #[.string s, .bool false] w fun e w' => e = .returned (.string ⟨(Lib.trimS s.data.toList (es false)).toArray⟩) ∧ w' = w := by
  go_enter Tryz.func41, Tryz.ntmps41
  go_wp2
  go_loop [0] (fun v => ∃ t : ByteArray, v = .string t ∧ t.size ≤ 10000 ∧ Lib.trimLeftS t.data.toList (es false) = Lib.trimLeftS s.data.toList (es false)) (fun v => strSize v)
  case atStart => exact ⟨s, rfl, hs, rfl⟩
  case round =>
    obtain ⟨t, rfl, hts, htl⟩ := hrel
    have HTL := Lib.hid htl; clear htl
    by_cases ht0 : t.size = 0
    · have HST : Hid (Lib.trimLeftS t.data.toList (es false) = t.data.toList) := Lib.hid (left_empty ht0)
      have hz : ¬ (0 : Int) < t.size := by omega
      go_wp2
      go_loop [0] (fun v => ∃ u : ByteArray, v = .string u ∧ u.size ≤ 10000 ∧ Lib.trimRightS u.data.toList (es false) = Lib.trimRightS t.data.toList (es false)) (fun v => strSize v)
      case atStart => exact ⟨t, rfl, hts, rfl⟩
      case round =>
        obtain ⟨u, rfl, hus, hur⟩ := hrel
        have HU := Lib.hid hur; clear hur
        by_cases hu0 : u.size = 0
        · have HE := Lib.hid (bare_end HTL.out HST.out HU.out (right_empty hu0))
          have hz2 : ¬ (0 : Int) < u.size := by omega
          go_wp2
          go_ret
          exact ⟨by rw [← HE.out]; rfl, rfl⟩
        obtain ⟨m, hm⟩ : ∃ m, u.size = m + 1 := ⟨u.size - 1, by omega⟩
        have hmi : (u.size : Int) - 1 = m := by omega
        have hmt : m < u.size := by omega
        have hz2 : (0 : Int) < u.size := by omega
        have HZ : Hid ((u.extract 0 m).size = m) := Lib.hid (by simp; omega)
        have HM := Lib.hid hm
        by_cases hc32 : (u[m]'hmt).toNat = 32
        · have HS := Lib.hid (right_step hm (es_32 false hc32))
          clear hm hu0
          go_wp2
          go_round
          case rel => exact ⟨u.extract 0 m, by simp, by rw [HZ.out]; omega, by rw [← HS.out]; exact HU.out⟩
          case measure => simp [strSize]; omega
        have nb32 : ((((u[m]'hmt).toNat : Nat) : Int) == 32) = false := by rw [beq_eq_false_iff_ne]; omega
        by_cases hc9 : (u[m]'hmt).toNat = 9
        · have HS := Lib.hid (right_step hm (es_9 false hc9))
          clear hm hu0
          go_wp2
          go_round
          case rel => exact ⟨u.extract 0 m, by simp, by rw [HZ.out]; omega, by rw [← HS.out]; exact HU.out⟩
          case measure => simp [strSize]; omega
        have nb9 : ((((u[m]'hmt).toNat : Nat) : Int) == 9) = false := by rw [beq_eq_false_iff_ne]; omega
        have HE := Lib.hid (bare_end HTL.out HST.out HU.out (right_stop hm (es_other hc32 hc9 (fun e => by cases e))))
        clear hm hu0
        go_wp2
        go_ret
        exact ⟨by rw [← HE.out]; rfl, rfl⟩
    have hz : (0 : Int) < t.size := by omega
    have hp : 0 < t.size := by omega
    have h1t : (1 : Int) ≤ t.size := by omega
    have HZ : Hid ((t.extract 1 t.size).size = t.size - 1) := Lib.hid (by simp)
    by_cases hc32 : (t[0]'hp).toNat = 32
    · have HS := Lib.hid (left_step hp (es_32 false hc32))
      clear ht0
      go_wp2
      go_round
      case rel => exact ⟨t.extract 1 t.size, by simp, by rw [HZ.out]; omega, by rw [← HS.out]; exact HTL.out⟩
      case measure => simp [strSize]; omega
    have na32 : ((((t[0]'hp).toNat : Nat) : Int) == 32) = false := by rw [beq_eq_false_iff_ne]; omega
    by_cases hc9 : (t[0]'hp).toNat = 9
    · have HS := Lib.hid (left_step hp (es_9 false hc9))
      clear ht0
      go_wp2
      go_round
      case rel => exact ⟨t.extract 1 t.size, by simp, by rw [HZ.out]; omega, by rw [← HS.out]; exact HTL.out⟩
      case measure => simp [strSize]; omega
    have na9 : ((((t[0]'hp).toNat : Nat) : Int) == 9) = false := by rw [beq_eq_false_iff_ne]; omega
    have HST : Hid (Lib.trimLeftS t.data.toList (es false) = t.data.toList) := Lib.hid (left_stop hp (es_other hc32 hc9 (fun e => by cases e)))
    clear ht0
    go_wp2
    clear na32 na9 hc32 hc9
    go_loop [0] (fun v => ∃ u : ByteArray, v = .string u ∧ u.size ≤ 10000 ∧ Lib.trimRightS u.data.toList (es false) = Lib.trimRightS t.data.toList (es false)) (fun v => strSize v)
    case atStart => exact ⟨t, rfl, hts, rfl⟩
    case round =>
      obtain ⟨u, rfl, hus, hur⟩ := hrel
      have HU := Lib.hid hur; clear hur
      by_cases hu0 : u.size = 0
      · have HE := Lib.hid (bare_end HTL.out HST.out HU.out (right_empty hu0))
        have hz2 : ¬ (0 : Int) < u.size := by omega
        go_wp2
        go_ret
        exact ⟨by rw [← HE.out]; rfl, rfl⟩
      obtain ⟨m, hm⟩ : ∃ m, u.size = m + 1 := ⟨u.size - 1, by omega⟩
      have hmi : (u.size : Int) - 1 = m := by omega
      have hmt : m < u.size := by omega
      have hz2 : (0 : Int) < u.size := by omega
      have HZ : Hid ((u.extract 0 m).size = m) := Lib.hid (by simp; omega)
      have HM := Lib.hid hm
      by_cases hc32 : (u[m]'hmt).toNat = 32
      · have HS := Lib.hid (right_step hm (es_32 false hc32))
        clear hm hu0
        go_wp2
        go_round
        case rel => exact ⟨u.extract 0 m, by simp, by rw [HZ.out]; omega, by rw [← HS.out]; exact HU.out⟩
        case measure => simp [strSize]; omega
      have nb32 : ((((u[m]'hmt).toNat : Nat) : Int) == 32) = false := by rw [beq_eq_false_iff_ne]; omega
      by_cases hc9 : (u[m]'hmt).toNat = 9
      · have HS := Lib.hid (right_step hm (es_9 false hc9))
        clear hm hu0
        go_wp2
        go_round
        case rel => exact ⟨u.extract 0 m, by simp, by rw [HZ.out]; omega, by rw [← HS.out]; exact HU.out⟩
        case measure => simp [strSize]; omega
      have nb9 : ((((u[m]'hmt).toNat : Nat) : Int) == 9) = false := by rw [beq_eq_false_iff_ne]; omega
      have HE := Lib.hid (bare_end HTL.out HST.out HU.out (right_stop hm (es_other hc32 hc9 (fun e => by cases e))))
      clear hm hu0
      go_wp2
      go_ret
      exact ⟨by rw [← HE.out]; rfl, rfl⟩
theorem bareT (l : List UInt8) (hl : l.length ≤ 10000) (w : World) : Calls Tryz.prog 41 #[.string ⟨l.toArray⟩, .bool true] w fun e w' => e = .returned (.string ⟨(bare l).toArray⟩) ∧ w' = w :=
  bare_true ⟨l.toArray⟩ (by rw [size_l]; exact hl) w
theorem bareF (s : ByteArray) (hs : s.size ≤ 10000) (w : World) : Calls Tryz.prog 41 #[.string s, .bool false] w fun e w' => e = .returned (.string ⟨(bare0 s.data.toList).toArray⟩) ∧ w' = w :=
  bare_false s hs w
end Go.Proofs.YtjdccfegmllphaaGreatDoor.I
