/-
  What the reference's Slash, Last and Same do.
-/
import Derived.Test.YtejiogopppjjoaaDoorRefc
namespace Go.Proofs.YtejiogopppjjoaaDoor
open Go.RowKit Go.Shelf

set_option maxHeartbeats 2000000 in
theorem refSlash_any (s : ByteArray) (hs : s.size ≤ 5000) (w : World) :
    Calls Tryd.prog 16 #[.string s] w fun e w' => e = .returned (.bool (M.slash s.data.toList)) ∧ Below w.heap.size w w' := by
  have cp := fun w => pieces_any s hs w
  have hlen : (M.pieces s.data.toList).length ≤ 5001 := by
    have := M.pieces_len s.data.toList
    rw [← Lib.size_eq] at this; omega
  obtain ⟨m, hm⟩ : ∃ m, (M.pieces s.data.toList).length = m + 1 := ⟨_, (Nat.succ_pred_eq_of_pos (M.pieces_pos _)).symm⟩
  have hlast := M.lastp_at s.data.toList
  unfold M.slash
  generalize M.pieces s.data.toList = ps at cp hlen hm hlast
  generalize M.lastp s.data.toList = p at hlast
  rw [hm, Nat.add_sub_cancel] at hlast
  rw [hm] at hlen
  have HM := Lib.hid hm; clear hm
  have HL := Lib.hid hlast; clear hlast
  have hml : m ≤ 5000 := by omega
  clear hlen
  by_cases h0 : p = []
  · subst h0
    go_enter Tryd.func16, Tryd.ntmps16
    go_wp2_with (go_at_call 24; refine (cp _).mono ?_; rintro e w1 ⟨v0, rfl, hT, hb1⟩; obtain ⟨g, cap, rfl⟩ := hT.form (by rw [HM.out]; omega); rw [HM.out] at hT ⊢; have hcell := hT.cell m _ HL.out; have HT := Lib.hid hT; clear hT)
    go_ret
    exact ⟨rfl, hb1⟩
  have h0' : p.isEmpty = false := by cases p <;> simp_all
  by_cases h1 : p = [46]
  · subst h1
    clear h0 h0'
    go_enter Tryd.func16, Tryd.ntmps16
    go_wp2_with (go_at_call 24; refine (cp _).mono ?_; rintro e w1 ⟨v0, rfl, hT, hb1⟩; obtain ⟨g, cap, rfl⟩ := hT.form (by rw [HM.out]; omega); rw [HM.out] at hT ⊢; have hcell := hT.cell m _ HL.out; have HT := Lib.hid hT; clear hT)
    go_ret
    exact ⟨rfl, hb1⟩
  have h1' : (p == [46]) = false := by simpa using h1
  have HD : Hid ((p == [] || M.dots p) = (p == [46, 46])) := Lib.hid (by simp [M.dots, h0, h1'])
  rw [HD.out]
  go_enter Tryd.func16, Tryd.ntmps16
  go_wp2_with (go_at_call 24; refine (cp _).mono ?_; rintro e w1 ⟨v0, rfl, hT, hb1⟩; obtain ⟨g, cap, rfl⟩ := hT.form (by rw [HM.out]; omega); rw [HM.out] at hT ⊢; have hcell := hT.cell m _ HL.out; have HT := Lib.hid hT; clear hT)
  go_ret
  exact ⟨rfl, hb1⟩

/-- what a slice of texts shows to one who reads it -/
def Reads (v : Value) (ps : List (List UInt8)) (w : World) : Prop := ∃ oa cap, v = .slice oa ps.length cap ∧ ∀ k p, ps[k]? = some p → ∃ g, oa = some ⟨g, 0, none⟩ ∧ w.cell? ⟨g, k, none⟩ = some (.string ⟨p.toArray⟩)
theorem Texts.reads {B : Nat} {v : Value} {ps : List (List UInt8)} {w : World} (h : Texts B v ps w) : Reads v ps w := by
  rcases h.forms with ⟨rfl, rfl⟩ | ⟨g, cap, rfl⟩
  · exact ⟨none, 0, rfl, by simp⟩
  · exact ⟨_, _, rfl, fun k p hk => ⟨g, rfl, h.cell k p hk⟩⟩

theorem same_step {xs ys : List (List UInt8)} {k : Nat} {p : List UInt8} (h : xs.take k = ys.take k) (h1 : xs[k]? = some p) (h2 : ys[k]? = some p) : xs.take (k + 1) = ys.take (k + 1) := by
  rw [List.take_add_one, List.take_add_one, h, h1, h2]

set_option maxHeartbeats 2000000 in
theorem same_any (a b : Value) (xs ys : List (List UInt8)) (hx : xs.length ≤ 10000) (w : World) (ha : Reads a xs w) (hb : Reads b ys w) :
    Calls Tryd.prog 13 #[a, b] w fun e w' => e = .returned (.bool (decide (xs = ys))) ∧ Below w.heap.size w w' := by
  have mixed : Tryd.prog.follows Departure.mixedOrders = true := by kernel_rfl
  obtain ⟨oa, ca, rfl, hca⟩ := ha
  obtain ⟨ob, cb, rfl, hcb⟩ := hb
  by_cases hl : xs.length = ys.length
  · have hl' : (xs.length : Int) = ys.length := by omega
    rw [← hl]
    go_enter Tryd.func13, Tryd.ntmps13
    go_wp2
    go_loopw [5] (fun i wr => ∃ k : Nat, k ≤ xs.length ∧ i = .int .i64 k ∧ xs.take k = ys.take k ∧ ∃ n, wr = w.drewN n) (fun i _ => xs.length - (intOf i).toNat)
    case atStart => exact ⟨0, Nat.zero_le _, rfl, rfl, 0, rfl⟩
    case round =>
      obtain ⟨k, hk, rfl, hsame, n, rfl⟩ := hrel
      by_cases hkl : k < xs.length
      · obtain ⟨p, hp⟩ : ∃ p, xs[k]? = some p := ⟨_, List.getElem?_eq_getElem hkl⟩
        obtain ⟨q, hq⟩ : ∃ q, ys[k]? = some q := ⟨_, List.getElem?_eq_getElem (by omega)⟩
        obtain ⟨g1, rfl, c1⟩ := hca k p hp
        obtain ⟨g2, rfl, c2⟩ := hcb k q hq
        have HS := Lib.hid hsame; have HP := Lib.hid hp; have HQ := Lib.hid hq
        clear hsame hp hq hca hcb
        by_cases hpq : p = q
        · subst hpq
          go_wp2
          go_region_o
          go_wp2
          go_roundw
          case rel => exact ⟨k + 1, by omega, by go_num, same_step HS.out HP.out HQ.out, n + 1, rfl⟩
          case measure => simp [intOf]; omega
        · have hne : (p == q) = false := by simpa using hpq
          have HN : Hid (¬ xs = ys) := Lib.hid (by rintro rfl; exact hpq (by rw [HP.out] at HQ; exact Option.some.inj HQ.out))
          go_wp2
          go_region_o
          go_wp2
          go_ret
          exact ⟨by rw [decide_eq_false HN.out]; rfl, (below_drewN (Below.refl _ _) n).drew⟩
      · have HE : Hid (xs = ys) := Lib.hid (by
          rw [List.take_of_length_le (by omega), List.take_of_length_le (by omega)] at hsame; exact hsame)
        clear hsame hca hcb
        go_wp2
        go_ret
        exact ⟨by rw [decide_eq_true HE.out]; rfl, below_drewN (Below.refl _ _) n⟩
  · have hl' : ¬ (xs.length : Int) = ys.length := by omega
    have HN : Hid (¬ xs = ys) := Lib.hid (by rintro rfl; exact hl rfl)
    clear hca hcb
    go_enter Tryd.func13, Tryd.ntmps13
    go_wp2
    go_ret
    exact ⟨by rw [decide_eq_false HN.out]; rfl, Below.refl _ _⟩

theorem take_last (t : ByteArray) (m : Nat) (hm : t.size = m + 1) : t.data.toList = (t.extract 0 m).data.toList ++ [t[m]'(by omega)] := by
  have h := take_snoc t m (by omega)
  rw [Lib.extract_upto]
  rw [List.take_of_length_le (by rw [← Lib.size_eq]; omega)] at h
  exact h
theorem trim_step {t : ByteArray} {m : Nat} (hm : t.size = m + 1) (hc : (t[m]'(by omega)).toNat = 47) : Lib.trimRightB t.data.toList 47 = Lib.trimRightB (t.extract 0 m).data.toList 47 := by
  have : t[m]'(by omega) = 47 := UInt8.toNat_inj.1 hc
  rw [take_last t m hm, this, M.trim_snoc]
theorem trim_stop {t : ByteArray} {m : Nat} (hm : t.size = m + 1) (hc : ¬ (t[m]'(by omega)).toNat = 47) : Lib.trimRightB t.data.toList 47 = t.data.toList := by
  have h := take_last t m hm
  generalize (t.extract 0 m).data.toList = l at h
  rw [h, M.trim_other]
  intro e; exact hc (by rw [e]; rfl)
theorem trim_empty {t : ByteArray} (h : t.size = 0) : Lib.trimRightB t.data.toList 47 = t.data.toList := by
  have : t.data.toList = [] := List.eq_nil_of_length_eq_zero (by rw [← Lib.size_eq]; exact h)
  rw [this, M.trim_nil]
theorem last_of {s t : ByteArray} (h1 : Lib.trimRightB t.data.toList 47 = Lib.trimRightB s.data.toList 47) (h2 : Lib.trimRightB t.data.toList 47 = t.data.toList) : M.last s.data.toList = if M.dots (M.lastp t.data.toList) then [] else M.lastp t.data.toList := by
  unfold M.last; rw [← h1, h2]

def strSize : Value → Nat | .string t => t.size | _ => 0
set_option maxHeartbeats 2000000 in
theorem refLast_any (s : ByteArray) (hs : s.size ≤ 5000) (w : World) :
    Calls Tryd.prog 18 #[.string s] w fun e w' => e = .returned (.string ⟨(M.last s.data.toList).toArray⟩) ∧ Below w.heap.size w w' := by
  obtain ⟨L, HL⟩ : ∃ L, Hid (M.last s.data.toList = L) := ⟨_, Lib.hid rfl⟩
  rw [HL.out]
  go_enter Tryd.func18, Tryd.ntmps18
  go_wp2
  go_loop [0] (fun v => ∃ t : ByteArray, v = .string t ∧ t.size ≤ 5000 ∧ Lib.trimRightB t.data.toList 47 = Lib.trimRightB s.data.toList 47) (fun v => strSize v)
  case atStart => exact ⟨s, rfl, hs, rfl⟩
  case round =>
    obtain ⟨t, rfl, hts, htr⟩ := hrel
    have HTR := Lib.hid htr; clear htr
    by_cases h0 : t.size = 0
    · have hlo := last_of HTR.out (trim_empty h0)
      have cp := fun w => pieces_any t hts w
      have hlen : (M.pieces t.data.toList).length ≤ 5001 := by
        have := M.pieces_len t.data.toList
        rw [← Lib.size_eq] at this; omega
      obtain ⟨k, hk⟩ : ∃ k, (M.pieces t.data.toList).length = k + 1 := ⟨_, (Nat.succ_pred_eq_of_pos (M.pieces_pos _)).symm⟩
      have hlast := M.lastp_at t.data.toList
      generalize M.pieces t.data.toList = ps at cp hlen hk hlast
      generalize M.lastp t.data.toList = p at hlast hlo
      have HLO := Lib.hid hlo; clear hlo
      rw [hk, Nat.add_sub_cancel] at hlast
      rw [hk] at hlen
      have HM := Lib.hid hk; clear hk
      have HP := Lib.hid hlast; clear hlast
      have hml : k ≤ 5000 := by omega
      clear hlen
      have hz : ¬ (0 : Int) < t.size := by omega
      by_cases h1 : p = [46]
      · subst h1
        go_wp2_with (go_at_call 24; refine (cp _).mono ?_; rintro e w1 ⟨v0, rfl, hT, hb1⟩; obtain ⟨g, cap, rfl⟩ := hT.form (by rw [HM.out]; omega); rw [HM.out] at hT ⊢; have hcell := hT.cell k _ HP.out; have HT := Lib.hid hT; clear hT)
        go_ret
        exact ⟨by rw [← HL.out, HLO.out]; rfl, hb1⟩
      have h1' : (p == [46]) = false := by simpa using h1
      by_cases h2 : p = [46, 46]
      · subst h2
        go_wp2_with (go_at_call 24; refine (cp _).mono ?_; rintro e w1 ⟨v0, rfl, hT, hb1⟩; obtain ⟨g, cap, rfl⟩ := hT.form (by rw [HM.out]; omega); rw [HM.out] at hT ⊢; have hcell := hT.cell k _ HP.out; have HT := Lib.hid hT; clear hT)
        go_ret
        exact ⟨by rw [← HL.out, HLO.out]; rfl, hb1⟩
      have h2' : (p == [46, 46]) = false := by simpa using h2
      have HD : Hid (M.dots p = false) := Lib.hid (by simp [M.dots, h1', h2'])
      go_wp2_with (go_at_call 24; refine (cp _).mono ?_; rintro e w1 ⟨v0, rfl, hT, hb1⟩; obtain ⟨g, cap, rfl⟩ := hT.form (by rw [HM.out]; omega); rw [HM.out] at hT ⊢; have hcell := hT.cell k _ HP.out; have HT := Lib.hid hT; clear hT)
      go_ret
      exact ⟨by rw [← HL.out, HLO.out, HD.out]; rfl, hb1⟩
    · obtain ⟨m, hm⟩ : ∃ m, t.size = m + 1 := ⟨t.size - 1, by omega⟩
      have hmi : (t.size : Int) - 1 = m := by omega
      have hmt : m < t.size := by omega
      have hz : (0 : Int) < t.size := by omega
      by_cases hc : (t[m]'hmt).toNat = 47
      · have HS := Lib.hid (trim_step hm hc)
        have HZ : Hid ((t.extract 0 m).size = m) := Lib.hid (by simp; omega)
        have HM := Lib.hid hm
        clear hm
        go_wp2
        go_round
        case rel => exact ⟨t.extract 0 m, by simp, by rw [HZ.out]; omega, by rw [← HS.out]; exact HTR.out⟩
        case measure => simp [strSize]; omega
      · have hlo := last_of HTR.out (trim_stop hm hc)
        have cp := fun w => pieces_any t hts w
        have hlen : (M.pieces t.data.toList).length ≤ 5001 := by
          have := M.pieces_len t.data.toList
          rw [← Lib.size_eq] at this; omega
        obtain ⟨k, hk⟩ : ∃ k, (M.pieces t.data.toList).length = k + 1 := ⟨_, (Nat.succ_pred_eq_of_pos (M.pieces_pos _)).symm⟩
        have hlast := M.lastp_at t.data.toList
        generalize M.pieces t.data.toList = ps at cp hlen hk hlast
        generalize M.lastp t.data.toList = p at hlast hlo
        have HLO := Lib.hid hlo; clear hlo
        rw [hk, Nat.add_sub_cancel] at hlast
        rw [hk] at hlen
        have HM := Lib.hid hk; clear hk
        have HP := Lib.hid hlast; clear hlast
        have hml : k ≤ 5000 := by omega
        clear hlen
        by_cases h1 : p = [46]
        · subst h1
          go_wp2_with (go_at_call 24; refine (cp _).mono ?_; rintro e w1 ⟨v0, rfl, hT, hb1⟩; obtain ⟨g, cap, rfl⟩ := hT.form (by rw [HM.out]; omega); rw [HM.out] at hT ⊢; have hcell := hT.cell k _ HP.out; have HT := Lib.hid hT; clear hT)
          go_ret
          exact ⟨by rw [← HL.out, HLO.out]; rfl, hb1⟩
        have h1' : (p == [46]) = false := by simpa using h1
        by_cases h2 : p = [46, 46]
        · subst h2
          go_wp2_with (go_at_call 24; refine (cp _).mono ?_; rintro e w1 ⟨v0, rfl, hT, hb1⟩; obtain ⟨g, cap, rfl⟩ := hT.form (by rw [HM.out]; omega); rw [HM.out] at hT ⊢; have hcell := hT.cell k _ HP.out; have HT := Lib.hid hT; clear hT)
          go_ret
          exact ⟨by rw [← HL.out, HLO.out]; rfl, hb1⟩
        have h2' : (p == [46, 46]) = false := by simpa using h2
        have HD : Hid (M.dots p = false) := Lib.hid (by simp [M.dots, h1', h2'])
        go_wp2_with (go_at_call 24; refine (cp _).mono ?_; rintro e w1 ⟨v0, rfl, hT, hb1⟩; obtain ⟨g, cap, rfl⟩ := hT.form (by rw [HM.out]; omega); rw [HM.out] at hT ⊢; have hcell := hT.cell k _ HP.out; have HT := Lib.hid hT; clear hT)
        go_ret
        exact ⟨by rw [← HL.out, HLO.out, HD.out]; rfl, hb1⟩
end Go.Proofs.YtejiogopppjjoaaDoor
