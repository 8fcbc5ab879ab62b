/-
  What the reference's Slash, Last and Same do.
-/
import Derived.Test.YtlceaecibjbeaaaGreatRefc
namespace Go.Proofs.YtlceaecibjbeaaaGreat.V
open Go.RowKit Go.Shelf

set_option maxRecDepth 100000 in
set_option maxHeartbeats 2000000 in
theorem refSlash_any (s : ByteArray) (hs : s.size ≤ 5000) (w : World) :
    Calls Tryz.prog 31 #[.string s] w fun e w' => e = .returned (.bool (M.slash s.data.toList)) ∧ Below w.heap.size w w' := by
  have cp := fun w => pieces_any s hs w
  have hlen : (M.pieces s.data.toList).length ≤ 5001 := by
    have := M.pieces_len s.data.toList
    rw [← Lib.size_eq] at this; omega
  obtain ⟨m, hm⟩ : ∃ m, (M.pieces s.data.toList).length = m + 1 := ⟨_, (Nat.succ_pred_eq_of_pos (M.pieces_pos _)).symm⟩
  have hlast := M.lastp_at s.data.toList
  unfold M.slash
  generalize M.pieces s.data.toList = ps at cp hlen hm hlast
  generalize M.lastp s.data.toList = p at hlast
  rw [hm, Nat.add_sub_cancel] at hlast
  rw [hm] at hlen
  have HM := Lib.hid hm; clear hm
  have HL := Lib.hid hlast; clear hlast
  have hml : m ≤ 5000 := by omega
  clear hlen
  by_cases h0 : p = []
  · subst h0
    go_enter Tryz.func31, Tryz.ntmps31
    go_wp2_with (go_at_call 69; refine (cp _).mono ?_; rintro e w1 ⟨v0, rfl, hT, hb1⟩; obtain ⟨g, cap, rfl⟩ := hT.form (by rw [HM.out]; omega); rw [HM.out] at hT ⊢; have hcell := hT.cell m _ HL.out; have HT := Lib.hid hT; clear hT)
    go_ret
    exact ⟨rfl, hb1⟩
  have h0' : p.isEmpty = false := by cases p <;> simp_all
  by_cases h1 : p = [46]
  · subst h1
    clear h0 h0'
    go_enter Tryz.func31, Tryz.ntmps31
    go_wp2_with (go_at_call 69; refine (cp _).mono ?_; rintro e w1 ⟨v0, rfl, hT, hb1⟩; obtain ⟨g, cap, rfl⟩ := hT.form (by rw [HM.out]; omega); rw [HM.out] at hT ⊢; have hcell := hT.cell m _ HL.out; have HT := Lib.hid hT; clear hT)
    go_ret
    exact ⟨rfl, hb1⟩
  have h1' : (p == [46]) = false := by simpa using h1
  have HD : Hid ((p == [] || M.dots p) = (p == [46, 46])) := Lib.hid (by simp [M.dots, h0, h1'])
  rw [HD.out]
  go_enter Tryz.func31, Tryz.ntmps31
  go_wp2_with (go_at_call 69; refine (cp _).mono ?_; rintro e w1 ⟨v0, rfl, hT, hb1⟩; obtain ⟨g, cap, rfl⟩ := hT.form (by rw [HM.out]; omega); rw [HM.out] at hT ⊢; have hcell := hT.cell m _ HL.out; have HT := Lib.hid hT; clear hT)
  go_ret
  exact ⟨rfl, hb1⟩

/-- what a slice of texts shows to one who reads it -/
def Reads (v : Value) (ps : List (List UInt8)) (w : World) : Prop := ∃ oa cap, v = .slice oa ps.length cap ∧ ∀ k p, ps[k]? = some p → ∃ g, oa = some ⟨g, 0, none⟩ ∧ w.cell? ⟨g, k, none⟩ = some (.string ⟨p.toArray⟩)
theorem Texts.reads {B : Nat} {v : Value} {ps : List (List UInt8)} {w : World} (h : Texts B v ps w) : Reads v ps w := by
  rcases h.forms with ⟨rfl, rfl⟩ | ⟨g, cap, rfl⟩
  · exact ⟨none, 0, rfl, by simp⟩
  · exact ⟨_, _, rfl, fun k p hk => ⟨g, rfl, h.cell k p hk⟩⟩

theorem same_step {xs ys : List (List UInt8)} {k : Nat} {p : List UInt8} (h : xs.take k = ys.take k) (h1 : xs[k]? = some p) (h2 : ys[k]? = some p) : xs.take (k + 1) = ys.take (k + 1) := by
  rw [List.take_add_one, List.take_add_one, h, h1, h2]

theorem take_last (t : ByteArray) (m : Nat) (hm : t.size = m + 1) : t.data.toList = (t.extract 0 m).data.toList ++ [t[m]'(by omega)] := by
  have h := take_snoc t m (by omega)
  rw [Lib.extract_upto]
  rw [List.take_of_length_le (by rw [← Lib.size_eq]; omega)] at h
  exact h
theorem trim_step {t : ByteArray} {m : Nat} (hm : t.size = m + 1) (hc : (t[m]'(by omega)).toNat = 47) : Lib.trimRightB t.data.toList 47 = Lib.trimRightB (t.extract 0 m).data.toList 47 := by
  have : t[m]'(by omega) = 47 := UInt8.toNat_inj.1 hc
  rw [take_last t m hm, this, M.trim_snoc]
theorem trim_stop {t : ByteArray} {m : Nat} (hm : t.size = m + 1) (hc : ¬ (t[m]'(by omega)).toNat = 47) : Lib.trimRightB t.data.toList 47 = t.data.toList := by
  have h := take_last t m hm
  generalize (t.extract 0 m).data.toList = l at h
  rw [h, M.trim_other]
  intro e; exact hc (by rw [e]; rfl)
theorem trim_empty {t : ByteArray} (h : t.size = 0) : Lib.trimRightB t.data.toList 47 = t.data.toList := by
  have : t.data.toList = [] := List.eq_nil_of_length_eq_zero (by rw [← Lib.size_eq]; exact h)
  rw [this, M.trim_nil]
theorem last_of {s t : ByteArray} (h1 : Lib.trimRightB t.data.toList 47 = Lib.trimRightB s.data.toList 47) (h2 : Lib.trimRightB t.data.toList 47 = t.data.toList) : M.last s.data.toList = if M.dots (M.lastp t.data.toList) then [] else M.lastp t.data.toList := by
  unfold M.last; rw [← h1, h2]

def strSize : Value → Nat | .string t => t.size | _ => 0
end Go.Proofs.YtlceaecibjbeaaaGreat.V
