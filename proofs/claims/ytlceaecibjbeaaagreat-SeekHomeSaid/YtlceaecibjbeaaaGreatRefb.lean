/-
  What the reference's Pieces, Parts, Slash, Last and Same do.
-/
import Derived.Test.YtlceaecibjbeaaaGreatName
import Derived.Maps.AppendAt
import Derived.OwnWalk
import Derived.RangeFuncBox
namespace Go.Proofs.YtlceaecibjbeaaaGreat.V
open Go.RowKit Go.Shelf

def str (p : List UInt8) : Value := .string ⟨p.toArray⟩
theorem info9 : (Tryz.prog.info? 9).map (fun i => (i.zero, i.size, i.bytes)) = some (some (.string ⟨#[]⟩), 1, 16) := by kernel_rfl

/-- the slice v holds these texts, in memory of the call's own -/
def Texts (B : Nat) (v : Value) (ps : List (List UInt8)) (w : World) : Prop := w.ownsRow B 9 1 v ps.length (ps.map str)
theorem Texts.form {B : Nat} {v : Value} {ps : List (List UInt8)} {w : World} (h : Texts B v ps w) (hp : 0 < ps.length) : ∃ g cap, v = .slice (some ⟨g, 0, none⟩) ps.length cap := by
  obtain ⟨n, hn⟩ : ∃ n, ps.length = n + 1 := ⟨_, (Nat.succ_pred_eq_of_pos hp).symm⟩
  unfold Texts at h
  rw [hn] at h ⊢
  exact ownsRow_succ h

theorem take_snoc (s : ByteArray) (pos : Nat) (hp : pos < s.size) : s.data.toList.take (pos + 1) = s.data.toList.take pos ++ [s[pos]'hp] := by
  rw [List.take_succ_eq_append_getElem (show pos < s.data.toList.length by simpa using hp)]
  simp; rfl
theorem step_slash {s : ByteArray} {pos : Nat} (hp : pos < s.size) (hc : (s[pos]'hp).toNat = 47) : M.pieces (s.data.toList.take (pos + 1)) = M.pieces (s.data.toList.take pos) ++ [[]] := by
  have : s[pos]'hp = 47 := UInt8.toNat_inj.1 hc
  rw [take_snoc s pos hp, this, M.snoc_slash]
theorem step_other {s : ByteArray} {pos : Nat} (hp : pos < s.size) (hc : ¬ (s[pos]'hp).toNat = 47) :
    M.pieces (s.data.toList.take (pos + 1)) = (M.pieces (s.data.toList.take pos)).set ((M.pieces (s.data.toList.take pos)).length - 1) (M.lastp (s.data.toList.take pos) ++ [s[pos]'hp]) := by
  rw [take_snoc s pos hp, M.snoc_other]
  intro e; exact hc (by rw [e]; rfl)
theorem Texts.snoc {B : Nat} {v : Value} {ps : List (List UInt8)} {p : List UInt8} {w : World} (h : w.ownsRow B 9 1 v (ps.length + 1) (ps.map str ++ [str p])) : Texts B v (ps ++ [p]) w := by
  unfold Texts; simpa using h

theorem add_one (s : ByteArray) (pos : Nat) (hp : pos < s.size) (p : List UInt8) : ((⟨p.toArray⟩ : ByteArray) ++ s.extract pos (pos + 1)).data.toList = p ++ [s[pos]'hp] := by
  have h := Lib.extract_data s pos (pos + 1)
  rw [drop_cons s pos hp, Nat.add_sub_cancel_left] at h
  rw [ByteArray.data_append, Array.toList_append, h]; rfl
theorem texts_set {B : Nat} {v : Value} {ps : List (List UInt8)} {t : ByteArray} {m : Nat} {w : World} (hm : ps.length = m + 1) (h : w.ownsRow B 9 1 v (m + 1) ((ps.map str).set m (.string t))) : Texts B v (ps.set m t.data.toList) w := by
  unfold Texts
  rw [List.length_set, hm, List.map_set]
  exact h

set_option maxRecDepth 100000 in
set_option maxHeartbeats 2000000 in
theorem pieces_any (s : ByteArray) (hs : s.size ≤ 5000) (w : World) :
    Calls Tryz.prog 69 #[.string s] w fun e w' => ∃ v, e = .returned v ∧ Texts w.heap.size v (M.pieces s.data.toList) w' ∧ Below w.heap.size w w' := by
  obtain ⟨i0, hi, hz0, hz1, hz2⟩ := info_parts info9
  have mixed : Tryz.prog.follows Departure.mixedOrders = true := by kernel_rfl
  go_enter Tryz.func69, Tryz.ntmps69
  go_wp2
  go_loopw [3, 4] (fun v i wr => ∃ pos : Nat, pos ≤ s.size ∧ i = .int .i64 pos ∧ Texts w.heap.size v (M.pieces (s.data.toList.take pos)) wr ∧ Below w.heap.size w wr) (fun _ i _ => s.size - (intOf i).toNat)
  case atStart => exact ⟨0, Nat.zero_le _, rfl, World.ownsRow_lit _ _ _ (Nat.le_refl _) (by decide) rfl, (Below.refl _ _).alloc (Nat.le_refl _) _⟩
  case round =>
    obtain ⟨pos, hps, rfl, hown, hb⟩ := hrel
    have hlen : (M.pieces (s.data.toList.take pos)).length ≤ 5001 := by
      have := M.pieces_len (s.data.toList.take pos)
      rw [List.length_take] at this; omega
    by_cases hp : pos < s.size
    · by_cases hc : (s[pos]'hp).toNat = 47
      · have HS := Lib.hid (step_slash hp hc)
        unfold Texts at hown
        obtain ⟨ps, HP⟩ : ∃ ps, Hid (M.pieces (s.data.toList.take pos) = ps) := ⟨_, Lib.hid rfl⟩
        rw [HP.out] at hown hlen
        go_wp2_with (at_builtin; refine wpList_append_own _ rfl _ _ 25 rfl w.heap.size 9 i0 (.string ⟨#[]⟩) 1 16 Tryz.underlying25 hi hz0 hz1 hz2 rfl (by decide) _ _ _ rfl (hown.alloc _) ⟨wr.heap.size, 0, none⟩ 1 1 [str []] rfl rfl (cell_one_new _ _ _) (by simp [Value.oneCell', str]) (by unfold maxLen; omega) (by omega) (by have := hb.size; simp; omega) ?_; intro v' w1 hown' hgrow _)
        go_roundw
        case rel => exact ⟨pos + 1, by omega, by go_num, by rw [HS.out, HP.out]; exact Texts.snoc hown', (hb.alloc hb.size _).grown hgrow (by have := hb.size; simp; omega) (fun k hk => (hown.lt k hk).1)⟩
        case measure => simp [intOf]; omega
      · have HS := Lib.hid (step_other hp hc)
        obtain ⟨m, hm⟩ : ∃ m, (M.pieces (s.data.toList.take pos)).length = m + 1 := ⟨_, (Nat.succ_pred_eq_of_pos (M.pieces_pos _)).symm⟩
        obtain ⟨g, cap, rfl⟩ := hown.form (M.pieces_pos _)
        have hlast := M.lastp_at (s.data.toList.take pos)
        unfold Texts at hown
        obtain ⟨ps, HP⟩ : ∃ ps, Hid (M.pieces (s.data.toList.take pos) = ps) := ⟨_, Lib.hid rfl⟩
        obtain ⟨p, HL⟩ : ∃ p, Hid (M.lastp (s.data.toList.take pos) = p) := ⟨_, Lib.hid rfl⟩
        rw [HP.out, HL.out] at hlast
        rw [HP.out] at hm hown hlen ⊢
        rw [hm] at hown hlen hlast ⊢
        have hcell : wr.cell? ⟨g, m, none⟩ = some (.string ⟨p.toArray⟩) := by
          rw [hown.cellAt m (by omega), List.getElem?_map]
          rw [Nat.add_sub_cancel] at hlast
          rw [hlast]; rfl
        have hfz : wr.frozen? ⟨g, m, none⟩ = false := hown.frozenAt m
        have hpl : p.length ≤ 5000 := by
          have h1 := M.lastp_le (s.data.toList.take pos)
          rw [HL.out, List.length_take] at h1; omega
        have hadd : ∀ w, (Op.stringOp .add ⟨p.toArray⟩ (s.extract pos (pos + 1))).run Tryz.prog w = .ok (.string (⟨p.toArray⟩ ++ s.extract pos (pos + 1))) w := fun w => run_string_add_sum w _ _ (by
          have : (⟨p.toArray⟩ : ByteArray).size = p.length := by rw [Lib.size_eq]
          rw [this]; simp; omega)
        have hst := hown.stored m (.string (⟨p.toArray⟩ ++ s.extract pos (pos + 1)))
        have HO := Lib.hid hown; have HT := Lib.hid hst; have HM := Lib.hid hm; have HLA := Lib.hid hlast
        clear hown hst hm hlast
        go_wp2
        go_region_o
        go_wp2
        go_roundw
        case rel =>
          refine ⟨pos + 1, by omega, by go_num, ?_, (hb.setCell (p := ⟨g, m, none⟩) (HO.out.lt g rfl).1 _).drew⟩
          rw [HS.out, HP.out, HL.out, HM.out, Nat.add_sub_cancel, ← add_one s pos hp p]
          exact texts_set HM.out (HT.out.1.drew)
        case measure => simp [intOf]; omega
    · go_wp2
      go_ret
      refine ⟨_, rfl, ?_, hb⟩
      rw [List.take_of_length_le (by simp; omega)] at hown
      exact hown
end Go.Proofs.YtlceaecibjbeaaaGreat.V
