/-
  What pct.Decode does.
-/
import Derived.Test.YtolobnokpmbajaaDoorPenc
namespace Go.Proofs.YtolobnokpmbajaaDoor.Q
open Go.RowKit Go.Shelf

def DecOut (o : Option (List UInt8)) (e : Ending) : Prop := match o with
  | none => e = .returned (.tuple #[.string ⟨#[]⟩, .int .i64 2])
  | some l => e = .returned (.tuple #[.string ⟨l.toArray⟩, .int .i64 0])
theorem decOut_none {o : Option (List UInt8)} (h : o = none) : DecOut o (.returned (.tuple #[.string ⟨#[]⟩, .int .i64 2])) := by rw [h]; rfl
theorem decOut_some {o : Option (List UInt8)} {l : List UInt8} (h : o = some l) : DecOut o (.returned (.tuple #[.string ⟨l.toArray⟩, .int .i64 0])) := by rw [h]; rfl
theorem drop_extract (s : ByteArray) (pos : Nat) : (s.extract pos s.size).data.toList = s.data.toList.drop pos := by
  rw [Lib.extract_data]
  exact List.take_of_length_le (by simp)
theorem drop_size (s : ByteArray) (pos : Nat) (h : pos < s.size) : 0 < (s.extract pos s.size).size := by
  rw [Lib.size_eq, drop_extract, List.length_drop, ← Lib.size_eq]; omega

set_option maxRecDepth 100000 in
set_option maxHeartbeats 2000000 in
theorem decode_any (s : ByteArray) (hs : s.size ≤ 10000) (w : World) :
    Calls Tryd.prog 60 #[.string s] w fun e w' => DecOut (M.dec s.data.toList) e ∧ Below w.heap.size w w' := by
  obtain ⟨i0, hi, hz0, hz1, hz2⟩ := info_parts info5
  go_enter Tryd.func60, Tryd.ntmps60
  go_wp2_with (at_make; refine wpList_make_own _ rfl _ _ 48 rfl w.heap.size 5 i0 (.int .u8 0) 1 Tryd.underlying48 hi hz0 hz1 .i64 .i64 _ s.size rfl rfl rfl (by rw [hz2]; omega) (by unfold maxLen; omega) (Nat.le_refl _) ?_; intro w1 hown hgrow)
  go_loopw [4, 5, 15] (fun v t i wr => ∃ (pos told : Nat) (bs : List UInt8), pos ≤ s.size ∧ told ≤ s.size ∧ i = .int .i64 pos ∧ t = .int .i64 told ∧ M.At s.data.toList (max pos told) bs ∧ bs.length ≤ pos ∧ Bytes w.heap.size v bs wr ∧ Below w.heap.size w wr) (fun _ _ i _ => s.size - (intOf i).toNat)
  case atStart => exact ⟨0, 0, [], Nat.zero_le _, Nat.zero_le _, rfl, rfl, M.at_start _, Nat.le_refl _, hown, (Below.refl _ w).grown hgrow (Nat.le_refl _) (by simp)⟩
  case round =>
    obtain ⟨pos, told, bs, hps, hts, rfl, rfl, hat, hbl, hb5, hb⟩ := hrel
    clear hown hgrow
    have HA := Lib.hid hat; clear hat
    by_cases hp : pos < s.size
    · by_cases ht : pos < told
      · have ht' : (pos : Int) < told := by omega
        go_wp2
        go_roundw
        case rel => exact ⟨pos + 1, told, bs, by omega, hts, by go_num, rfl, by have := HA.out; rwa [show max pos told = max (pos + 1) told by omega] at this, by omega, hb5, hb⟩
        case measure => simp [intOf]; omega
      · have ht' : ¬ (pos : Int) < told := by omega
        have HA2 : Hid (M.At s.data.toList pos bs) := Lib.hid (by have := HA.out; rwa [show max pos told = pos by omega] at this)
        clear HA
        have hpl : pos < s.data.toList.length := by rw [← Lib.size_eq]; exact hp
        have hes := drop_size s pos hp
        have hed := drop_extract s pos
        cases hf : M.first (s.data.toList.drop pos) with
        | none =>
          have HN := Lib.hid (M.at_none HA2.out hpl hf)
          rw [← hed] at hf
          have HF := Lib.hid hf; have HE := Lib.hid hes
          clear hf hes hed
          go_wp2_with (go_at_call 78; refine (first_no _ HE.out HF.out _).mono ?_; rintro e w1 ⟨rfl, rfl⟩)
          go_ret2
          exact ⟨decOut_none HN.out, hb⟩
        | some p =>
          obtain ⟨b, n⟩ := p
          have HN := Lib.hid (M.at_some HA2.out hpl hf)
          have hn := M.first_pos hf
          rw [List.length_drop, ← Lib.size_eq] at hn
          rw [← hed] at hf
          have HF := Lib.hid hf; have HE := Lib.hid hes
          clear hf hes hed
          have hn3 : n ≤ 3 := hn.2.1
          have hns : pos + n ≤ s.size := by omega
          have hn1 : 1 ≤ n := hn.1
          clear hn
          unfold Bytes at hb5
          go_wp2_with (first
            | (go_at_call 78; refine (first_yes _ b n HE.out HF.out _).mono ?_; rintro e w1 ⟨rfl, rfl⟩)
            | (at_builtin; refine wpList_append_own _ rfl _ _ 48 rfl w.heap.size 5 i0 (.int .u8 0) 1 1 Tryd.underlying48 hi hz0 hz1 hz2 rfl (by decide) _ _ _ rfl (hb5.alloc _) ⟨wr.heap.size, 0, none⟩ 1 1 [byt b] rfl rfl (cell_one_new _ _ _) (by simp [Value.oneCell', byt]) (by unfold maxLen; omega) (by omega) (by have := hb.size; simp; omega) ?_; intro v' w1 hown' hgrow _))
          go_roundw
          case rel => exact ⟨pos + 1, pos + n, bs ++ [b], by omega, hns, by go_num, by go_num, by have := HN.out; rwa [show pos + n = max (pos + 1) (pos + n) by omega] at this, by rw [List.length_append]; simp; omega, Bytes.snoc rfl hown', (hb.alloc hb.size _).grown hgrow (by have := hb.size; simp; omega) (fun k hk => (hb5.lt k hk).1)⟩
          case measure => simp [intOf]; omega
    · have HE := Lib.hid (M.at_end HA.out (by rw [← Lib.size_eq]; omega))
      have hst := hb5.string
      go_wp2
      go_ret2
      exact ⟨decOut_some HE.out, hb⟩
theorem decode_is (s : ByteArray) (hs : s.size ≤ 10000) (l : List UInt8) (h : M.dec s.data.toList = some l) (w : World) :
    Calls Tryd.prog 60 #[.string s] w fun e w' => e = .returned (.tuple #[.string ⟨l.toArray⟩, .int .i64 0]) ∧ Below w.heap.size w w' :=
  (decode_any s hs w).mono fun e w' ⟨he, hw⟩ => ⟨by rw [h] at he; exact he, hw⟩
theorem decode_no (s : ByteArray) (hs : s.size ≤ 10000) (h : M.dec s.data.toList = none) (w : World) :
    Calls Tryd.prog 60 #[.string s] w fun e w' => e = .returned (.tuple #[.string ⟨#[]⟩, .int .i64 2]) ∧ Below w.heap.size w w' :=
  (decode_any s hs w).mono fun e w' ⟨he, hw⟩ => ⟨by rw [h] at he; exact he, hw⟩
end Go.Proofs.YtolobnokpmbajaaDoor.Q
