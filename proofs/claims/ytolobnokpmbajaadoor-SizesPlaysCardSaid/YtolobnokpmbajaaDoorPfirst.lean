/-
  What pct.first and pct.Len do.
-/
import Derived.Test.YtolobnokpmbajaaDoorPbyte
import Derived.OwnWalk
import Derived.Lib.IndexMore
import Derived.Laws.Bits64b
namespace Go.Proofs.YtolobnokpmbajaaDoor.Q
open Go.RowKit Go.Shelf

theorem drop_cons (s : ByteArray) (k : Nat) (h : k < s.size) : s.data.toList.drop k = s[k]'h :: s.data.toList.drop (k + 1) := by
  rw [List.drop_eq_getElem_cons (show k < s.data.toList.length by simpa using h)]; simp; rfl
theorem take_snoc (s : ByteArray) (pos : Nat) (hp : pos < s.size) : s.data.toList.take (pos + 1) = s.data.toList.take pos ++ [s[pos]'hp] := by
  rw [List.take_succ_eq_append_getElem (by simpa using hp)]; rfl
theorem size_l (l : List UInt8) : (⟨l.toArray⟩ : ByteArray).size = l.length := by rw [Lib.size_eq]
theorem bytes_eq (s : ByteArray) : ∃ l : List UInt8, s = ⟨l.toArray⟩ := ⟨s.data.toList, by rw [Array.toArray_toList]⟩
theorem add_ll (l m : List UInt8) (h : l.length + m.length ≤ 100000) (w : World) : (Op.stringOp .add ⟨l.toArray⟩ ⟨m.toArray⟩).run Tryd.prog w = .ok (.string ⟨(l ++ m).toArray⟩) w := by
  rw [run_string_add_sum w _ _ (by rw [size_l, size_l]; omega), ByteArray.mk_append_mk]

def byt (b : UInt8) : Value := .int .u8 (b.toNat : Int)
def FirstOut (o : Option (UInt8 × Nat)) (e : Ending) : Prop := match o with
  | none => e = .returned (.tuple #[.int .u8 0, .int .i64 0, .bool false])
  | some (b, n) => e = .returned (.tuple #[byt b, .int .i64 n, .bool true])
theorem firstOut_none {o : Option (UInt8 × Nat)} (h : o = none) : FirstOut o (.returned (.tuple #[.int .u8 0, .int .i64 0, .bool false])) := by rw [h]; rfl
theorem firstOut_some {o : Option (UInt8 × Nat)} {b : UInt8} {n : Nat} {x m : Int} (h : o = some (b, n)) (hx : x = (b.toNat : Int)) (hm : m = n) : FirstOut o (.returned (.tuple #[.int .u8 x, .int .i64 m, .bool true])) := by
  rw [h, hx, hm]; rfl

theorem shl4 : ∀ x y : Fin 16, bits .or .u8 (((x.val : Nat) : Int) * 16) ((y.val : Nat) : Int) = ((16 * x.val + y.val : Nat) : Int) := by decide +kernel
theorem shl4' {x y : Nat} (hx : x ≤ 15) (hy : y ≤ 15) : bits .or .u8 ((x : Int) * 16) (y : Int) = ((16 * x + y : Nat) : Int) := shl4 ⟨x, by omega⟩ ⟨y, by omega⟩

set_option maxHeartbeats 1000000 in
theorem first_any (t : ByteArray) (h0 : 0 < t.size) (w : World) : Calls Tryd.prog 78 #[.string t] w fun e w' => FirstOut (M.first t.data.toList) e ∧ w = w' := by
  have hd0 := drop_cons t 0 h0
  rw [List.drop_zero, Nat.zero_add] at hd0
  by_cases hc : (t[0]'h0).toNat = 37
  · have hc' : (((t[0]'h0).toNat : Int) == 37) = true := by rw [hc]; rfl
    have he : t[0]'h0 = 37 := UInt8.toNat_inj.1 hc
    by_cases h3 : t.size < 3
    · have HF := Lib.hid ((congrArg M.first hd0).trans (M.first_short he (by rw [List.length_drop, ← Lib.size_eq]; omega)))
      clear hd0 hc he
      go_enter Tryd.func78, Tryd.ntmps78
      go_wp2
      go_ret3
      exact ⟨firstOut_none HF.out, rfl⟩
    · have h1 : 1 < t.size := by omega
      have h2 : 2 < t.size := by omega
      have hd1 := drop_cons t 1 h1
      have hd2 := drop_cons t 2 h2
      rw [hd1, show 1 + 1 = 2 from rfl, hd2] at hd0
      clear hd1 hd2
      by_cases hv1 : M.val (t[1]'h1) ≤ 15
      · by_cases hv2 : M.val (t[2]'h2) ≤ 15
        · have HF := Lib.hid ((congrArg M.first hd0).trans (M.first_good he hv1 hv2))
          have c1 := fun w => value_yes (t[1]'h1) _ rfl hv1 w
          have c2 := fun w => value_yes (t[2]'h2) _ rfl hv2 w
          generalize M.val (t[1]'h1) = x at *
          generalize M.val (t[2]'h2) = y at *
          have hs := shl4' hv1 hv2
          clear hd0 hc he
          go_enter Tryd.func78, Tryd.ntmps78
          go_wp2_with (go_at_call 88; first | (refine (c1 _).mono ?_; clear c1; rintro e w1 ⟨rfl, rfl⟩) | (refine (c2 _).mono ?_; rintro e w2 ⟨rfl, rfl⟩))
          go_ret3
          refine ⟨firstOut_some HF.out ?_ rfl, rfl⟩
          rw [UInt8.toNat_ofNat']; omega
        · have HF := Lib.hid ((congrArg M.first hd0).trans (M.first_bad he (.inr (by omega))))
          have c1 := fun w => value_yes (t[1]'h1) _ rfl hv1 w
          have c2 := fun w => value_no (t[2]'h2) (by omega) w
          generalize M.val (t[1]'h1) = x at *
          clear hd0 hc he
          go_enter Tryd.func78, Tryd.ntmps78
          go_wp2_with (go_at_call 88; first | (refine (c1 _).mono ?_; clear c1; rintro e w1 ⟨rfl, rfl⟩) | (refine (c2 _).mono ?_; rintro e w2 ⟨rfl, rfl⟩))
          go_ret3
          exact ⟨firstOut_none HF.out, rfl⟩
      · have HF := Lib.hid ((congrArg M.first hd0).trans (M.first_bad he (.inl (by omega))))
        have c1 := fun w => value_no (t[1]'h1) (by omega) w
        clear hd0 hc he
        go_enter Tryd.func78, Tryd.ntmps78
        go_wp2_with (go_at_call 88; refine (c1 _).mono ?_; rintro e w1 ⟨rfl, rfl⟩)
        go_ret3
        exact ⟨firstOut_none HF.out, rfl⟩
  · have hc' : (((t[0]'h0).toNat : Int) == 37) = false := by simpa using fun e => hc (by omega)
    have HF := Lib.hid ((congrArg M.first hd0).trans (M.first_other (fun e => hc (by rw [e]; rfl))))
    clear hd0 hc
    go_enter Tryd.func78, Tryd.ntmps78
    go_wp2
    go_ret3
    exact ⟨firstOut_some HF.out rfl rfl, rfl⟩
theorem first_yes (t : ByteArray) (b : UInt8) (n : Nat) (h0 : 0 < t.size) (h : M.first t.data.toList = some (b, n)) (w : World) :
    Calls Tryd.prog 78 #[.string t] w fun e w' => e = .returned (.tuple #[.int .u8 (b.toNat : Int), .int .i64 n, .bool true]) ∧ w = w' :=
  (first_any t h0 w).mono fun e w' ⟨he, hw⟩ => ⟨by rw [h] at he; exact he, hw⟩
theorem first_no (t : ByteArray) (h0 : 0 < t.size) (h : M.first t.data.toList = none) (w : World) :
    Calls Tryd.prog 78 #[.string t] w fun e w' => e = .returned (.tuple #[.int .u8 0, .int .i64 0, .bool false]) ∧ w = w' :=
  (first_any t h0 w).mono fun e w' ⟨he, hw⟩ => ⟨by rw [h] at he; exact he, hw⟩

set_option maxHeartbeats 1000000 in
theorem len_any (s : ByteArray) (hs : s.size ≤ 10000) (w : World) : Calls Tryd.prog 72 #[.string s] w fun e w' => e = .returned (.int .i64 (M.enc s.data.toList).length) ∧ w = w' := by
  go_enter Tryd.func72, Tryd.ntmps72
  go_wp2
  go_loop [3, 7] (fun n i => ∃ k : Nat, k ≤ s.size ∧ i = .int .i64 k ∧ n = .int .i64 (M.enc (s.data.toList.take k)).length) (fun _ i => s.size - (intOf i).toNat)
  case atStart => exact ⟨0, Nat.zero_le _, rfl, rfl⟩
  case round =>
    obtain ⟨k, hk, rfl, rfl⟩ := hrel
    by_cases hlt : k < s.size
    · have hl := M.enc_len (s.data.toList.take k)
      rw [List.length_take] at hl
      have hsn := take_snoc s k hlt
      have HS := Lib.hid (show M.enc (s.data.toList.take (k + 1)) = M.enc (s.data.toList.take k) ++ M.enc1 (s[k]'hlt) by rw [hsn, M.enc_snoc])
      clear hsn
      obtain ⟨m, HM⟩ : ∃ m, Hid ((M.enc (s.data.toList.take k)).length = m) := ⟨_, Lib.hid rfl⟩
      rw [HM.out] at hl ⊢
      have hm : m ≤ 30000 := by omega
      clear hl
      cases hp : M.pl (s[k]'hlt) with
      | true =>
        have HQ := Lib.hid hp; clear hp
        go_wp2_with (go_at_call 73; refine (unreserved_is _ true HQ.out _).mono ?_; rintro e w1 ⟨rfl, rfl⟩)
        go_round
        case rel => exact ⟨k + 1, by omega, by go_num, by rw [HS.out, List.length_append, HM.out, M.enc1_pl HQ.out]; go_num⟩
        case measure => simp [intOf]; omega
      | false =>
        have HQ := Lib.hid hp; clear hp
        go_wp2_with (go_at_call 73; refine (unreserved_is _ false HQ.out _).mono ?_; rintro e w1 ⟨rfl, rfl⟩)
        go_round
        case rel => exact ⟨k + 1, by omega, by go_num, by rw [HS.out, List.length_append, HM.out, M.enc1_not HQ.out]; go_num⟩
        case measure => simp [intOf]; omega
    · have HE := Lib.hid (show (M.enc (s.data.toList.take k)).length = (M.enc s.data.toList).length by rw [List.take_of_length_le (by simp; omega)])
      generalize (M.enc (s.data.toList.take k)).length = m at HE ⊢
      go_wp2
      go_ret
      exact ⟨by rw [← HE.out]; rfl, rfl⟩
end Go.Proofs.YtolobnokpmbajaaDoor.Q
