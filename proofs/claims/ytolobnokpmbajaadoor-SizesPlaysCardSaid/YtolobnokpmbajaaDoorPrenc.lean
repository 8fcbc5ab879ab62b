/-
  What the reference's Encode does.
-/
import Derived.Test.YtolobnokpmbajaaDoorPdec
import Derived.Deep.QuietTactic
import Derived.BigQuiet
namespace Go.Proofs.YtolobnokpmbajaaDoor.Q
open Go.RowKit Go.Shelf

theorem one_extract (s : ByteArray) (pos : Nat) (hp : pos < s.size) : (s.extract pos (pos + 1)).data.toList = [s[pos]'hp] := by
  have h := Lib.extract_data s pos (pos + 1)
  rw [drop_cons s pos hp, Nat.add_sub_cancel_left] at h
  rw [h]; rfl
theorem add_l1 (l : List UInt8) (s : ByteArray) (pos : Nat) (hp : pos < s.size) (h : l.length ≤ 90000) (w : World) :
    (Op.stringOp .add ⟨l.toArray⟩ (s.extract pos (pos + 1))).run Tryd.prog w = .ok (.string ⟨(l ++ [s[pos]'hp]).toArray⟩) w := by
  have e : s.extract pos (pos + 1) = ⟨[s[pos]'hp].toArray⟩ := by
    rw [← one_extract s pos hp, Array.toArray_toList]
  rw [e, add_ll l _ (by simp; omega)]

theorem up_one (k : Nat) (h : k < 16) : ups.extract k (k + 1) = ⟨[M.up k].toArray⟩ := by
  have := one_extract ups k h
  rw [ups_at k h] at this
  rw [← this, Array.toArray_toList]
theorem str_three (bs : List UInt8) (k m : Nat) (hk : k < 16) (hm : m < 16) :
    Value.string ((⟨(bs ++ [37]).toArray⟩ : ByteArray) ++ ups.extract k (k + 1) ++ ups.extract m (m + 1)) = .string ⟨(bs ++ [37, M.up k, M.up m]).toArray⟩ := by
  rw [up_one k hk, up_one m hm, ByteArray.mk_append_mk, ByteArray.mk_append_mk]
  simp
theorem below_drewN {n : Nat} {a b : World} (h : Below n a b) : ∀ k, Below n a (b.drewN k)
  | 0 => h
  | k + 1 => (below_drewN h k).drew

set_option maxRecDepth 100000 in
set_option maxHeartbeats 2000000 in
theorem refEncode_any (s : ByteArray) (hs : s.size ≤ 10000) (w : World) :
    Calls Tryd.prog 33 #[.string s] w fun e w' => e = .returned (.string ⟨(M.enc s.data.toList).toArray⟩) ∧ Below w.heap.size w w' := by
  go_enter Tryd.func33, Tryd.ntmps33
  go_wp2
  go_loopw [4, 5] (fun v i wr => ∃ pos : Nat, pos ≤ s.size ∧ i = .int .i64 pos ∧ v = .string ⟨(M.enc (s.data.toList.take pos)).toArray⟩ ∧ Below w.heap.size w wr) (fun _ i _ => s.size - (intOf i).toNat)
  case atStart => exact ⟨0, Nat.zero_le _, rfl, rfl, Below.refl _ w⟩
  case round =>
    obtain ⟨pos, hps, rfl, rfl, hb⟩ := hrel
    by_cases hp : pos < s.size
    · have hl := M.enc_len (s.data.toList.take pos)
      rw [List.length_take] at hl
      have hsn := take_snoc s pos hp
      have HS := Lib.hid (show M.enc (s.data.toList.take (pos + 1)) = M.enc (s.data.toList.take pos) ++ M.enc1 (s[pos]'hp) by rw [hsn, M.enc_snoc])
      clear hsn
      obtain ⟨bs, HB⟩ : ∃ bs, Hid (M.enc (s.data.toList.take pos) = bs) := ⟨_, Lib.hid rfl⟩
      rw [HB.out] at hl HS ⊢
      have hbl : bs.length ≤ 30000 := by omega
      clear hl
      cases hq : M.pl (s[pos]'hp) with
      | true =>
        have HQ := Lib.hid hq; clear hq
        have ha := add_l1 bs s pos hp (by omega)
        go_wp2_with (go_at_call 57; refine (plain_is _ true HQ.out _).mono ?_; rintro e w1 ⟨rfl, rfl⟩)
        go_roundw
        case rel => exact ⟨pos + 1, by omega, by go_num, by rw [HS.out, M.enc1_pl HQ.out], hb⟩
        case measure => simp [intOf]; omega
      | false =>
        have HQ := Lib.hid hq; clear hq
        have hc := M.byte_lt (s[pos]'hp)
        have q1 : 0 ≤ ((s[pos]'hp).toNat : Int) / 16 := by omega
        have q2 : ((s[pos]'hp).toNat : Int) / 16 < 16 := by omega
        have r1 : 0 ≤ ((s[pos]'hp).toNat : Int) % 16 := by omega
        have r2 : ((s[pos]'hp).toNat : Int) % 16 < 16 := by omega
        have ha1 := add_ll bs [37] (by simp; omega)
        go_wp2_with (go_at_call 57; refine (plain_is _ false HQ.out _).mono ?_; rintro e w1 ⟨rfl, rfl⟩)
        go_quiet (fail)
        go_wp2
        go_roundw
        case rel => exact ⟨pos + 1, by omega, by go_num, by rw [HS.out, M.enc1_not HQ.out, str_three _ _ _ (by omega) (by omega)], below_drewN hb _⟩
        case measure => simp [intOf]; omega
    · have HE := Lib.hid (show M.enc (s.data.toList.take pos) = M.enc s.data.toList by rw [List.take_of_length_le (by simp; omega)])
      generalize M.enc (s.data.toList.take pos) = bs at HE ⊢
      go_wp2
      go_ret
      exact ⟨by rw [← HE.out]; rfl, hb⟩
end Go.Proofs.YtolobnokpmbajaaDoor.Q
