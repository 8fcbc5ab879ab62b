/-
  What num.ParseOct and the reference's ParseOct do at every string.
-/
import Derived.Test.YtpjnofanfjedfaaDoorNeg
namespace Go.Proofs.YtpjnofanfjedfaaDoor
open Go.RowKit

def octV : Int → List UInt8 → Option Int
  | n, [] => some n
  | n, c :: l => if 48 ≤ c.toNat ∧ c.toNat ≤ 55 then octV (n * 8 + ((c.toNat : Int) - 48)) l else none
def octP (l : List UInt8) : Option Int := if l.length < 1 ∨ 7 < l.length then none else octV 0 l
def OptOut (o : Option Int) (e : Ending) : Prop := e = .returned (.tuple #[.int .i64 (o.getD 0), .bool o.isSome])
theorem optOut_some {o : Option Int} {n : Int} (h : o = some n) : OptOut o (.returned (.tuple #[.int .i64 n, .bool true])) := by unfold OptOut; rw [h]; rfl
theorem optOut_none {o : Option Int} (h : o = none) : OptOut o (.returned (.tuple #[.int .i64 0, .bool false])) := by unfold OptOut; rw [h]; rfl
theorem octV_fail (a : Int) (c : UInt8) (l : List UInt8) (x : Int) (hx : x = (c.toNat : Int)) (h : x < 48 ∨ 55 < x) : octV a (c :: l) = none := by
  unfold octV; rw [if_neg (by omega)]
theorem octV_step (a : Int) (c : UInt8) (l : List UInt8) (x : Int) (hx : x = (c.toNat : Int)) (h0 : 48 ≤ x) (h1 : x ≤ 55) : octV a (c :: l) = octV (a * 8 + (x - 48)) l := by
  rw [octV, if_pos (by omega), hx]

theorem octP_short {s : ByteArray} (h : s.size = 0) : octP s.data.toList = none := by
  unfold octP; rw [if_pos (.inl (by rw [← Lib.size_eq]; omega))]
theorem octP_long {s : ByteArray} (h : 7 < s.size) : octP s.data.toList = none := by
  unfold octP; rw [if_pos (.inr (by rw [← Lib.size_eq]; omega))]
theorem octP_mid {s : ByteArray} (h : 1 ≤ s.size) (h7 : s.size ≤ 7) : octP s.data.toList = octV 0 s.data.toList := by
  unfold octP; rw [if_neg (by rw [← Lib.size_eq]; omega)]

def OctRel (s : ByteArray) (pos : Nat) (n : Value) : Prop := ∃ a : Int, 0 ≤ a ∧ a < 8 ^ pos ∧ n = .int .i64 a ∧ octP s.data.toList = octV a (s.data.toList.drop pos)
theorem pow8 (pos : Nat) (h : pos ≤ 7) : (8 : Int) ^ pos ≤ 2097152 := by
  match pos, h with
  | 0, _ => decide
  | 1, _ => decide
  | 2, _ => decide
  | 3, _ => decide
  | 4, _ => decide
  | 5, _ => decide
  | 6, _ => decide
  | 7, _ => decide
theorem octRel_step {s : ByteArray} {pos : Nat} {a x : Int} {c : UInt8} (h0 : 0 ≤ a) (ha : a < 8 ^ pos) (hx : x = (c.toNat : Int)) (hc0 : 48 ≤ x) (hc1 : x ≤ 55)
    (hN : octP s.data.toList = octV a (s.data.toList.drop pos)) (hD : s.data.toList.drop pos = c :: s.data.toList.drop (pos + 1)) : OctRel s (pos + 1) (.int .i64 (a * 8 + (x - 48))) :=
  ⟨_, by omega, by rw [Int.pow_succ]; omega, rfl, by rw [hN, hD, octV_step a c _ x hx hc0 hc1]⟩

theorem str_nil {s : ByteArray} (h : s.size = 0) : s.toList = [] := by
  rw [ByteArray.toList_eq]; exact List.eq_nil_of_length_eq_zero (by rw [← Lib.size_eq]; exact h)
theorem str_not_nil {s : ByteArray} (h : ¬ s.size = 0) : ¬ s.toList = [] := by
  rw [ByteArray.toList_eq]; intro e; exact h (by rw [Lib.size_eq, e]; rfl)
theorem str_not_empty {s : ByteArray} (h : ¬ s.size = 0) : s.toList.isEmpty = false := by
  have := str_not_nil h
  cases hh : s.toList with
  | nil => exact absurd hh this
  | cons _ _ => rfl

set_option maxHeartbeats 1000000 in
theorem parseOct_any (s : ByteArray) (w : World) :
    Calls Tryd.prog 9 #[.string s] w fun e w' => OptOut (octP s.data.toList) e ∧ Below w.heap.size w w' := by
  by_cases h0 : s.size = 0
  · have hl := str_nil h0
    go_enter Tryd.func9, Tryd.ntmps9
    go_wp2
    go_ret2
    exact ⟨optOut_none (octP_short h0), Below.refl _ _⟩
  · have hl := str_not_nil h0
    have hl2 := str_not_empty h0
    by_cases h7 : 7 < s.size
    · have h7' : (7 : Int) < s.size := by omega
      go_enter Tryd.func9, Tryd.ntmps9
      go_wp2
      go_ret2
      exact ⟨optOut_none (octP_long h7), Below.refl _ _⟩
    · have h7' : ¬ (7 : Int) < s.size := by omega
      have hk0 : (w.iter s 0).heap[w.heap.size]? = some (.stringIter s 0) := World.iter_heap w s 0
      have hb0 : Below w.heap.size w (w.iter s 0) := (Below.refl _ w).alloc (Nat.le_refl _) _
      go_enter Tryd.func9, Tryd.ntmps9
      go_wp2
      go_loopw [4] (fun n wr => ∃ pos, pos ≤ s.size ∧ OctRel s pos n ∧ wr.heap[w.heap.size]? = some (.stringIter s pos) ∧ Below w.heap.size w wr) (fun _ wr => s.size - wr.iterPos w.heap.size)
      case atStart => exact ⟨0, Nat.zero_le _, ⟨0, by omega, by decide, rfl, octP_mid (by omega) (by omega)⟩, hk0, hb0⟩
      case round =>
        clear hk0 hb0 hl hl2 h7'
        obtain ⟨pos, hps, ⟨a, ha0, ha1, rfl, hN⟩, hk, hnx⟩ := hrel
        have hp8 := pow8 pos (by omega)
        have ha2 : a < 2097152 := by omega
        have HA := Lib.hid ha1
        clear ha1 hp8
        have HN := Lib.hid hN; clear hN
        have hmu : wr.iterPos w.heap.size = pos := by simp [World.iterPos, hk]
        have HM := Lib.hid hmu; clear hmu
        by_cases hp : pos < s.size
        · have HD := Lib.hid (drop_cons s pos hp)
          by_cases h128 : (s[pos]'hp).toNat < 128
          · have hnext : ∀ ty, (Instr.next (.pointer (some ⟨w.heap.size, 0, none⟩)) true ty).run Tryd.prog wr = _ := fun ty => Lib.run_next_ascii_at wr w.heap.size s pos ty hk hp h128
            have hk1 := Lib.iterAt_heap wr w.heap.size s pos (pos + 1) hk
            have hnx1 : Below w.heap.size w (wr.iterAt w.heap.size s (pos + 1)) := Lib.below_iterAt hnx (by omega) s (pos + 1)
            generalize wr.iterAt w.heap.size s (pos + 1) = W1 at hnext hk1 hnx1
            generalize hc : (s[pos]'hp) = c at hnext HD h128
            clear hc
            obtain ⟨x, hx⟩ : ∃ x : Int, x = (c.toNat : Int) := ⟨_, rfl⟩
            rw [← hx] at hnext
            have hx0 : 0 ≤ x := by omega
            have hx1 : x < 128 := by omega
            have HX := Lib.hid hx; clear hx
            by_cases hd0 : x < 48
            · go_wp2
              go_ret2
              exact ⟨optOut_none (by rw [HN.out, HD.out, octV_fail _ _ _ x HX.out (.inl hd0)]), hnx1⟩
            · by_cases hd1 : 55 < x
              · go_wp2
                go_ret2
                exact ⟨optOut_none (by rw [HN.out, HD.out, octV_fail _ _ _ x HX.out (.inr hd1)]), hnx1⟩
              · go_wp2
                go_roundw
                case rel => exact ⟨pos + 1, by omega, octRel_step ha0 HA.out HX.out (by omega) (by omega) HN.out HD.out, hk1, hnx1⟩
                case measure =>
                  have hmu2 : W1.iterPos w.heap.size = pos + 1 := by simp [World.iterPos, hk1]
                  rw [HM.out, hmu2]; omega
          · have hnext : ∀ ty, (Instr.next (.pointer (some ⟨w.heap.size, 0, none⟩)) true ty).run Tryd.prog wr = _ := fun ty => Lib.run_next_any_at wr w.heap.size s pos ty hk hp
            have hbig := M.decode_big s pos hp (by omega)
            have hnx1 : Below w.heap.size w (wr.iterAt w.heap.size s (pos + (Utf8.decode s pos).2)) := Lib.below_iterAt hnx (by omega) s _
            generalize wr.iterAt w.heap.size s (pos + (Utf8.decode s pos).2) = W1 at hnext hnx1
            obtain ⟨x, hx⟩ : ∃ x : Int, x = ((Utf8.decode s pos).1 : Int) := ⟨_, rfl⟩
            rw [← hx] at hnext
            have hx1 : 55 < x := by omega
            have hx0 : ¬ x < 48 := by omega
            clear hx hbig
            go_wp2
            go_ret2
            exact ⟨optOut_none (by rw [HN.out, HD.out, octV_fail _ _ _ _ rfl (.inr (by omega))]), hnx1⟩
        · have hnext : ∀ ty, (Instr.next (.pointer (some ⟨w.heap.size, 0, none⟩)) true ty).run Tryd.prog wr = _ := fun ty => Lib.run_next_end_at wr w.heap.size s pos ty hk hp
          go_wp2
          go_ret2
          refine ⟨optOut_some ?_, hnx⟩
          rw [HN.out, List.drop_eq_nil_of_le (by simp; omega)]; rfl
end Go.Proofs.YtpjnofanfjedfaaDoor
