/-
  What num.Oct does: strconv.FormatInt at base 8, walked.
-/
import Derived.Test.YtpjnofanfjedfaaDoorNum
import Derived.Laws.Bits64b
namespace Go.Proofs.YtpjnofanfjedfaaDoor
open Go.RowKit

set_option maxHeartbeats 1000000 in
theorem tz8 (w : World) (hc : w.cell? ⟨3, 7, none⟩ = some (.int .u8 3)) :
    Calls Tryd.prog 45 #[.int .u64 8] w fun e w' => e = .returned (.int .i64 3) ∧ w = w' := by
  have hi : IntKind.u64.wrap (bits BinOp.and IntKind.u64 8 (IntKind.u64.wrap (-8)) * 285870213051353865) / 288230376151711744 = 7 := by decide +kernel
  go_enter Tryd.func45, Tryd.ntmps45
  go_wp2
  go_ret
  exact ⟨rfl, rfl⟩
set_option maxHeartbeats 1000000 in
theorem pow2_8 (w : World) : Calls Tryd.prog 44 #[.int .i64 8] w fun e w' => e = .returned (.bool true) ∧ w = w' := by
  go_enter Tryd.func44, Tryd.ntmps44
  go_wp2
  go_ret
  exact ⟨rfl, rfl⟩
/-- The array of digits: from place i on it holds acc. -/
def Own (b i : Nat) (acc : List UInt8) (wr : World) : Prop :=
  (∀ j, j < 65 → wr.frozen? ⟨b, j, none⟩ = false) ∧ (∀ j, j < 65 → ∃ v, wr.cell? ⟨b, j, none⟩ = some v) ∧ (∀ j, i ≤ j → j < 65 → wr.cell? ⟨b, j, none⟩ = some (.int .u8 ((acc.getD (j - i) 0).toNat : Int)))
theorem Own.step {b i : Nat} {acc : List UInt8} {wr : World} (h : Own b (i + 1) acc wr) (hi : i < 65) (c : UInt8) : Own b i (c :: acc) (wr.setCell ⟨b, i, none⟩ (.int .u8 (c.toNat : Int))) := by
  obtain ⟨h1, h2, h3⟩ := h
  obtain ⟨v, hv⟩ := h2 i hi
  refine ⟨fun j hj => by rw [World.frozen?_setCell]; exact h1 j hj, fun j hj => ?_, fun j hj hj2 => ?_⟩
  · by_cases e : j = i
    · subst e; exact ⟨_, World.cell?_setCell_same _ _ _ hv⟩
    · obtain ⟨v', hv'⟩ := h2 j hj
      exact ⟨v', by rw [World.cell?_setCell_other _ _ _ _ (by simp)]; exact hv'⟩
  · by_cases e : j = i
    · subst e; rw [World.cell?_setCell_same _ _ _ hv]; simp
    · rw [World.cell?_setCell_other _ _ _ _ (by simp), h3 j (by omega) hj2, show j - i = (j - (i + 1)) + 1 by omega]
      simp [List.getD]
theorem zero65 : ∃ Z : Array Value, Z.size = 65 ∧ (∀ j, j < 65 → Z[j]? = some (.int .u8 0)) ∧ ∀ W, (zeroValue 65).run Tryd.prog W = .ok (.agg Z) W :=
  ⟨Array.replicate 65 (.int .u8 0), by simp, fun j hj => by simp [hj], fun W => by kernel_rfl⟩
theorem and7 (u : Nat) (h : u < 18446744073709551616) : bits BinOp.and IntKind.u64 (u : Int) 7 = ((u % 8 : Nat) : Int) := by
  have := bits_and_u64_nat u 7 h (by decide)
  rw [Nat.and_two_pow_sub_one_eq_mod u 3] at this
  exact this
abbrev d36 : ByteArray := ⟨#[48, 49, 50, 51, 52, 53, 54, 55, 56, 57, 97, 98, 99, 100, 101, 102, 103, 104, 105, 106, 107, 108, 109, 110, 111, 112, 113, 114, 115, 116, 117, 118, 119, 120, 121, 122]⟩
theorem d36_fin : ∀ r : Fin 8, d36.data.toList.getD r.val 0 = UInt8.ofNat (48 + r.val) := by decide +kernel
theorem d36_at (r : Nat) (hr : r < 8) (h : r < d36.size) : d36[r]'h = UInt8.ofNat (48 + r) := by
  have := d36_fin ⟨r, hr⟩
  rw [← this, getD_at d36 r h]
theorem own_string {b k : Nat} {l : List UInt8} {W : World} (h : Own b k l W) (hk : k + l.length = 65) :
    (convert 37 9 (.slice (some ⟨b, k, none⟩) (65 - k) (65 - k))).run Tryd.prog W = .ok (.string ⟨l.toArray⟩) W := by
  rw [show 65 - k = l.length by omega]
  refine run_convert_bytes_back W 37 9 5 ⟨b, k, none⟩ _ l Tryd.underlying37 Tryd.underlying5 Tryd.underlying9 fun j hj => ?_
  rw [Lib.add_plain, h.2.2 (k + j) (by omega) (by omega), show k + j - k = j by omega]
  simp [List.getD, List.getElem?_eq_getElem hj]
theorem slice65 (b m : Nat) (hm : m < 65) (W : World) :
    (Instr.sliceAt 65 (.pointer (some ⟨b, 0, none⟩)) (some (.int .i64 (m : Int))) none none).run Tryd.prog W = .ok (.slice (some ⟨b, m, none⟩) (65 - m) (65 - m)) W := by
  have hal : Tryd.prog.arrayLen 65 = 65 := by simp [Program.arrayLen, Tryd.underlying65]
  rw [run_sliceAt_array_l W 65 ⟨b, 0, none⟩ (by simp [Program.arrayLen, Program.elem, Tryd.underlying65]) .i64 (m : Int) (by omega) (by rw [hal]; omega)]
  go_simp
  omega
set_option maxRecDepth 100000 in
set_option maxHeartbeats 1000000 in
theorem fmt8 (u : Nat) (hu : u < 18446744073709551616) (w : World) (hL : Laid w) :
    Calls Tryd.prog 36 #[.slice none 0 0, .int .u64 u, .int .i64 8, .bool false, .bool false] w fun e w' => e = .returned (.tuple #[.slice none 0 0, S (digB 8 u)]) ∧ Below w.heap.size w w' := by
  obtain ⟨Z, hZs, hZc, hZ⟩ := zero65
  have hO : Own w.heap.size 65 [] (w.alloc (.cells Z 65)) :=
    ⟨fun j _ => World.frozen?_alloc_new _ _ _ _, fun j hj => ⟨_, by rw [World.cell?_alloc_new]; exact hZc j hj⟩, fun j h1 h2 => by omega⟩
  have hB : Below w.heap.size w (w.alloc (.cells Z 65)) := (Below.refl _ w).alloc (Nat.le_refl _) _
  have hc := (hL.of_below hB).bits
  have HO := Lib.hid hO
  clear hO hZs hZc
  go_enter Tryd.func36, Tryd.ntmps36
  go_wp2_with (first | (go_at_call 44; refine (pow2_8 _).mono ?_; rintro e w1 ⟨rfl, rfl⟩) | (go_at_call 45; refine (tz8 _ hc).mono ?_; rintro e w1 ⟨rfl, rfl⟩))
  go_loopw [1, 13] (fun x i wr => ∃ (v k : Nat) (acc : List UInt8), x = .int .u64 v ∧ i = .int .i64 k ∧ k + acc.length = 65 ∧ 1 < k ∧ v ≤ u ∧ digB 8 u = digB 8 v ++ acc ∧ v * 2 ^ acc.length ≤ u ∧ Own w.heap.size k acc wr ∧ Below w.heap.size w wr) (fun x _ _ => (intOf x).toNat)
  case atStart => exact ⟨u, 65, [], rfl, rfl, rfl, by decide, Nat.le_refl _, by rw [List.append_nil], by simp, HO.out, hB⟩
  case round =>
    clear hc hB HO hZ
    obtain ⟨v, k, acc, rfl, rfl, hka, hk1, hvu, hd, hp, hO, hnx⟩ := hrel
    have HD := Lib.hid hd
    have HP := Lib.hid hp
    have HK := Lib.hid hka
    clear hd hp hka
    obtain ⟨m, rfl⟩ : ∃ m, k = m + 1 := ⟨k - 1, by omega⟩
    have hm : m < 65 := by have := HK.out; omega
    have hfr := hO.1 m hm
    obtain ⟨x0, hcl⟩ := hO.2.1 m hm
    have HOw := Lib.hid hO
    clear hO
    have hand := and7 v (by omega)
    by_cases hlt : 8 ≤ v
    · go_wp2
      go_roundw
      case rel =>
        have hp8 := step2 8 (by decide) HP.out
        have hb := pow2_bound hu (by omega) hp8
        have hk := HK.out
        refine ⟨v / 8, m, _ :: acc, by go_num, rfl, by rw [List.length_cons]; omega, by omega, by omega, ?_, by rw [List.length_cons]; exact hp8, HOw.out.step hm _, hnx.setCell (Nat.le_refl _) _⟩
        rw [HD.out, digB_big (by decide) hlt, List.append_assoc, d36_at _ (by omega)]; rfl
      case measure => simp [intOf]; omega
    · have hv36 : v < d36.size := by show v < 36; omega
      have hO2 := HOw.out.step hm (d36[v]'hv36)
      have hcv := own_string hO2 (by rw [List.length_cons]; have := HK.out; omega)
      have hsl := slice65 w.heap.size m hm
      clear hO2
      go_wp2
      go_ret2
      refine ⟨?_, hnx.setCell (Nat.le_refl _) _⟩
      rw [HD.out, digB_small (by omega), d36_at v (by omega)]
      rfl
theorem fmt8_str (u : Nat) (hu : u < 18446744073709551616) (w : World) (hL : Laid w) :
    Calls Tryd.prog 36 #[.slice none 0 0, .int .u64 u, .int .i64 8, .bool false, .bool false] w fun e w' => e = .returned (.tuple #[.slice none 0 0, .string ⟨(digB 8 u).toArray⟩]) ∧ Below w.heap.size w w' := fmt8 u hu w hL
set_option maxHeartbeats 1000000 in
theorem format8 (u : Nat) (hu : u < 9223372036854775808) (w : World) (hL : Laid w) :
    Calls Tryd.prog 25 #[.int .i64 u, .int .i64 8] w fun e w' => e = .returned (.string ⟨(digB 8 u).toArray⟩) ∧ Below w.heap.size w w' := by
  go_enter Tryd.func25, Tryd.ntmps25
  go_wp2_with (go_at_call 36; refine (fmt8_str u (by omega) _ hL).mono ?_; rintro e w1 ⟨rfl, hb⟩)
  go_ret
  exact ⟨rfl, hb⟩
set_option maxHeartbeats 1000000 in
theorem oct_any (n : Int) (w : World) (h0 : -9223372036854775808 ≤ n) (h1 : n ≤ 9223372036854775807) (hL : Laid w) :
    Calls Tryd.prog 13 #[.int .i64 n] w fun e w' => e = .returned (S (octOf n)) ∧ Below w.heap.size w w' := by
  by_cases hneg : n < 0
  · go_enter Tryd.func13, Tryd.ntmps13
    go_wp2
    go_ret
    exact ⟨by unfold octOf; rw [if_pos hneg]; rfl, Below.refl _ _⟩
  · obtain ⟨u, rfl⟩ : ∃ u : Nat, n = u := ⟨n.toNat, by omega⟩
    have HO := Lib.hid (show octOf u = digB 8 u by unfold octOf; rw [if_neg hneg]; simp)
    go_enter Tryd.func13, Tryd.ntmps13
    go_wp2_with (first | (go_at_call 25; refine (format8 u (by omega) _ hL).mono ?_; rintro e w1 ⟨rfl, hb⟩) | go_in)
    go_ret
    exact ⟨by rw [HO.out]; rfl, hb⟩
end Go.Proofs.YtpjnofanfjedfaaDoor
