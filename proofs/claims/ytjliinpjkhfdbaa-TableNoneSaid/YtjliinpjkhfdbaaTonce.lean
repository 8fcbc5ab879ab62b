/-
  TableOnce's walk.
-/
import Derived.Test.YtjliinpjkhfdbaaTawk
namespace Go.Proofs.Ytjliinpjkhfdbaa.T
open Go.RowKit Go.Shelf

/-- a slice of bytes that is only read -/
def Bites (v : Value) (bs : List Int) (w : World) : Prop :=
  ∃ oa cap, v = .slice oa bs.length cap ∧ bs.length ≤ 9223372036854775807 ∧ ∀ (k : Nat) (b : Int), bs[k]? = some b → 0 ≤ b ∧ b ≤ 255 ∧ ∃ g o, oa = some ⟨g, o, none⟩ ∧ w.cell? ⟨g, o + k, none⟩ = some (.int .u8 b)

set_option maxRecDepth 100000 in
set_option maxHeartbeats 8000000 in
theorem tableOnce_walk (v : Value) (bs : List Int) (w : World) (hv : Bites v bs w) :
    Calls Try.prog 4 #[v] w fun e w' => e = .returned (.bool true) ∧ Below w.heap.size w w' := by
  obtain ⟨oa, cap, rfl, hle, hc⟩ := hv
  have HC := Lib.hid hc
  clear hc
  have cN := New_any w
  by_cases hbig : 60 < bs.length
  · have hbig' : (60 : Int) < (bs.length : Int) := by omega
    go_enter Try.func4, Try.ntmps4
    go_wp2_with (first
      | (go_at_call 6; refine cN.mono ?_; rintro e w1 ⟨T, M, rfl, hT, hb⟩; have ca := awake_any w1)
      | (refine ca.mono ?_; rintro e w2 ⟨rfl, hb2⟩))
    go_ret
    exact ⟨rfl, below_two hb hb2⟩
  · have hsm : ¬ (60 : Int) < (bs.length : Int) := by omega
    have HSM := Lib.hid hbig
    clear hbig
    go_enter Try.func4, Try.ntmps4
    go_wp2_with (go_at_call 6; refine cN.mono ?_; rintro e w1 ⟨T, M, rfl, hT, hb⟩)
    have HT := Lib.hid hT; have HB := Lib.hid hb
    clear hT hb cN
    go_loopw [4] (fun i wr => ∃ (k : Nat) (l : Row), i = .int .i64 k ∧ k ≤ bs.length ∧ l.length ≤ k ∧ Tab w.heap.size T M k l wr ∧ Below w.heap.size w wr) (fun i _ => bs.length - (intOf i).toNat)
    case atStart => exact ⟨0, [], rfl, Nat.zero_le _, Nat.le_refl _, HT.out, HB.out⟩
    case round =>
      obtain ⟨k, l, rfl, hk, hl, hTr, hbr⟩ := hrel
      have hsm' := HSM.out
      have ca := add_nk hTr 0 (by omega) (by omega)
      have HTR := Lib.hid hTr; have HBR := Lib.hid hbr
      clear hTr hbr
      by_cases hlt : k < bs.length
      · obtain ⟨b, hb⟩ : ∃ b, bs[k]? = some b := ⟨_, List.getElem?_eq_getElem hlt⟩
        obtain ⟨b0, b1, g, o, rfl, hcell⟩ := HC.out k b hb
        have hg := World.block_lt_of_cell? _ _ hcell
        have hcell1 := (HBR.out.cell (p := ⟨g, o + k, none⟩) hg).trans hcell
        have HG := Lib.hid hg; have HCL := Lib.hid hcell
        have hwr : IntKind.i64.wrap b = b := IntWalk.i64_in _ (by omega)
        clear hb hg hcell
        go_wp2_with (first
          | (go_at_call 9; refine ca.mono ?_; rintro e w2 ⟨rfl, hO2, u, hT2⟩; have hb2 := HBR.out.trans (hO2.below HTR.out.bt HTR.out.bm HBR.out.size); have d0 := (hb2.cell (p := ⟨g, o + k, none⟩) HG.out).trans HCL.out; have HB2 := Lib.hid hb2; have HT2 := Lib.hid hT2; clear hb2 hT2)
          | (go_at_call 10; refine (Drop_any HT2.out b (wf_of (by omega) (by omega))).mono ?_; rintro e w3 ⟨rfl, hT3, hO3⟩))
        have hb3 := HB2.out.trans (hO3.below HT2.out.bt HT2.out.bm HB2.out.size)
        have HT3 := Lib.hid hT3; have HB3 := Lib.hid hb3
        clear hT3 hb3
        go_roundw
        case rel =>
          refine ⟨k + 1, _, by go_num, by omega, ?_, HT3.out, HB3.out⟩
          refine Nat.le_trans (length_strike_le _ _) ?_
          simp; omega
        case measure => simp [intOf]; omega
      · obtain rfl : k = bs.length := by omega
        go_wp2_with (first
          | (go_at_call 9; refine ca.mono ?_; rintro e w2 ⟨rfl, hO2, u, hT2⟩; have hb2 := HBR.out.trans (hO2.below HTR.out.bt HTR.out.bm HBR.out.size); have cw := awake_any w2)
          | (refine cw.mono ?_; rintro e w3 ⟨rfl, hb3⟩))
        go_ret
        exact ⟨rfl, hb2.trans (hb3.mono hb2.size)⟩
end Go.Proofs.Ytjliinpjkhfdbaa.T
