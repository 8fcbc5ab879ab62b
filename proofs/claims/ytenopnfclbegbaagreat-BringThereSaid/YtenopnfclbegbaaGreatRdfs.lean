/-
  The reference's Dir, File, Sym.
-/
import Derived.Test.YtenopnfclbegbaaGreatRcome
namespace Go.Proofs.YtenopnfclbegbaaGreat.BR
open Go.RowKit Go.Shelf G
open P (CrBox)
attribute [local go_sem] Oper.semAt_some

section
variable {B F : Nat} {ex : Ext} {nv dv : Value} {st : St} {w : World}
theorem mode_bad {mode : Int} (h : mode < 0 ∨ 1023 < mode) : modeOk mode = false := by unfold modeOk; simp; omega
theorem mode_good {mode : Int} (h1 : ¬ mode < 0) (h2 : ¬ 1023 < mode) : modeOk mode = true := by unfold modeOk; simp; omega
set_option maxRecDepth 100000 in
set_option maxHeartbeats 16000000 in
theorem refDir_any (hI : Inv st) (hF : Fs ex B F nv dv st w) (hlen : st.n.length < 800000) (hlast : st.last < 800000) (hB : B ≤ w.heap.size) (cu cg k : Int) (p : List UInt8) (hp : p.length ≤ 5000) (mode : Int) :
    Calls Tryz.prog 24 #[.pointer (some ⟨F, 0, none⟩), .agg #[.int .i64 cu, .int .i64 cg], .int .i64 k, .string ⟨p.toArray⟩, .int .i64 mode] w fun e w' =>
      e = .returned (.tuple #[.int .i64 (dirSt st cu cg ex.now k p mode).2.1, .int .i64 (dirSt st cu cg ex.now k p mode).2.2]) ∧ ∃ nv', Fs ex B F nv' dv (dirSt st cu cg ex.now k p mode).1 w' ∧ Turn (fS F nv dv) w w' ∧ ∀ i, fS F nv' dv i → fS F nv dv i ∨ w.heap.size ≤ i := by
  have hb1 : Below w.heap.size w (w.alloc (.cells #[.int .i64 cu, .int .i64 cg] 40)) := (Below.refl _ _).alloc (Nat.le_refl _) _
  have C1 := CrBox.new cu cg w
  have cc := refcome_any hI (hF.below hb1) hlen hlast (Nat.le_trans hB hb1.size) cu cg k p hp (newDir k mode) rfl (by show (0 : Nat) ≤ _; decide)
  have hd : dirSt st cu cg ex.now k p mode = if modeOk mode = false then (st, 0, 1) else come st cu cg ex.now k p (newDir k mode) := rfl
  generalize come st cu cg ex.now k p (newDir k mode) = r at *
  generalize dirSt st cu cg ex.now k p mode = q at *
  dsimp only [newDir, T.Nd.v] at cc
  have HF := Lib.hid (hF.below hb1)
  have HD := Lib.hid hd
  have HB := Lib.hid hb1
  clear hd hF
  go_enter Tryz.func24, Tryz.ntmps24
  go_upto_region 1 with fail
  generalize w.alloc (.cells #[.int .i64 cu, .int .i64 cg] 40) = W1 at *
  obtain ⟨k0, k1⟩ := C1.facts
  clear hb1 C1
  by_cases h1 : mode < 0
  · obtain rfl : q = (st, 0, 1) := HD.out.trans (if_pos (mode_bad (.inl h1)))
    clear HD
    go_wp2
    go_ret2
    exact ⟨rfl, nv, HF.out, Turn.of_below HB.out, fun i hi => .inl hi⟩
  · by_cases h2 : 1023 < mode
    · obtain rfl : q = (st, 0, 1) := HD.out.trans (if_pos (mode_bad (.inr h2)))
      clear HD
      go_wp2
      go_ret2
      exact ⟨rfl, nv, HF.out, Turn.of_below HB.out, fun i hi => .inl hi⟩
    · obtain rfl : q = r := HD.out.trans (if_neg (by rw [mode_good h1 h2]; simp))
      clear HD
      go_wp2_with (go_at_call 52; refine cc.mono ?_; rintro e W2 ⟨rfl, nv2, hF2, ht2, hk2⟩)
      go_ret2
      exact ⟨rfl, nv2, hF2, Turn.ahead HB.out ht2, fun i hi => (hk2 i hi).imp id (fun h => Nat.le_trans HB.out.size h)⟩
set_option maxRecDepth 100000 in
set_option maxHeartbeats 16000000 in
theorem refFile_any (hI : Inv st) (hF : Fs ex B F nv dv st w) (hlen : st.n.length < 800000) (hlast : st.last < 800000) (hB : B ≤ w.heap.size) (cu cg k : Int) (p : List UInt8) (hp : p.length ≤ 5000) (mode : Int) (data : ByteArray) (hd : data.size ≤ 2000000) :
    Calls Tryz.prog 25 #[.pointer (some ⟨F, 0, none⟩), .agg #[.int .i64 cu, .int .i64 cg], .int .i64 k, .string ⟨p.toArray⟩, .int .i64 mode, .string data] w fun e w' =>
      e = .returned (.tuple #[.int .i64 (fileSt st cu cg ex.now k p mode data).2.1, .int .i64 (fileSt st cu cg ex.now k p mode data).2.2]) ∧ ∃ nv', Fs ex B F nv' dv (fileSt st cu cg ex.now k p mode data).1 w' ∧ Turn (fS F nv dv) w w' ∧ ∀ i, fS F nv' dv i → fS F nv dv i ∨ w.heap.size ≤ i := by
  have hb1 : Below w.heap.size w (w.alloc (.cells #[.int .i64 cu, .int .i64 cg] 40)) := (Below.refl _ _).alloc (Nat.le_refl _) _
  have C1 := CrBox.new cu cg w
  have cc := refcome_any hI (hF.below hb1) hlen hlast (Nat.le_trans hB hb1.size) cu cg k p hp (newFile mode data) rfl hd
  have hd : fileSt st cu cg ex.now k p mode data = if modeOk mode = false then (st, 0, 1) else if 1048576 < data.size then (st, 0, 3) else come st cu cg ex.now k p (newFile mode data) := rfl
  generalize come st cu cg ex.now k p (newFile mode data) = r at *
  generalize fileSt st cu cg ex.now k p mode data = q at *
  dsimp only [newFile, T.Nd.v] at cc
  have HF := Lib.hid (hF.below hb1)
  have HD := Lib.hid hd
  have HB := Lib.hid hb1
  clear hd hF
  go_enter Tryz.func25, Tryz.ntmps25
  go_upto_region 1 with fail
  generalize w.alloc (.cells #[.int .i64 cu, .int .i64 cg] 40) = W1 at *
  obtain ⟨k0, k1⟩ := C1.facts
  clear hb1 C1
  by_cases h1 : mode < 0
  · obtain rfl : q = (st, 0, 1) := HD.out.trans (if_pos (mode_bad (.inl h1)))
    clear HD
    go_wp2
    go_ret2
    exact ⟨rfl, nv, HF.out, Turn.of_below HB.out, fun i hi => .inl hi⟩
  · by_cases h2 : 1023 < mode
    · obtain rfl : q = (st, 0, 1) := HD.out.trans (if_pos (mode_bad (.inr h2)))
      clear HD
      go_wp2
      go_ret2
      exact ⟨rfl, nv, HF.out, Turn.of_below HB.out, fun i hi => .inl hi⟩
    · have h3 := HD.out.trans (if_neg (by rw [mode_good h1 h2]; simp))
      by_cases h4 : 1048576 < data.size
      · obtain rfl : q = (st, 0, 3) := h3.trans (if_pos h4)
        have h5 : (1048576 : Int) < (data.size : Int) := by omega
        clear HD h3
        go_wp2
        go_ret2
        exact ⟨rfl, nv, HF.out, Turn.of_below HB.out, fun i hi => .inl hi⟩
      · obtain rfl : q = r := h3.trans (if_neg h4)
        have h5 : ¬ (1048576 : Int) < (data.size : Int) := by omega
        clear HD h3
        go_wp2_with (go_at_call 52; refine cc.mono ?_; rintro e W2 ⟨rfl, nv2, hF2, ht2, hk2⟩)
        go_ret2
        exact ⟨rfl, nv2, hF2, Turn.ahead HB.out ht2, fun i hi => (hk2 i hi).imp id (fun h => Nat.le_trans HB.out.size h)⟩
set_option maxRecDepth 100000 in
set_option maxHeartbeats 16000000 in
theorem refSym_any (hI : Inv st) (hF : Fs ex B F nv dv st w) (hlen : st.n.length < 800000) (hlast : st.last < 800000) (hB : B ≤ w.heap.size) (cu cg k : Int) (p : List UInt8) (hp : p.length ≤ 5000) (x : ByteArray) (hx : x.size ≤ 5000) :
    Calls Tryz.prog 26 #[.pointer (some ⟨F, 0, none⟩), .agg #[.int .i64 cu, .int .i64 cg], .int .i64 k, .string ⟨p.toArray⟩, .string x] w fun e w' =>
      e = .returned (.tuple #[.int .i64 (symSt st cu cg ex.now k p x).2.1, .int .i64 (symSt st cu cg ex.now k p x).2.2]) ∧ ∃ nv', Fs ex B F nv' dv (symSt st cu cg ex.now k p x).1 w' ∧ Turn (fS F nv dv) w w' ∧ ∀ i, fS F nv' dv i → fS F nv dv i ∨ w.heap.size ≤ i := by
  have hb1 : Below w.heap.size w (w.alloc (.cells #[.int .i64 cu, .int .i64 cg] 40)) := (Below.refl _ _).alloc (Nat.le_refl _) _
  have C1 := CrBox.new cu cg w
  have cc := refcome_any hI (hF.below hb1) hlen hlast (Nat.le_trans hB hb1.size) cu cg k p hp (newLink x) rfl (show x.size ≤ 2000000 by omega)
  have hd : symSt st cu cg ex.now k p x = if badText x then (st, 0, 1) else if 4096 < x.size then (st, 0, 13) else come st cu cg ex.now k p (newLink x) := rfl
  have hbt : badText x ↔ x.data.toList = [] ∨ (0 : UInt8) ∈ x.data.toList := Iff.rfl
  have cH := fun W => V.has_any x hx 0 W
  have hhas : V.M.has x.data.toList 0 = decide ((0 : UInt8) ∈ x.data.toList) := rfl
  rw [hhas] at cH
  have hemp : x.data.toList = [] ↔ x.toList = [] := by rw [ByteArray.toList_eq]
  generalize come st cu cg ex.now k p (newLink x) = r at *
  generalize symSt st cu cg ex.now k p x = q at *
  dsimp only [newLink, T.Nd.v] at cc
  have HF := Lib.hid (hF.below hb1)
  have HD := Lib.hid hd
  have HB := Lib.hid hb1
  have HT := Lib.hid hbt
  clear hd hF hbt hhas
  go_enter Tryz.func26, Tryz.ntmps26
  go_upto_region 1 with fail
  generalize w.alloc (.cells #[.int .i64 cu, .int .i64 cg] 40) = W1 at *
  obtain ⟨k0, k1⟩ := C1.facts
  clear hb1 C1
  by_cases h1 : x.toList = []
  · obtain rfl : q = (st, 0, 1) := HD.out.trans (if_pos (HT.out.2 (.inl (hemp.2 h1))))
    clear HD hemp HT
    go_wp2
    go_ret2
    exact ⟨rfl, nv, HF.out, Turn.of_below HB.out, fun i hi => .inl hi⟩
  · have h1' : (x.toList == []) = false := by simpa using h1
    by_cases h2 : (0 : UInt8) ∈ x.data.toList
    · obtain rfl : q = (st, 0, 1) := HD.out.trans (if_pos (HT.out.2 (.inr h2)))
      rw [decide_eq_true h2] at cH
      clear HD hemp HT
      go_wp2_with (go_at_call 53; refine (cH _).mono ?_; rintro e W9 ⟨rfl, rfl⟩)
      go_ret2
      exact ⟨rfl, nv, HF.out, Turn.of_below HB.out, fun i hi => .inl hi⟩
    · have h3 := HD.out.trans (if_neg (fun e => (HT.out.1 e).elim (fun e => h1 (hemp.1 e)) h2))
      rw [decide_eq_false h2] at cH
      by_cases h4 : 4096 < x.size
      · obtain rfl : q = (st, 0, 13) := h3.trans (if_pos h4)
        have h5 : (4096 : Int) < (x.size : Int) := by omega
        clear HD h3 hemp HT
        go_wp2_with (go_at_call 53; refine (cH _).mono ?_; rintro e W9 ⟨rfl, rfl⟩)
        go_ret2
        exact ⟨rfl, nv, HF.out, Turn.of_below HB.out, fun i hi => .inl hi⟩
      · obtain rfl : q = r := h3.trans (if_neg h4)
        have h5 : ¬ (4096 : Int) < (x.size : Int) := by omega
        clear HD h3 hemp HT
        go_wp2_with (first
          | (go_at_call 53; refine (cH _).mono ?_; rintro e W9 ⟨rfl, rfl⟩)
          | (go_at_call 52; refine cc.mono ?_; rintro e W2 ⟨rfl, nv2, hF2, ht2, hk2⟩))
        go_ret2
        exact ⟨rfl, nv2, hF2, Turn.ahead HB.out ht2, fun i hi => (hk2 i hi).imp id (fun h => Nat.le_trans HB.out.size h)⟩
end
end Go.Proofs.YtenopnfclbegbaaGreat.BR
