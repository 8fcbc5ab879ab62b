/-
  The reference's Write.
-/
import Derived.Test.YtolobnokpmbajaaDoorZwrite
import Derived.Test.YtolobnokpmbajaaDoorPrenc
import Derived.Test.YtolobnokpmbajaaDoorNrefd
namespace Go.Proofs.YtolobnokpmbajaaDoor.Z
open Go.RowKit Go.Shelf

theorem add_big (l m : List UInt8) (h : l.length + m.length ≤ 140737488355328) (w : World) : (Op.stringOp .add ⟨l.toArray⟩ ⟨m.toArray⟩).run Tryd.prog w = .ok (.string ⟨(l ++ m).toArray⟩) w := by
  rw [run_string_add_sum w _ _ (by rw [size_l, size_l]; omega), ByteArray.mk_append_mk]
theorem refMay_is {x : Line} {b : Bool} (hf : Fit x) (h : may x = b) (w : World) : Calls Tryd.prog 20 #[.agg #[.int .i64 x.size, .int .i64 x.time, .string ⟨x.name.toArray⟩]] w fun e w' => e = .returned (.bool b) ∧ Below w.heap.size w w' := by
  have := refMay_any x (by have := hf.nm; omega) w
  rw [h] at this
  exact this
/-- a line among others in memory, and the rest of the call's world -/
abbrev At3 (w0 : World) (g o : Nat) (a t : Int) (n : List UInt8) (w' : World) : Prop :=
  w'.cell? ⟨g, o, none⟩ = some (.int .i64 a) ∧ w'.cell? ⟨g, o + 1, none⟩ = some (.int .i64 t) ∧ w'.cell? ⟨g, o + 2, none⟩ = some (.string ⟨n.toArray⟩) ∧ Below w0.heap.size w0 w'
theorem At3.below {w0 w w' : World} {g o : Nat} {a t : Int} {n : List UInt8} (h : At3 w0 g o a t n w) (hb : Below w.heap.size w w') : At3 w0 g o a t n w' := by
  obtain ⟨h0, h1, h2, h4⟩ := h
  have hlt : g < w.heap.size := World.block_lt_of_cell? _ _ h0
  exact ⟨(hb.cell (p := ⟨g, o, none⟩) hlt).trans h0, (hb.cell (p := ⟨g, o + 1, none⟩) hlt).trans h1, (hb.cell (p := ⟨g, o + 2, none⟩) hlt).trans h2, below_two h4 hb⟩
theorem rdec_held {w0 : World} {g o : Nat} {a t : Int} {n : List UInt8} (z : Int) {l : List UInt8} (hz0 : -9223372036854775808 ≤ z) (hz1 : z ≤ 9223372036854775807) (hl : Lib.itoa z = l) (w : World) (h : At3 w0 g o a t n w) :
    Calls Tryd.prog 23 #[.int .i64 z] w fun e w' => e = .returned (.string ⟨l.toArray⟩) ∧ At3 w0 g o a t n w' :=
  (K.refDec_any z w hz0 hz1).mono fun e w' ⟨he, hb⟩ => ⟨by rw [← hl]; exact he, h.below hb⟩
theorem renc_held {w0 : World} {g o : Nat} {a t : Int} {n : List UInt8} {l : List UInt8} (hn : n.length ≤ 10000) (hl : Q.M.enc n = l) (w : World) (h : At3 w0 g o a t n w) :
    Calls Tryd.prog 33 #[.string ⟨n.toArray⟩] w fun e w' => e = .returned (.string ⟨l.toArray⟩) ∧ At3 w0 g o a t n w' :=
  (Q.refEncode_any ⟨n.toArray⟩ (by rw [size_l]; exact hn) w).mono fun e w' ⟨he, hb⟩ => ⟨by rw [← hl]; exact he, h.below hb⟩
theorem txt_app (R : List UInt8) (x : Line) : R ++ txt x = (((((R ++ Lib.itoa x.size) ++ [32]) ++ Lib.itoa x.time) ++ [32]) ++ Q.M.enc x.name) ++ [10] := by simp [txt]

set_option maxRecDepth 100000 in
set_option maxHeartbeats 8000000 in
theorem refWrite_any (v : Value) (ls : List Line) (w : World) (hR : Sees v ls w) (hf : ∀ x ∈ ls, Fit x) (hl : ls.length ≤ 1000) :
    Calls Tryd.prog 11 #[v] w fun e w' => e = .returned (.string ⟨(text ls).toArray⟩) ∧ Below w.heap.size w w' := by
  obtain ⟨oa, cap, rfl, hcells⟩ := hR
  have HC := Lib.hid hcells; have HF := Lib.hid hf
  clear hcells hf
  go_enter Tryd.func11, Tryd.ntmps11
  go_wp2
  go_loopw [3, 4] (fun s i wr => ∃ k : Nat, k ≤ ls.length ∧ i = .int .i64 k ∧ s = .string ⟨(text (ls.take k)).toArray⟩ ∧ Below w.heap.size w wr) (fun _ i _ => ls.length - (intOf i).toNat)
  case atStart => exact ⟨0, Nat.zero_le _, rfl, rfl, Below.refl _ _⟩
  case round =>
    obtain ⟨k, hk, rfl, rfl, hb⟩ := hrel
    by_cases hlt : k < ls.length
    · obtain ⟨x, hx⟩ : ∃ x, ls[k]? = some x := ⟨_, List.getElem?_eq_getElem hlt⟩
      have hfx : Fit x := HF.out x (List.mem_of_getElem? hx)
      obtain ⟨g, o, rfl, h0, h1, h2⟩ := HC.out k x hx
      have HS := Lib.hid (text_take hx)
      have hg := World.block_lt_of_cell? _ _ h0
      have d0 := (hb.cell (p := ⟨g, o + k * 3, none⟩) hg).trans h0
      have d1 := (hb.cell (p := ⟨g, o + k * 3 + 1, none⟩) hg).trans h1
      have d2 := (hb.cell (p := ⟨g, o + k * 3 + 2, none⟩) hg).trans h2
      clear h0 h1 h2
      cases hm : may x with
      | false =>
        have cv := fun w => refMay_is hfx hm w
        have HO : Hid (one x = []) := Lib.hid (by unfold one; rw [hm]; rfl)
        clear hm hx hfx
        go_wp2_with (go_at_call 20; refine (cv _).mono ?_; rintro e w1 ⟨rfl, hb1⟩)
        go_roundw
        case rel => exact ⟨k + 1, by omega, by go_num, by rw [HS.out, HO.out, List.append_nil], below_two hb hb1⟩
        case measure => simp [intOf]; omega
      | true =>
        have cv := fun w => refMay_is hfx hm w
        have hTl := txt_len hfx
        have hroom := text_room (k := k) HF.out hl hTl
        have HO : Hid (text (ls.take (k + 1)) = (((((text (ls.take k) ++ Lib.itoa x.size) ++ [32]) ++ Lib.itoa x.time) ++ [32]) ++ Q.M.enc x.name) ++ [10]) := Lib.hid (by rw [HS.out]; unfold one; rw [hm]; exact txt_app _ _)
        have la := itoa_le x.size hfx.s0 hfx.s1
        have lt := itoa_le x.time hfx.t0 hfx.t1
        have ln := Q.M.enc_len x.name
        have hnm := hfx.nm
        have lr := text_len (ls.take k) (fun y hy => HF.out y (List.mem_of_mem_take hy))
        rw [List.length_take] at lr
        have lr2 : (text (ls.take k)).length ≤ 10000000 := by omega
        obtain ⟨A, hA⟩ : ∃ A, Lib.itoa x.size = A := ⟨_, rfl⟩
        obtain ⟨T, hT⟩ : ∃ T, Lib.itoa x.time = T := ⟨_, rfl⟩
        obtain ⟨N, hN⟩ : ∃ N, Q.M.enc x.name = N := ⟨_, rfl⟩
        have c1 := fun w' h => rdec_held (w0 := w) (g := g) (o := o + k * 3) (a := x.size) (t := x.time) (n := x.name) x.size hfx.s0 hfx.s1 hA w' h
        have c2 := fun w' h => rdec_held (w0 := w) (g := g) (o := o + k * 3) (a := x.size) (t := x.time) (n := x.name) x.time hfx.t0 hfx.t1 hT w' h
        have c3 := fun w' h => renc_held (w0 := w) (g := g) (o := o + k * 3) (a := x.size) (t := x.time) (n := x.name) (by omega) hN w' h
        rw [hA, hT, hN] at HO
        rw [hA] at la; rw [hT] at lt; rw [hN] at ln
        clear HS hroom lr hTl
        generalize text (ls.take k) = R at HO lr2 ⊢
        have a0 := fun w => add_big R A (by omega) w
        have a1 := fun w => add_big (R ++ A) [32] (by simp; omega) w
        have a2 := fun w => add_big ((R ++ A) ++ [32]) T (by simp; omega) w
        have a3 := fun w => add_big (((R ++ A) ++ [32]) ++ T) [32] (by simp; omega) w
        have a4 := fun w => add_big ((((R ++ A) ++ [32]) ++ T) ++ [32]) N (by simp; omega) w
        have a5 := fun w => add_big (((((R ++ A) ++ [32]) ++ T) ++ [32]) ++ N) [10] (by simp; omega) w
        generalize (((((R ++ A) ++ [32]) ++ T) ++ [32]) ++ N) ++ [10] = R6 at a5 HO
        generalize ((((R ++ A) ++ [32]) ++ T) ++ [32]) ++ N = R5 at a4 a5
        generalize (((R ++ A) ++ [32]) ++ T) ++ [32] = R4 at a3 a4
        generalize ((R ++ A) ++ [32]) ++ T = R3 at a2 a3
        generalize (R ++ A) ++ [32] = R2 at a1 a2
        generalize R ++ A = R1 at a0 a1
        clear hA hT hN la lt ln hm hx hfx hnm lr2
        go_wp2_with (go_at_call 20; refine (cv _).mono ?_; rintro e w1 ⟨rfl, hb1⟩)
        have T0 : At3 w g (o + k * 3) x.size x.time x.name w1.drew := (At3.below ⟨d0, d1, d2, hb⟩ hb1).below ((Below.refl _ _).drew)
        clear d0 d1 d2 hb hb1
        go_region_held3 (fun w' => w'.cell? ⟨g, o + k * 3, none⟩ = some (.int .i64 x.size) ∧ w'.cell? ⟨g, o + k * 3 + 1, none⟩ = some (.int .i64 x.time) ∧ w'.cell? ⟨g, o + k * 3 + 2, none⟩ = some (.string ⟨x.name.toArray⟩) ∧ Below w.heap.size w w') (first | exact T3 | exact T2 | exact T1 | exact T0)
          (first
            | (go_at_call 23; refine (c1 _ (by assumption)).mono ?_; clear c1; rintro e w2 ⟨rfl, T1⟩)
            | (go_at_call 23; refine (c2 _ (by assumption)).mono ?_; rintro e w2 ⟨rfl, T2⟩)
            | (go_at_call 33; refine (c3 _ (by assumption)).mono ?_; rintro e w2 ⟨rfl, T3⟩))
        go_wp2
        go_roundw
        case rel => exact ⟨k + 1, by omega, by go_num, by rw [HO.out], T3.2.2.2⟩
        case measure => simp [intOf]; omega
    · have HS : Hid (text (ls.take k) = text ls) := Lib.hid (by rw [List.take_of_length_le (by omega)])
      go_wp2
      go_ret
      exact ⟨by rw [← HS.out]; rfl, hb⟩
end Go.Proofs.YtolobnokpmbajaaDoor.Z
