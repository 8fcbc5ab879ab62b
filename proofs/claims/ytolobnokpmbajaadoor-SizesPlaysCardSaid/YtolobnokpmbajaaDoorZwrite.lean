/-
  sizes.Write; a slice of lines that is only read.
-/
import Derived.Test.YtolobnokpmbajaaDoorZwritten
import Derived.Test.YtolobnokpmbajaaDoorZbuild
namespace Go.Proofs.YtolobnokpmbajaaDoor.Z
open Go.RowKit Go.Shelf

/-- numbers that are ints, a name not too long -/
structure Fit (x : Line) : Prop where
  nm : x.name.length ≤ 3000
  s0 : -9223372036854775808 ≤ x.size
  s1 : x.size ≤ 9223372036854775807
  t0 : -9223372036854775808 ≤ x.time
  t1 : x.time ≤ 9223372036854775807
/-- who reads this slice sees these lines -/
def Sees (v : Value) (ls : List Line) (w : World) : Prop :=
  ∃ oa cap, v = .slice oa ls.length cap ∧ ∀ k x, ls[k]? = some x → ∃ g o, oa = some ⟨g, o, none⟩ ∧ w.cell? ⟨g, o + k * 3, none⟩ = some (.int .i64 x.size) ∧ w.cell? ⟨g, o + k * 3 + 1, none⟩ = some (.int .i64 x.time) ∧ w.cell? ⟨g, o + k * 3 + 2, none⟩ = some (.string ⟨x.name.toArray⟩)
theorem Sees.below {v : Value} {ls : List Line} {w w' : World} (h : Sees v ls w) (hb : Below w.heap.size w w') : Sees v ls w' := by
  obtain ⟨oa, cap, rfl, hc⟩ := h
  refine ⟨oa, cap, rfl, fun k x hk => ?_⟩
  obtain ⟨g, o, rfl, h0, h1, h2⟩ := hc k x hk
  have hlt : g < w.heap.size := World.block_lt_of_cell? _ _ h0
  exact ⟨g, o, rfl, (hb.cell (p := ⟨g, o + k * 3, none⟩) hlt).trans h0, (hb.cell (p := ⟨g, o + k * 3 + 1, none⟩) hlt).trans h1, (hb.cell (p := ⟨g, o + k * 3 + 2, none⟩) hlt).trans h2⟩

/-- the text of lines; those that may not be are left out -/
def one (x : Line) : List UInt8 := if may x then txt x else []
def text (ls : List Line) : List UInt8 := ls.flatMap one
theorem text_take {ls : List Line} {k : Nat} {x : Line} (h : ls[k]? = some x) : text (ls.take (k + 1)) = text (ls.take k) ++ one x := by
  rw [List.take_add_one, h]; simp [text]
theorem txt_len {x : Line} (h : Fit x) : (txt x).length ≤ 10000 := by
  have := itoa_le x.size h.s0 h.s1
  have := itoa_le x.time h.t0 h.t1
  have := Q.M.enc_len x.name
  have := h.nm
  simp [txt]; omega
theorem one_len {x : Line} (h : Fit x) : (one x).length ≤ 10000 := by
  unfold one; split
  · exact txt_len h
  · simp
theorem text_len : ∀ (ls : List Line), (∀ x ∈ ls, Fit x) → (text ls).length ≤ 10000 * ls.length
  | [], _ => by simp [text]
  | x :: ls, h => by
    have h1 := text_len ls (fun y hy => h y (List.mem_cons_of_mem _ hy))
    have h2 := one_len (h x List.mem_cons_self)
    have e : text (x :: ls) = one x ++ text ls := by simp [text]
    rw [e, List.length_append, List.length_cons]; omega
/-- a builder of the call's own that holds this text -/
def Holds (b : Nat) (l : List UInt8) (w : World) : Prop := Lib.IsBuilder 50 5 b b (Lib.byteCells l) w
theorem Holds.lt {b : Nat} {l : List UInt8} {w : World} (h : Holds b l w) : b < w.heap.size := by rcases h with h | h <;> exact h.lt
theorem Holds.below {b : Nat} {l : List UInt8} {w w' : World} (h : Holds b l w) (hb : Below w.heap.size w w') : Holds b l w' := by
  have hg : w.grownBy w' none := ⟨hb.os, hb.tape, hb.output, hb.size, fun k hk _ => hb.block k hk⟩
  have key : ∀ p, Lib.BuilderAt 50 5 b b p (Lib.byteCells l) w → Lib.BuilderAt 50 5 b b p (Lib.byteCells l) w' := by
    intro p hp
    have hlt := hp.lt
    obtain ⟨h1, v, h2, h3, h4⟩ := hp
    exact ⟨h1, v, (hb.block b hlt).trans h2, h3.kept hg (by cases hv : v.ownBlock <;> simp), h4⟩
  exact h.imp (key _) (key _)
theorem Holds.new (w : World) : Holds w.heap.size [] (w.alloc (.cells #[.pointer none, .slice none 0 0] 50)) := Lib.fresh_isBuilder _ _ _
theorem Holds.write {b : Nat} {l s : List UInt8} {w : World} (h : Holds b l w) (hl : l.length + s.length ≤ 140737488355328) :
    Calls Tryd.prog 30 #[.pointer (some ⟨b, 0, none⟩), .string ⟨s.toArray⟩] w fun e w' => e = .returned (.tuple #[.int .i64 s.length, .nilIface]) ∧ Holds b (l ++ s) w' ∧ Below b w w' := by
  refine (writeString_any b b (Lib.byteCells l) ⟨s.toArray⟩ w h (by rw [Lib.byteCells_length, size_l]; exact hl) (Nat.le_of_lt h.lt)).mono ?_
  rintro e w' ⟨he, h1, h2⟩
  rw [size_l] at he
  refine ⟨he, .inr ?_, h2⟩
  rw [Lib.strCells_toArray, ← Lib.byteCells_append] at h1
  exact h1
theorem Holds.string {b : Nat} {l : List UInt8} {w : World} (h : Holds b l w) : Calls Tryd.prog 32 #[.pointer (some ⟨b, 0, none⟩)] w fun e w' => e = .returned (.string ⟨l.toArray⟩) ∧ Below b w w' := by
  by_cases h0 : l = []
  · subst h0
    exact Tryd.Builder_String_empty b b w h (Nat.le_of_lt h.lt)
  · exact Tryd.Builder_String b b l w h h0

theorem valid_is {x : Line} {b : Bool} (h : may x = b) (w : World) : Calls Tryd.prog 29 #[.agg #[.int .i64 x.size, .int .i64 x.time, .string ⟨x.name.toArray⟩]] w fun e w' => e = .returned (.bool b) ∧ Below w.heap.size w w' := by
  have := valid_any x w
  rw [h] at this
  exact this
theorem written_is {x : Line} {T : List UInt8} (hT : txt x = T) (h : Fit x) (w : World) (hL : K.Laid w) : Calls Tryd.prog 31 #[.agg #[.int .i64 x.size, .int .i64 x.time, .string ⟨x.name.toArray⟩]] w fun e w' => e = .returned (.string ⟨T.toArray⟩) ∧ Below w.heap.size w w' := by
  have := written_any x h.nm h.s0 h.s1 h.t0 h.t1 w hL
  rw [hT] at this
  exact this

/-- a line in a box of its own -/
theorem boxed {w w1 : World} {a t n : Value} {T : TypeId} (hb : Below (w.alloc (.cells #[a, t, n] T)).heap.size (w.alloc (.cells #[a, t, n] T)) w1) :
    w1.cell? ⟨w.heap.size, 0, none⟩ = some a ∧ w1.cell? ⟨w.heap.size, 1, none⟩ = some t ∧ w1.cell? ⟨w.heap.size, 2, none⟩ = some n ∧ Below w.heap.size w w1 := by
  have hlt : w.heap.size < (w.alloc (.cells #[a, t, n] T)).heap.size := by simp
  refine ⟨?_, ?_, ?_, ((Below.refl _ _).alloc (Nat.le_refl _) _).trans (hb.mono (Nat.le_of_lt hlt))⟩
  · rw [hb.cell (p := ⟨w.heap.size, 0, none⟩) hlt, World.cell?_alloc_new]; rfl
  · rw [hb.cell (p := ⟨w.heap.size, 1, none⟩) hlt, World.cell?_alloc_new]; rfl
  · rw [hb.cell (p := ⟨w.heap.size, 2, none⟩) hlt, World.cell?_alloc_new]; rfl
theorem text_room {ls : List Line} {k : Nat} {T : List UInt8} (hf : ∀ x ∈ ls, Fit x) (hl : ls.length ≤ 1000) (hT : T.length ≤ 10000) : (text (ls.take k)).length + T.length ≤ 140737488355328 := by
  have h1 := text_len (ls.take k) (fun y hy => hf y (List.mem_of_mem_take hy))
  rw [List.length_take] at h1
  have h2 : min k ls.length ≤ 1000 := by omega
  have h3 : 10000 * min k ls.length ≤ 10000 * 1000 := Nat.mul_le_mul_left _ h2
  omega

set_option maxRecDepth 100000 in
set_option maxHeartbeats 4000000 in
theorem write_any (v : Value) (ls : List Line) (w : World) (hR : Sees v ls w) (hf : ∀ x ∈ ls, Fit x) (hl : ls.length ≤ 1000) (hL : K.Laid w) :
    Calls Tryd.prog 10 #[v] w fun e w' => e = .returned (.string ⟨(text ls).toArray⟩) ∧ Below w.heap.size w w' := by
  obtain ⟨oa, cap, rfl, hcells⟩ := hR
  have HC := Lib.hid hcells; have HF := Lib.hid hf; have HL := Lib.hid hL
  clear hcells hf hL
  go_enter Tryd.func10, Tryd.ntmps10
  go_wp2
  go_loopw [8] (fun i wr => ∃ k : Nat, k ≤ ls.length ∧ i = .int .i64 k ∧ Holds w.heap.size (text (ls.take k)) wr ∧ Below w.heap.size w wr) (fun i _ => ls.length - (intOf i).toNat)
  case atStart => exact ⟨0, Nat.zero_le _, rfl, Holds.new w, (Below.refl _ _).alloc (Nat.le_refl _) _⟩
  case round =>
    obtain ⟨k, hk, rfl, hH, hb⟩ := hrel
    have HH := Lib.hid hH
    clear hH
    by_cases hlt : k < ls.length
    · obtain ⟨x, hx⟩ : ∃ x, ls[k]? = some x := ⟨_, List.getElem?_eq_getElem hlt⟩
      have hfx : Fit x := HF.out x (List.mem_of_getElem? hx)
      obtain ⟨g, o, rfl, h0, h1, h2⟩ := HC.out k x hx
      have HS := Lib.hid (text_take hx)
      have hg := World.block_lt_of_cell? _ _ h0
      have d0 := (hb.cell (p := ⟨g, o + k * 3, none⟩) hg).trans h0
      have d1 := (hb.cell (p := ⟨g, o + k * 3 + 1, none⟩) hg).trans h1
      have d2 := (hb.cell (p := ⟨g, o + k * 3 + 2, none⟩) hg).trans h2
      clear h0 h1 h2
      cases hm : may x with
      | false =>
        have cv := fun w => valid_is hm w
        have HO : Hid (one x = []) := Lib.hid (by unfold one; rw [hm]; rfl)
        clear hm hx
        go_wp2_with (go_at_call 29; refine (cv _).mono ?_; rintro e w1 ⟨rfl, hb1⟩)
        obtain ⟨_, _, _, hb2⟩ := boxed hb1
        clear hb1
        go_roundw
        case rel => exact ⟨k + 1, by omega, by go_num, by rw [HS.out, HO.out, List.append_nil]; exact HH.out.below hb2, below_two hb hb2⟩
        case measure => simp [intOf]; omega
      | true =>
        obtain ⟨T, hT⟩ : ∃ T, txt x = T := ⟨_, rfl⟩
        have cv := fun w => valid_is hm w
        have cw := fun w h => written_is hT hfx w h
        have HO : Hid (one x = T) := Lib.hid (by unfold one; rw [hm]; exact hT)
        have hTl : T.length ≤ 10000 := by rw [← hT]; exact txt_len hfx
        have HRm := Lib.hid (text_room (k := k) HF.out hl hTl)
        clear hm hx hT hTl hfx
        generalize text (ls.take k) = R at HS HH HRm
        go_wp2_with (first
          | (go_at_call 29; refine (cv _).mono ?_; rintro e w1 ⟨rfl, hb1⟩; obtain ⟨y0, y1, y2, hb2⟩ := boxed hb1; clear hb1)
          | (go_at_call 31; refine (cw _ (HL.out.of_below (below_two hb hb2))).mono ?_; rintro e w2 ⟨rfl, hb3⟩)
          | (go_at_call 30; refine (((HH.out.below hb2).below hb3).write HRm.out).mono ?_; rintro e w3 ⟨rfl, hH3, hb4⟩; have HH3 := Lib.hid hH3; clear hH3))
        go_roundw
        case rel => exact ⟨k + 1, by omega, by go_num, by rw [HS.out, HO.out]; exact HH3.out, (below_two (below_two hb hb2) hb3).trans hb4⟩
        case measure => simp [intOf]; omega
    · have HS : Hid (text (ls.take k) = text ls) := Lib.hid (by rw [List.take_of_length_le (by omega)])
      have cs := HH.out.string
      rw [HS.out] at cs
      go_wp2_with (go_at_call 32; refine cs.mono ?_; rintro e w1 ⟨rfl, hb1⟩)
      go_ret
      exact ⟨rfl, hb.trans hb1⟩
end Go.Proofs.YtolobnokpmbajaaDoor.Z
