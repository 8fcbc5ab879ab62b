/-
  info's eachOfGroup: the lines of the group are handed to take, in order.
-/
import Derived.Test.YtjdccfegmllphaaGreatDoorItak2
namespace Go.Proofs.YtjdccfegmllphaaGreatDoor.I
open Go.RowKit Go.Shelf
attribute [local go_sem] Oper.semAt_some

theorem scope_wide {n : Nat} {c : Code} {Q : Exit → Act → World → Prop} {a : Act} {w : World} (h : c.wpIn Fence.wide n Tryz.prog (Exit.noGoto Q) a w) : (Code.scope c).wpIn Fence.wide n Tryz.prog Q a w :=
  wpIn_wide.2 (wp_scope_straight (wpIn_wide.1 h))
/-- where the run stands behind these lines -/
def At (b : Bool) (r : Rec) (pre : List Ln) : Prop := ∀ rest, run false r0 (raw pre ++ rest) = run b r rest
def Out (r : Rec) (pre : List Ln) : Prop := ∀ rest, run false r0 (raw pre ++ rest) = r
theorem At.start : At false r0 [] := fun _ => rfl
theorem At.head {r : Rec} {pre : List Ln} {x : Ln} (h : At false r pre) (hx : x.1 = I.head) : At true r (pre ++ [x]) := fun rest => by
  rw [raw_snoc, List.append_assoc, h, List.singleton_append, hx, run_head]
theorem At.other {r : Rec} {pre : List Ln} {x : Ln} (h : At false r pre) (hx : x.1 ≠ I.head) : Out r (pre ++ [x]) := fun rest => by
  rw [raw_snoc, List.append_assoc, h, List.singleton_append, run_other _ hx]
theorem At.stop {r : Rec} {pre : List Ln} {x : Ln} (h : At true r pre) (hx : Lib.hasPrefix x.1 [91] = true) : Out r (pre ++ [x]) := fun rest => by
  rw [raw_snoc, List.append_assoc, h, List.singleton_append, run_end _ hx]
theorem At.take {r : Rec} {pre : List Ln} {x : Ln} (h : At true r pre) (hx : Lib.hasPrefix x.1 [91] = false) : At true (tak r x.1) (pre ++ [x]) := fun rest => by
  rw [raw_snoc, List.append_assoc, h, List.singleton_append, run_take _ hx]
theorem At.done {b : Bool} {r : Rec} {xs : List Ln} {s : List UInt8} (h : At b r xs) (hs : raw xs = kept s) : rec_ s = r := by
  have := h []
  rw [List.append_nil, hs] at this
  unfold rec_
  rw [this]; cases b <;> rfl
theorem Out.done {r : Rec} {xs : List Ln} {s : List UInt8} (h : Out r xs) (hs : raw xs <+: kept s) : rec_ s = r := by
  obtain ⟨rest, hr⟩ := hs
  have := h rest
  rw [hr] at this
  exact this
theorem recAt_own (B : Nat) (p : List Ln → Rec → Prop) : Own (fun (s : List Ln) W => ∃ r, p s r ∧ RecAt B r W) := fun s X Y row hs hg hrow => by
  obtain ⟨r, hp, hr⟩ := hs
  exact ⟨r, hp, hr.kept hg (fun e' => by obtain ⟨o, ho, hc⟩ := hrow B e'.symm; rw [show X.heap[B]? = _ from hr] at ho; cases ho; cases hc)⟩

theorem state_own (B C : Nat) (p : List Ln → Bool → Rec → Prop) : Own (fun (s : List Ln) W => ∃ b r, p s b r ∧ Boxed W C 4 (.bool b) ∧ RecAt B r W) := fun s X Y row hs hg hrow => by
  obtain ⟨b, r, hp, hb, hr⟩ := hs
  exact ⟨b, r, hp, hb.kept hg (fun e' => by obtain ⟨o, ho, hc⟩ := hrow C e'.symm; rw [show X.heap[C]? = _ from hb] at ho; cases ho; cases hc), hr.kept hg (fun e' => by obtain ⟨o, ho, hc⟩ := hrow B e'.symm; rw [show X.heap[B]? = _ from hr] at ho; cases ho; cases hc)⟩
theorem RecAt.other {B C : Nat} {r : Rec} {w : World} (h : RecAt B r w) (hne : B ≠ C) (v : Value) : RecAt B r (w.setCell ⟨C, 0, none⟩ v) := h.kept (grownBy_setCell' w C v) (fun e => hne (by cases e; rfl))
theorem below_row {B : Nat} {a w w' : World} (h : Below B a w) (hg : w.grownBy w' (some B)) (hB : B ≤ w.heap.size) : Below B a w' := h.grown hg hB (fun k e => by cases e; exact Nat.le_refl _)
abbrev takeOf (B : Nat) : Value := .func (.func 17) #[.pointer (some ⟨B, 0, none⟩)] #[]

set_option maxRecDepth 100000 in
set_option maxHeartbeats 4000000 in
theorem eachOfGroup_any (s : List UInt8) (hs : s.length ≤ 5000) (B : Nat) (w : World) (h : RecAt B r0 w) :
    Calls Tryz.prog 16 #[.string ⟨s.toArray⟩, takeOf B] w fun e w' => (∃ u, e = .returned u) ∧ RecAt B (rec_ s) w' ∧ Below B w w' := by
  have hlt := h.lt
  refine (callsIn_wide (n := 5)).1 ?_
  refine callsIn_of_wp_marks Tryz.func16 rfl trivial ?_ rfl
  simp only [Tryz.ntmps16, List.size_toArray, List.length_cons, List.length_nil, Nat.reduceAdd, Nat.reduceSub, Array.replicate_succ, Array.replicate_zero, List.push_toArray, List.append_toArray, List.nil_append, List.cons_append]
  gi_wp2
  refine scope_wide ?_
  gi_wp2
  refine wpIn_label ?_
  gi_wp2_with (refine ⟨trivial, ?_⟩; gi_at_call 32; refine (linesOf_in _ _ _).mono ?_; rintro e w' ⟨rfl, rfl⟩)
  have bT := ((Boxed.new w 44 (takeOf B)).alloc (.cells #[.bool false] 4)).alloc (.cells #[.string ⟨s.toArray⟩] 9)
  have bB := (Boxed.new (w.alloc (.cells #[takeOf B] 44)) 4 (.bool false)).alloc (.cells #[.string ⟨s.toArray⟩] 9)
  rw [World.size_alloc] at bB
  have bN := Boxed.new ((w.alloc (.cells #[takeOf B] 44)).alloc (.cells #[.bool false] 4)) 9 (.string ⟨s.toArray⟩)
  rw [World.size_alloc, World.size_alloc] at bN
  have hB0 : Below w.heap.size w (((w.alloc (.cells #[takeOf B] 44)).alloc (.cells #[.bool false] 4)).alloc (.cells #[.string ⟨s.toArray⟩] 9)) := (((Below.refl _ w).alloc (Nat.le_refl _) _).alloc (by simp) _).alloc (by simp; omega) _
  have hR0 := h.below hB0 hlt
  refine wpIn_rangeFunc_ownG rfl (by omega) (gf := 53) (lb := #[.pointer (some ⟨w.heap.size + 1 + 1, 0, none⟩)]) rfl trivial (enters_of Tryz.func53 (by kernel_rfl) rfl)
    (lines_stops _ (by omega) (w.heap.size + 1 + 1) s hs _ (by simp) bN.cell) (fun _ _ => trivial) (fun _ _ _ _ _ _ _ _ => trivial) (Below.refl _ _) (fun _ => rfl)
    (fun pre W => (∃ b r, At b r pre ∧ Boxed W (w.heap.size + 1) 4 (.bool b) ∧ RecAt B r W) ∧ Boxed W w.heap.size 44 (takeOf B) ∧ Below B w W)
    (fun c pre W => (∃ r, (c = .exit 0 ∧ Out r pre) ∧ RecAt B r W) ∧ Below B w W)
    (OwnFrom.and (Own.from (state_own B (w.heap.size + 1) (fun pre b r => At b r pre)) _) (OwnFrom.and (Own.from (boxed_own _ _ (fun _ => takeOf B)) _) (ownFrom_below (Nat.le_of_lt hlt) (by simp; omega))))
    (fun c => OwnFrom.and (Own.from (recAt_own B (fun pre r => c = .exit 0 ∧ Out r pre)) _) (ownFrom_below (Nat.le_of_lt hlt) (by simp; omega)))
    ⟨⟨false, r0, At.start, bB, hR0⟩, bT, hB0.mono (Nat.le_of_lt hlt)⟩
    (fun x => { tmps := #[.string ⟨s.toArray⟩, takeOf B, undef, .pointer (some ⟨w.heap.size, 0, none⟩), .pointer (some ⟨w.heap.size + 1, 0, none⟩), .string ⟨x.1.toArray⟩, .string ⟨s.toArray⟩, .func (.func 53) #[] #[.pointer (some ⟨w.heap.size + 1 + 1, 0, none⟩)], .string ⟨x.1.toArray⟩, undef, undef, undef, undef, undef, undef, undef, undef, undef, undef, undef, undef, undef, undef, undef, undef, undef], defers := [] }) ?assign ?body ?done ?stop
  case assign =>
    intro l x W K hK
    gi_wp2
    exact hK
  case body =>
    rintro l pre ⟨x, hxl⟩ W ⟨⟨b, r, hat, hb, hr⟩, ht, hB⟩ hN
    have hsz := hB.size
    have hcb := hb.cell
    have hfb := hb.frozen
    have hct := ht.cell
    have HB := Lib.hid hb; have HT := Lib.hid ht; have HR := Lib.hid hr
    clear hr hb ht bT bB bN hB0 hR0 h hN
    cases b with
    | false =>
      by_cases hx : x = head
      · have HA := Lib.hid (hat.head (x := ⟨x, hxl⟩) hx)
        clear hat
        subst hx
        unfold head at *
        gi_wp2
        exact ⟨(KeepsOthers.setCell _ _ _).from _, trivial, ⟨true, r, HA.out, HB.out.set _, HR.out.other (by omega) _⟩, HT.out.other (by omega) _, hB.setCell (p := ⟨w.heap.size + 1, 0, none⟩) (by show B ≤ w.heap.size + 1; omega) _⟩
      · have HA := Lib.hid (hat.other (x := ⟨x, hxl⟩) hx)
        have hx' : (x == [91, 84, 114, 97, 115, 104, 32, 73, 110, 102, 111, 93]) = false := by rw [beq_eq_false_iff_ne]; exact hx
        clear hat hx
        gi_wp2
        refine ⟨trivial, ?_⟩
        gi_wp2
        exact ⟨(KeepsOthers.refl _).from _, ⟨r, ⟨rfl, HA.out⟩, HR.out⟩, hB⟩
    | true =>
      have cp := fun w => prefix_one 91 x w
      cases hx : Lib.hasPrefix x [91] with
      | true =>
        have HA := Lib.hid (hat.stop (x := ⟨x, hxl⟩) hx)
        rw [hx] at cp
        clear hat hx
        gi_wp2_with (refine ⟨trivial, ?_⟩; gi_at_call 33; refine (CallsIn.inRound l (callsIn_wide.2 (cp _))).mono ?_; rintro e w3 ⟨rfl, rfl⟩)
        exact ⟨(KeepsOthers.refl _).from _, ⟨r, ⟨rfl, HA.out⟩, HR.out⟩, hB⟩
      | false =>
        have HA := Lib.hid (hat.take (x := ⟨x, hxl⟩) hx)
        rw [hx] at cp
        clear hat hx
        have ct := fun w => take_any B r x hxl w
        gi_wp2_with (first
          | (refine ⟨trivial, ?_⟩; gi_at_call 33; refine (CallsIn.inRound l (callsIn_wide.2 (cp _))).mono ?_; rintro e w3 ⟨rfl, rfl⟩)
          | (refine ⟨trivial, ?_⟩; gi_at_call 17; refine (CallsIn.inRound l (callsIn_wide.2 (ct _ HR.out))).mono ?_; rintro e w4 ⟨⟨u, rfl⟩, hR4, hG4⟩))
        exact ⟨KeepsFrom.of_grownBy hG4 (fun j e => by cases e; simp; omega), trivial, ⟨true, _, HA.out, HB.out.kept hG4 (by simp; omega), hR4⟩, HT.out.kept hG4 (by simp; omega), below_row hB hG4 (by omega)⟩
  case done =>
    rintro D ys W hD hys ⟨⟨b, r, hat, hb, hr⟩, ht, hB⟩ hK
    have HS := Lib.hid (hat.done hys)
    clear bT bB bN hB0 hR0 h
    gi_wp2
    rw [Exit.noGoto_normal]
    refine ⟨by simp, .inl ⟨_, _, rfl, run_takeDeferred hK, ?_⟩⟩
    refine ⟨_, results_none rfl _ _ _, ⟨_, rfl⟩, ?_, hB.trans (belowK_b (w := w) (Nat.le_of_lt hlt) W D _ _ (by simp at hD; omega) hK rfl rfl)⟩
    rw [HS.out]
    exact hr.kept (grownBy_putObj' W D _) (by intro e; cases e; simp at hD; omega)
  case stop =>
    rintro D c pre W hD hSp ⟨⟨r, ⟨rfl, hout⟩, hr⟩, hB⟩ hK
    have HS := Lib.hid (hout.done hSp)
    clear bT bB bN hB0 hR0 h
    gi_wp2
    rw [Exit.noGoto_normal]
    refine ⟨by simp, .inl ⟨_, _, rfl, run_takeDeferred hK, ?_⟩⟩
    refine ⟨_, results_none rfl _ _ _, ⟨_, rfl⟩, ?_, hB.trans (belowK_b (w := w) (Nat.le_of_lt hlt) W D _ _ (by simp at hD; omega) hK rfl rfl)⟩
    rw [HS.out]
    exact hr.kept (grownBy_putObj' W D _) (by intro e; cases e; simp at hD; omega)
end Go.Proofs.YtjdccfegmllphaaGreatDoor.I
