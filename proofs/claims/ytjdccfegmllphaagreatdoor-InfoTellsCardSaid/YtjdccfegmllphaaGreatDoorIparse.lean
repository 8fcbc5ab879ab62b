/-
  info.Parse: the path and the time of a text's group, or the error.
-/
import Derived.Test.YtjdccfegmllphaaGreatDoorIwrite
namespace Go.Proofs.YtjdccfegmllphaaGreatDoor.I
open Go.RowKit Go.Shelf

/-- what Parse answers: the path, the time, the error -/
def tell (p : Option (List UInt8)) (q : Int × Int) : List UInt8 × Int × Int := match p with
  | none => ([], 0, 2)
  | some l => if vd l then (l, if q.2 = 0 then q.1 else -1, 0) else ([], 0, 2)
noncomputable def pse (s : List UInt8) : List UInt8 × Int × Int := tell (Q.M.dec (rec_ s).path) (ps (rec_ s).date)
def ParOut (o : List UInt8 × Int × Int) (e : Ending) : Prop := e = .returned (.tuple #[.string ⟨o.1.toArray⟩, .int .i64 o.2.1, .int .i64 o.2.2])
theorem decode_some {l p : List UInt8} (hl : l.length ≤ 10000) (h : Q.M.dec l = some p) (w : World) : Calls Tryz.prog 18 #[.string ⟨l.toArray⟩] w fun e w' => e = .returned (.tuple #[.string ⟨p.toArray⟩, .int .i64 0]) ∧ Below w.heap.size w w' :=
  Q.decode_is ⟨l.toArray⟩ (by rw [size_l]; exact hl) p h w
theorem decode_none {l : List UInt8} (hl : l.length ≤ 10000) (h : Q.M.dec l = none) (w : World) : Calls Tryz.prog 18 #[.string ⟨l.toArray⟩] w fun e w' => e = .returned (.tuple #[.string ⟨#[]⟩, .int .i64 2]) ∧ Below w.heap.size w w' :=
  Q.decode_no ⟨l.toArray⟩ (by rw [size_l]; exact hl) h w

set_option maxHeartbeats 2000000 in
theorem parse_any (s : List UInt8) (hs : s.length ≤ 5000) (w : World) (hL : Laid w) :
    Calls Tryz.prog 7 #[.string ⟨s.toArray⟩] w fun e w' => ParOut (pse s) e ∧ Below w.heap.size w w' := by
  have hle := rec_le s
  have cg := fun (w : World) h => eachOfGroup_any s hs w.heap.size (w.alloc (.cells #[.string ⟨#[]⟩, .bool false, .string ⟨#[]⟩, .bool false] 42)) h
  unfold pse
  generalize rec_ s = R at cg hle
  obtain ⟨l, pf, t, df⟩ := R
  dsimp only at hle ⊢
  have cp := fun (w : World) (hL : Laid w) {n f : Int} (hp : ps t = (n, f)) => parse_is (T := t) (by omega) hp w hL
  obtain ⟨n, f, hp⟩ : ∃ n f, ps t = (n, f) := ⟨_, _, rfl⟩
  have cp' := fun w hL => cp w hL hp
  rw [hp]
  clear cp hp
  have hB0 : Below w.heap.size w (w.alloc (.cells #[.string ⟨#[]⟩, .bool false, .string ⟨#[]⟩, .bool false] 42)) := (Below.refl _ w).alloc (Nat.le_refl _) _
  have cg1 := cg w (RecAt.new w)
  clear cg
  cases hd : Q.M.dec l with
  | none =>
    have cd := fun w => decode_none (by omega) hd w
    clear hd hle
    have HL := Lib.hid hL; clear hL
    go_enter Tryz.func7, Tryz.ntmps7
    go_wp2_with (first
      | (go_at_call 16; refine cg1.mono ?_; rintro e w1 ⟨⟨u, rfl⟩, hR, hb1⟩; have hc0 := hR.c0; have hc2 := hR.c2; dsimp only at hc0 hc2; have HR := Lib.hid hR; clear hR)
      | (go_at_call 18; refine (cd _).mono ?_; rintro e w2 ⟨rfl, hb2⟩))
    go_ret3
    exact ⟨rfl, hB0.trans (hb1.trans (hb2.mono (Nat.le_of_lt HR.out.lt)))⟩
  | some p =>
    have cd := fun w => decode_some (by omega) hd w
    clear hd hle
    have HL := Lib.hid hL; clear hL
    cases hv : vd p with
    | false =>
      have cv := fun w => valid_is hv w
      have HT : Hid (tell (some p) (n, f) = ([], 0, 2)) := Lib.hid (by simp [tell, hv])
      clear hv
      go_enter Tryz.func7, Tryz.ntmps7
      go_wp2_with (first
      | (go_at_call 16; refine cg1.mono ?_; rintro e w1 ⟨⟨u, rfl⟩, hR, hb1⟩; have hc0 := hR.c0; have hc2 := hR.c2; dsimp only at hc0 hc2; have HR := Lib.hid hR; clear hR)
      | (go_at_call 18; refine (cd _).mono ?_; rintro e w2 ⟨rfl, hb2⟩; have hc2 := ((HR.out.below hb2 HR.out.lt)).c2; dsimp only at hc2)
      | (go_at_call 9; refine (cv _).mono ?_; rintro e w3 ⟨rfl, hw3⟩; obtain rfl := hw3.symm))
      go_ret3
      exact ⟨by rw [HT.out]; rfl, hB0.trans (hb1.trans (hb2.mono (Nat.le_of_lt HR.out.lt)))⟩
    | true =>
      have cv := fun w => valid_is hv w
      by_cases hf : f = 0
      · subst hf
        have HT : Hid (tell (some p) (n, 0) = (p, n, 0)) := Lib.hid (by simp [tell, hv])
        clear hv
        go_enter Tryz.func7, Tryz.ntmps7
        go_wp2_with (first
      | (go_at_call 16; refine cg1.mono ?_; rintro e w1 ⟨⟨u, rfl⟩, hR, hb1⟩; have hc0 := hR.c0; have hc2 := hR.c2; dsimp only at hc0 hc2; have HR := Lib.hid hR; clear hR)
      | (go_at_call 18; refine (cd _).mono ?_; rintro e w2 ⟨rfl, hb2⟩; have hc2 := ((HR.out.below hb2 HR.out.lt)).c2; dsimp only at hc2)
      | (go_at_call 9; refine (cv _).mono ?_; rintro e w3 ⟨rfl, hw3⟩; obtain rfl := hw3.symm)
          | (go_at_call 19; refine (cp' _ (HL.out.of_below (hB0.trans (hb1.trans (hb2.mono (Nat.le_of_lt HR.out.lt)))))).mono ?_; rintro e w4 ⟨rfl, hb4⟩))
        go_ret3
        exact ⟨by rw [HT.out]; rfl, below_two (hB0.trans (hb1.trans (hb2.mono (Nat.le_of_lt HR.out.lt)))) hb4⟩
      · have HT : Hid (tell (some p) (n, f) = (p, -1, 0)) := Lib.hid (by simp [tell, hv, hf])
        clear hv
        go_enter Tryz.func7, Tryz.ntmps7
        go_wp2_with (first
      | (go_at_call 16; refine cg1.mono ?_; rintro e w1 ⟨⟨u, rfl⟩, hR, hb1⟩; have hc0 := hR.c0; have hc2 := hR.c2; dsimp only at hc0 hc2; have HR := Lib.hid hR; clear hR)
      | (go_at_call 18; refine (cd _).mono ?_; rintro e w2 ⟨rfl, hb2⟩; have hc2 := ((HR.out.below hb2 HR.out.lt)).c2; dsimp only at hc2)
      | (go_at_call 9; refine (cv _).mono ?_; rintro e w3 ⟨rfl, hw3⟩; obtain rfl := hw3.symm)
          | (go_at_call 19; refine (cp' _ (HL.out.of_below (hB0.trans (hb1.trans (hb2.mono (Nat.le_of_lt HR.out.lt)))))).mono ?_; rintro e w4 ⟨rfl, hb4⟩))
        go_ret3
        exact ⟨by rw [HT.out]; rfl, below_two (hB0.trans (hb1.trans (hb2.mono (Nat.le_of_lt HR.out.lt)))) hb4⟩
theorem parse_is {s p : List UInt8} {n f : Int} (hs : s.length ≤ 5000) (h : pse s = (p, n, f)) (w : World) (hL : Laid w) :
    Calls Tryz.prog 7 #[.string ⟨s.toArray⟩] w fun e w' => e = .returned (.tuple #[.string ⟨p.toArray⟩, .int .i64 n, .int .i64 f]) ∧ Below w.heap.size w w' :=
  (parse_any s hs w hL).mono fun e w' ⟨he, hb⟩ => ⟨by rw [h] at he; exact he, hb⟩
end Go.Proofs.YtjdccfegmllphaaGreatDoor.I
