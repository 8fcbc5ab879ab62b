/-
  info's take: what a line tells is put down.
-/
import Derived.Test.YtjdccfegmllphaaGreatDoorItake
namespace Go.Proofs.YtjdccfegmllphaaGreatDoor.I
open Go.RowKit Go.Shelf

theorem tak_no {l k v : List UInt8} (h : Lib.cut l [61] = (k, v, false)) (r : Rec) : tak r l = r := by unfold tak; rw [h]; rfl
theorem tak_p {l k v : List UInt8} (h : Lib.cut l [61] = (k, v, true)) (hk : bare0 k = kPath) (r : Rec) : tak r l = fillP r (bare0 v) := by
  unfold tak; rw [h, if_pos rfl, if_pos hk]
theorem tak_d {l k v : List UInt8} (h : Lib.cut l [61] = (k, v, true)) (hk : bare0 k = kDate) (r : Rec) : tak r l = fillD r (bare0 v) := by
  unfold tak; rw [h, if_pos rfl, if_neg (by rw [hk]; decide), if_pos hk]
theorem tak_o {l k v : List UInt8} (h : Lib.cut l [61] = (k, v, true)) (hk : bare0 k ≠ kPath) (hk2 : bare0 k ≠ kDate) (r : Rec) : tak r l = r := by
  unfold tak; rw [h, if_pos rfl, if_neg hk, if_neg hk2]

set_option maxHeartbeats 4000000 in
theorem take_any (B : Nat) (r : Rec) (l : List UInt8) (hl : l.length ≤ 5000) (w : World) (h : RecAt B r w) :
    Calls Tryz.prog 17 #[.pointer (some ⟨B, 0, none⟩), .string ⟨l.toArray⟩] w fun e w' => (∃ u, e = .returned u) ∧ RecAt B (tak r l) w' ∧ w.grownBy w' (some B) := by
  obtain ⟨k, v, b, hcut⟩ : ∃ k v b, Lib.cut l [61] = (k, v, b) := ⟨_, _, _, rfl⟩
  have hle := cut_le 61 l
  rw [hcut] at hle
  dsimp only at hle
  have cc := fun w => cut_any 61 l (by omega) hcut w
  cases b with
  | false =>
    have HT := Lib.hid (tak_no hcut r)
    have HR := Lib.hid h
    clear h hcut hle
    go_enter Tryz.func17, Tryz.ntmps17
    go_wp2_with (go_at_call 34; refine (cc _).mono ?_; rintro e w1 ⟨rfl, hb1⟩)
    refine bodyPost_ret (results_none rfl _ _ _) rfl ?_
    exact ⟨⟨_, rfl⟩, by rw [HT.out]; exact HR.out.below hb1 HR.out.lt, grown_trans hb1 (grown_refl _ _)⟩
  | true =>
    have ck := fun w => trim_blanks k (by omega) w
    have cv := fun w => trim_blanks v (by omega) w
    have HO := Lib.hid (tak_o hcut · · r)
    have HP := Lib.hid (tak_p hcut · r)
    have HD := Lib.hid (tak_d hcut · r)
    have HR := Lib.hid h
    clear h hcut hle
    generalize bare0 k = kk at ck HO HP HD
    generalize bare0 v = vv at cv HP HD
    by_cases h1 : kk = kPath
    · have HT := Lib.hid (HP.out h1)
      subst h1
      unfold kPath at ck
      clear HO HP HD
      cases hpf : r.pf with
      | true =>
        have HF : Hid (fillP r vv = r) := Lib.hid (by unfold fillP; rw [if_pos hpf])
        have HQ := Lib.hid hpf; clear hpf
        go_enter Tryz.func17, Tryz.ntmps17
        go_wp2_with (first
          | (go_at_call 34; refine (cc _).mono ?_; rintro e w1 ⟨rfl, hb1⟩; have R1 := Lib.hid (HR.out.below hb1 HR.out.lt))
          | (go_at_call 35; first | (refine (cv _).mono ?_; clear cv; rintro e w2 ⟨rfl, hb2⟩; have R2 := Lib.hid (R1.out.below hb2 R1.out.lt)) | (refine (ck _).mono ?_; rintro e w3 ⟨rfl, hb3⟩; have R3 := Lib.hid (R2.out.below hb3 R2.out.lt)))
          | (go_at_call 36; refine (fill_done B 0 1 rfl _ _ (by have := R3.out.c1; rw [HQ.out] at this; exact this)).mono ?_; rintro e w4 ⟨⟨u, rfl⟩, rfl⟩))
        go_end0
        have hb := hb1.trans ((hb2.mono hb1.size).trans (hb3.mono (Nat.le_trans hb1.size hb2.size)))
        exact ⟨⟨_, rfl⟩, by rw [HT.out, HF.out]; exact R3.out, grown_trans hb (grown_refl _ _)⟩
      | false =>
        have HQ := Lib.hid hpf; clear hpf
        go_enter Tryz.func17, Tryz.ntmps17
        go_wp2_with (first
          | (go_at_call 34; refine (cc _).mono ?_; rintro e w1 ⟨rfl, hb1⟩; have R1 := Lib.hid (HR.out.below hb1 HR.out.lt))
          | (go_at_call 35; first | (refine (cv _).mono ?_; clear cv; rintro e w2 ⟨rfl, hb2⟩; have R2 := Lib.hid (R1.out.below hb2 R1.out.lt)) | (refine (ck _).mono ?_; rintro e w3 ⟨rfl, hb3⟩; have R3 := Lib.hid (R2.out.below hb3 R2.out.lt)))
          | (go_at_call 36; refine (fill_new B 0 1 rfl _ _ (by have := R3.out.c1; rw [HQ.out] at this; exact this) R3.out.c0 (R3.out.open _) (R3.out.open _)).mono ?_; rintro e w4 ⟨⟨u, rfl⟩, rfl⟩))
        go_end0
        have hb := hb1.trans ((hb2.mono hb1.size).trans (hb3.mono (Nat.le_trans hb1.size hb2.size)))
        exact ⟨⟨_, rfl⟩, by rw [HT.out]; exact R3.out.fillP HQ.out _, grown_trans hb (grown_two _ _ _ _ _ _)⟩
    by_cases h2 : kk = kDate
    · have HT := Lib.hid (HD.out h2)
      subst h2
      unfold kDate at ck
      clear HO HP HD
      cases hpf : r.df with
      | true =>
        have HF : Hid (fillD r vv = r) := Lib.hid (by unfold fillD; rw [if_pos hpf])
        have HQ := Lib.hid hpf; clear hpf
        go_enter Tryz.func17, Tryz.ntmps17
        go_wp2_with (first
          | (go_at_call 34; refine (cc _).mono ?_; rintro e w1 ⟨rfl, hb1⟩; have R1 := Lib.hid (HR.out.below hb1 HR.out.lt))
          | (go_at_call 35; first | (refine (cv _).mono ?_; clear cv; rintro e w2 ⟨rfl, hb2⟩; have R2 := Lib.hid (R1.out.below hb2 R1.out.lt)) | (refine (ck _).mono ?_; rintro e w3 ⟨rfl, hb3⟩; have R3 := Lib.hid (R2.out.below hb3 R2.out.lt)))
          | (go_at_call 36; refine (fill_done B 2 3 rfl _ _ (by have := R3.out.c3; rw [HQ.out] at this; exact this)).mono ?_; rintro e w4 ⟨⟨u, rfl⟩, rfl⟩))
        go_end0
        have hb := hb1.trans ((hb2.mono hb1.size).trans (hb3.mono (Nat.le_trans hb1.size hb2.size)))
        exact ⟨⟨_, rfl⟩, by rw [HT.out, HF.out]; exact R3.out, grown_trans hb (grown_refl _ _)⟩
      | false =>
        have HQ := Lib.hid hpf; clear hpf
        go_enter Tryz.func17, Tryz.ntmps17
        go_wp2_with (first
          | (go_at_call 34; refine (cc _).mono ?_; rintro e w1 ⟨rfl, hb1⟩; have R1 := Lib.hid (HR.out.below hb1 HR.out.lt))
          | (go_at_call 35; first | (refine (cv _).mono ?_; clear cv; rintro e w2 ⟨rfl, hb2⟩; have R2 := Lib.hid (R1.out.below hb2 R1.out.lt)) | (refine (ck _).mono ?_; rintro e w3 ⟨rfl, hb3⟩; have R3 := Lib.hid (R2.out.below hb3 R2.out.lt)))
          | (go_at_call 36; refine (fill_new B 2 3 rfl _ _ (by have := R3.out.c3; rw [HQ.out] at this; exact this) R3.out.c2 (R3.out.open _) (R3.out.open _)).mono ?_; rintro e w4 ⟨⟨u, rfl⟩, rfl⟩))
        go_end0
        have hb := hb1.trans ((hb2.mono hb1.size).trans (hb3.mono (Nat.le_trans hb1.size hb2.size)))
        exact ⟨⟨_, rfl⟩, by rw [HT.out]; exact R3.out.fillD HQ.out _, grown_trans hb (grown_two _ _ _ _ _ _)⟩
    have HT := Lib.hid (HO.out h1 h2)
    have h1' : (kk == [80, 97, 116, 104]) = false := by rw [beq_eq_false_iff_ne]; exact h1
    have h2' : (kk == [68, 101, 108, 101, 116, 105, 111, 110, 68, 97, 116, 101]) = false := by rw [beq_eq_false_iff_ne]; exact h2
    clear HO HP HD h1 h2
    go_enter Tryz.func17, Tryz.ntmps17
    go_wp2_with (first
      | (go_at_call 34; refine (cc _).mono ?_; rintro e w1 ⟨rfl, hb1⟩; have R1 := Lib.hid (HR.out.below hb1 HR.out.lt))
      | (go_at_call 35; first | (refine (cv _).mono ?_; clear cv; rintro e w2 ⟨rfl, hb2⟩; have R2 := Lib.hid (R1.out.below hb2 R1.out.lt)) | (refine (ck _).mono ?_; rintro e w3 ⟨rfl, hb3⟩; have R3 := Lib.hid (R2.out.below hb3 R2.out.lt)))
    )
    go_end0
    have hb := hb1.trans ((hb2.mono hb1.size).trans (hb3.mono (Nat.le_trans hb1.size hb2.size)))
    exact ⟨⟨_, rfl⟩, by rw [HT.out]; exact R3.out, grown_trans hb (grown_refl _ _)⟩
end Go.Proofs.YtjdccfegmllphaaGreatDoor.I
