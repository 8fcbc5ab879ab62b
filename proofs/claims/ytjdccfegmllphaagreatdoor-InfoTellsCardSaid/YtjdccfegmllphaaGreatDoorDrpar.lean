/-
  What the reference's Parse does.
-/
import Derived.Test.YtjdccfegmllphaaGreatDoorDrs
import Derived.Test.YtjdccfegmllphaaGreatDoorDrf
namespace Go.Proofs.YtjdccfegmllphaaGreatDoor
open Go.RowKit Go.Shelf

def kk (p : Nat) : Nat := ([0, 0, 0, 0, 0, 1, 1, 1, 2, 2, 2, 3, 3, 3, 4, 4, 4, 5, 5, 5] : List Nat).getD p 0
def dd (p : Nat) : Nat := ([0, 1, 2, 3, 4, 0, 1, 2, 0, 1, 2, 0, 1, 2, 0, 1, 2, 0, 1, 2] : List Nat).getD p 0
theorem form_fin : ∀ p : Fin 19, kk p.val < 6 ∧ dd p.val ≤ 4 ∧ (form.getD p.val 0 = 48 → kk (p.val + 1) = kk p.val ∧ dd (p.val + 1) = dd p.val + 1 ∧ dd p.val < 4) ∧ (form.getD p.val 0 ≠ 48 → kk (p.val + 1) = kk p.val + 1 ∧ dd (p.val + 1) = 0 ∧ kk p.val < 5) := by decide +kernel
abbrev formB : ByteArray := ⟨#[48, 48, 48, 48, 45, 48, 48, 45, 48, 48, 84, 48, 48, 58, 48, 48, 58, 48, 48]⟩
theorem form_drop (p : Nat) (h : p < formB.size) : form.drop p = (formB[p]'h) :: form.drop (p + 1) := drop_cons formB p h
theorem getD_at (s : ByteArray) (k : Nat) (h : k < s.size) : s.data.toList.getD k 0 = s[k]'h := by
  simp [List.getD, List.getElem?_eq_getElem (show k < s.data.toList.length by simpa using h)]; rfl
theorem form_at (p : Nat) (h : p < formB.size) : form.getD p 0 = formB[p]'h := getD_at formB p h
theorem form_facts (p : Nat) (h : p < 19) : kk p < 6 ∧ dd p ≤ 4 ∧ ((formB[p]'h).toNat = 48 → kk (p + 1) = kk p ∧ dd (p + 1) = dd p + 1 ∧ dd p < 4) ∧ ((formB[p]'h).toNat ≠ 48 → kk (p + 1) = kk p + 1 ∧ dd (p + 1) = 0 ∧ kk p < 5) := by
  have := form_fin ⟨p, h⟩
  rw [form_at p h] at this
  refine ⟨this.1, this.2.1, fun e => this.2.2.1 ?_, fun e => this.2.2.2 ?_⟩
  · apply UInt8.toNat_inj.1; rw [e]; rfl
  · intro e2; apply e; rw [e2]; rfl
theorem form_drop' {F : ByteArray} (hF : formB = F) (p : Nat) (h : p < F.size) : form.drop p = (F[p]'h) :: form.drop (p + 1) := by subst hF; exact form_drop p h
theorem form_facts' {F : ByteArray} (hF : formB = F) (p : Nat) (h : p < F.size) : kk p < 6 ∧ dd p ≤ 4 ∧ ((F[p]'h).toNat = 48 → kk (p + 1) = kk p ∧ dd (p + 1) = dd p + 1 ∧ dd p < 4) ∧ ((F[p]'h).toNat ≠ 48 → kk (p + 1) = kk p + 1 ∧ dd (p + 1) = 0 ∧ kk p < 5) := by subst hF; exact form_facts p h
theorem form_size {F : ByteArray} (hF : formB = F) : F.size = 19 := by subst hF; rfl
set_option maxHeartbeats 1000000 in
theorem refParse_long (s : ByteArray) (hs : s.size ≠ 19) (w : World) :
    Calls Tryz.prog 23 #[.string s] w fun e w' => e = .returned (.tuple #[.int .i64 0, .int .i64 2]) ∧ Below w.heap.size w w' := by
  have h19 : ((s.size : Int) == 19) = false := by simpa using (by omega : ¬ (s.size : Int) = 19)
  go_enter Tryz.func23, Tryz.ntmps23
  go_wp2
  go_ret2
  exact ⟨rfl, Below.refl _ _⟩
theorem rf_step_digit {f b : UInt8} {fs bs : List UInt8} {k : Nat} {c : List Int} (hf : f.toNat = 48) (hb0 : 48 ≤ b.toNat) (hb1 : b.toNat ≤ 57) : rf (f :: fs) (b :: bs) k c = rf fs bs k (c.set k (10 * c.getD k 0 + ((b.toNat : Int) - 48))) := by
  have e : f = 48 := by apply UInt8.toNat_inj.1; rw [hf]; rfl
  rw [rf, if_pos e, if_pos ((M.dig_iff b).2 ⟨hb0, hb1⟩)]
theorem rf_bad_digit {f b : UInt8} {fs bs : List UInt8} {k : Nat} {c : List Int} (hf : f.toNat = 48) (hb : b.toNat < 48 ∨ 57 < b.toNat) : rf (f :: fs) (b :: bs) k c = none := by
  have e : f = 48 := by apply UInt8.toNat_inj.1; rw [hf]; rfl
  rw [rf, if_pos e, if_neg]
  intro h; have := (M.dig_iff b).1 h; omega
theorem rf_step_mark {f b : UInt8} {fs bs : List UInt8} {k : Nat} {c : List Int} (hf : f.toNat ≠ 48) (hb : b.toNat = f.toNat) : rf (f :: fs) (b :: bs) k c = rf fs bs (k + 1) c := by
  rw [rf, if_neg (by intro e; apply hf; rw [e]; rfl), if_pos (UInt8.toNat_inj.1 hb)]
theorem rf_bad_mark {f b : UInt8} {fs bs : List UInt8} {k : Nat} {c : List Int} (hf : f.toNat ≠ 48) (hb : b.toNat ≠ f.toNat) : rf (f :: fs) (b :: bs) k c = none := by
  rw [rf, if_neg (by intro e; apply hf; rw [e]; rfl), if_neg (by intro e; apply hb; rw [e])]
theorem ps_rf_none {l : List UInt8} {o : Option (List Int)} (h : rf form l 0 [0, 0, 0, 0, 0, 0] = o) (ho : o = none) : ps l = (0, 2) := by
  rw [ho, rf_rd] at h; exact ps_none h
theorem ret_ps {l : List UInt8} {n f : Int} (h : ps l = (n, f)) : Ending.returned (.tuple #[.int .i64 n, .int .i64 f]) = .returned (.tuple #[.int .i64 (ps l).1, .int .i64 (ps l).2]) := by rw [h]
/-- what is known of the numbers read so far: the one that is being read is small, those behind it are 0 -/
def Small (c : List Int) (p : Nat) : Prop := (0 ≤ c.getD (kk p) 0 ∧ c.getD (kk p) 0 < (10 ^ dd p : Nat)) ∧ ∀ j, kk p < j → c.getD j 0 = 0
theorem Small.digit {c : List Int} {p : Nat} (h : Small c p) (hk : kk (p + 1) = kk p) (hd : dd (p + 1) = dd p + 1) (hl : kk p < c.length) {v : Int} (h0 : 0 ≤ v) (h1 : v ≤ 9) : Small (c.set (kk p) (10 * c.getD (kk p) 0 + v)) (p + 1) := by
  obtain ⟨⟨a, b⟩, z⟩ := h
  unfold Small
  rw [hk, hd]
  have e : (c.set (kk p) (10 * c.getD (kk p) 0 + v)).getD (kk p) 0 = 10 * c.getD (kk p) 0 + v := by
    rw [List.getD, List.getElem?_set_self hl]; rfl
  refine ⟨⟨by rw [e]; omega, ?_⟩, fun j hj => ?_⟩
  · rw [e, Nat.pow_succ]; omega
  · have := z j hj
    rw [List.getD] at this ⊢
    rw [List.getElem?_set_ne (by omega)]; exact this
theorem Small.mark {c : List Int} {p : Nat} (h : Small c p) (hk : kk (p + 1) = kk p + 1) (hd : dd (p + 1) = 0) : Small c (p + 1) := by
  obtain ⟨-, z⟩ := h
  unfold Small
  rw [hk, hd, z _ (Nat.lt_succ_self _)]
  exact ⟨⟨by decide, by decide⟩, fun j hj => z j (by omega)⟩
theorem Small.value {c : List Int} {p : Nat} (h : Small c p) (hd : dd p ≤ 4) : 0 ≤ c.getD (kk p) 0 ∧ c.getD (kk p) 0 < 10000 := by
  refine ⟨h.1.1, ?_⟩
  have h1 := h.1.2
  have h2 : 10 ^ dd p ≤ 10 ^ 4 := Nat.pow_le_pow_right (by decide) hd
  have h3 : (10 : Nat) ^ 4 = 10000 := by decide
  rw [h3] at h2
  omega
structure Ri (b : Nat) (c : List Int) (w0 w : World) : Prop where
  num : ∃ a0 a1 a2 a3 a4 a5 : Int, c = [a0, a1, a2, a3, a4, a5] ∧ Six b a0 a1 a2 a3 a4 a5 w
  opn : Open6 b w
  below : Below b w0 w
  room : b < w.heap.size

theorem Ri.drew {b : Nat} {c : List Int} {w0 w : World} (h : Ri b c w0 w) : Ri b c w0 w.drew := by
  obtain ⟨⟨a0, a1, a2, a3, a4, a5, hc, hS⟩, ho, hb, hr⟩ := h
  exact ⟨⟨a0, a1, a2, a3, a4, a5, hc, hS.later (drew_below w) hr⟩, ho.later (drew_below w) hr, hb.drew, hr⟩
theorem Ri.drewN {b : Nat} {c : List Int} {w0 w : World} (h : Ri b c w0 w) (n : Nat) : Ri b c w0 (w.drewN n) := by
  obtain ⟨⟨a0, a1, a2, a3, a4, a5, hc, hS⟩, ho, hb, hr⟩ := h
  have hB := below_drewN (Below.refl w.heap.size w) n
  exact ⟨⟨a0, a1, a2, a3, a4, a5, hc, hS.later hB hr⟩, ho.later hB hr, below_drewN hb n, Nat.lt_of_lt_of_le hr hB.size⟩
theorem Ri.put {b : Nat} {c : List Int} {w0 w : World} (h : Ri b c w0 w) (k : Nat) (hk : k < 6) (v : Int) : Ri b (c.set k v) w0 (w.setCell ⟨b, k, none⟩ (.int .i64 v)) := by
  obtain ⟨⟨a0, a1, a2, a3, a4, a5, hc, hS⟩, ho, hb, hr⟩ := h
  obtain ⟨b0, b1, b2, b3, b4, b5, hs, he⟩ := hS.set k hk v
  exact ⟨⟨b0, b1, b2, b3, b4, b5, by rw [hc, he], hs⟩, ho.set _ _, hb.setCell (Nat.le_refl _) _, by simpa using hr⟩
def PRel (w : World) (s : ByteArray) (kv iv : Value) (wr : World) : Prop :=
  ∃ (p : Nat) (c : List Int), kv = .int .i64 (kk p) ∧ iv = .int .i64 p ∧ p ≤ 19 ∧ Small c p ∧ rf form s.data.toList 0 [0, 0, 0, 0, 0, 0] = rf (form.drop p) (s.data.toList.drop p) (kk p) c ∧ Ri w.heap.size c w wr
set_option maxRecDepth 100000 in
set_option maxHeartbeats 2000000 in
theorem refParse_19 (s : ByteArray) (hs : s.size = 19) (w : World) :
    Calls Tryz.prog 23 #[.string s] w fun e w' => e = .returned (.tuple #[.int .i64 (ps s.data.toList).1, .int .i64 (ps s.data.toList).2]) ∧ Below w.heap.size w w' := by
  go_enter Tryz.func23, Tryz.ntmps23
  go_wp2_with fail
  go_loopw [6, 7] (fun kv iv wr => PRel w s kv iv wr) (fun _ iv _ => (19 - intOf iv).toNat)
  case atStart =>
    refine ⟨0, [0, 0, 0, 0, 0, 0], rfl, rfl, by decide, ⟨⟨by decide, by decide⟩, fun j hj => ?_⟩, rfl, ⟨⟨0, 0, 0, 0, 0, 0, rfl, Six.new w 61 0 0 0 0 0 0⟩, Open6.new w 61 _, (Below.refl _ w).alloc (Nat.le_refl _) _, by simp⟩⟩
    match j with
    | 0 => rfl
    | 1 => rfl
    | 2 => rfl
    | 3 => rfl
    | 4 => rfl
    | 5 => rfl
    | n + 6 => rfl
  case round =>
    obtain ⟨p, c, rfl, rfl, hp, hsm, hrf, hR⟩ := hrel
    obtain ⟨a0, a1, a2, a3, a4, a5, hc, hS⟩ := hR.num
    have HR := Lib.hid hrf
    have HS := Lib.hid hsm
    have Hc := Lib.hid hc
    clear hrf hsm hc
    generalize hF : (⟨#[48, 48, 48, 48, 45, 48, 48, 45, 48, 48, 84, 48, 48, 58, 48, 48, 58, 48, 48]⟩ : ByteArray) = F
    have hFs := form_size hF
    have HF := Lib.hid hF
    clear hF
    by_cases hp19 : p < 19
    · have hpf : p < F.size := by omega
      have hpS : p < s.size := by omega
      obtain ⟨hk6, hd4, hdig, hmk⟩ := form_facts' HF.out p hpf
      have HDF := Lib.hid (form_drop' HF.out p hpf)
      have HDS := Lib.hid (drop_cons s p hpS)
      obtain ⟨x, hx, hxe⟩ := hS.at (kk p) hk6
      have hfz := hR.opn.at (kk p) hk6
      have hxb := HS.out.value hd4
      rw [Hc.out, hxe] at hxb
      obtain ⟨k, hkk⟩ : ∃ k, kk p = k := ⟨_, rfl⟩
      rw [hkk] at hk6 hx hfz hxe hdig hmk
      rw [hkk]
      have HKK := Lib.hid hkk
      have HDG := Lib.hid hdig
      have HMK := Lib.hid hmk
      have HXE := Lib.hid hxe
      clear hkk hdig hmk hxe hd4
      by_cases hf : (F[p]'hpf).toNat = 48
      · have hf' : ((F[p]'hpf).toNat : Int) = 48 := by omega
        by_cases hb0 : (s[p]'hpS).toNat < 48
        · go_wp2
          go_ret2
          exact ⟨ret_ps (ps_rf_none HR.out (by rw [HDF.out, HDS.out, rf_bad_digit hf (.inl hb0)])), hR.below⟩
        · by_cases hb1 : 57 < (s[p]'hpS).toNat
          · go_wp2
            go_ret2
            exact ⟨ret_ps (ps_rf_none HR.out (by rw [HDF.out, HDS.out, rf_bad_digit hf (.inr hb1)])), hR.below⟩
          · go_wp2_with fail
            go_region
            go_wp2
            go_roundw
            case rel =>
              obtain ⟨g1, g2, g3⟩ := HDG.out hf
              have hv : (10 * c.getD (kk p) 0 + (((s[p]'hpS).toNat : Int) - 48)) = 10 * x + (((s[p]'hpS).toNat : Int) - 48) := by rw [HKK.out, Hc.out, HXE.out]
              have key : PRel w s (.int .i64 k) (.int .i64 ((p : Int) + 1)) (wr.drew.setCell ⟨w.heap.size, k, none⟩ (.int .i64 (10 * x + (((s[p]'hpS).toNat : Int) - 48)))) := by
                refine ⟨p + 1, c.set k (10 * x + (((s[p]'hpS).toNat : Int) - 48)), by rw [g1], by go_num, by omega, ?_, ?_, (hR.drew).put k hk6 _⟩
                · rw [← hv, ← HKK.out]
                  exact HS.out.digit (by rw [g1, HKK.out]) g2 (by rw [HKK.out, Hc.out]; simpa using hk6) (by omega) (by omega)
                · rw [HR.out, HDF.out, HDS.out, rf_step_digit hf (by omega) (by omega), hv, g1, HKK.out]
              first | exact key | ((repeat apply Exists.intro); exact ⟨key, rfl⟩)
            case measure => simp [intOf]; omega
      · have hf' : (((F[p]'hpf).toNat : Int) == 48) = false := by simpa using (fun e => hf (by omega))
        by_cases hb : (s[p]'hpS).toNat = (F[p]'hpf).toNat
        · have hb' : (((s[p]'hpS).toNat : Int) != ((F[p]'hpf).toNat : Int)) = false := by rw [bne_eq_false_iff_eq]; omega
          go_wp2_with fail
          go_quiet (fail)
          go_wp2
          go_roundw
          case rel =>
            obtain ⟨g1, g2, g3⟩ := HMK.out hf
            have key : PRel w s (.int .i64 ((k : Int) + 1)) (.int .i64 ((p : Int) + 1)) (wr.drewN nq) :=
              ⟨p + 1, c, by rw [g1]; go_num, by go_num, by omega, HS.out.mark (by rw [g1, HKK.out]) g2, by rw [HR.out, HDF.out, HDS.out, rf_step_mark hf hb, g1, HKK.out], hR.drewN nq⟩
            first | exact key | ((repeat apply Exists.intro); exact ⟨key, rfl⟩)
          case measure => simp [intOf]; omega
        · have hb' : (((s[p]'hpS).toNat : Int) != ((F[p]'hpf).toNat : Int)) = true := by rw [bne_iff_ne]; omega
          go_wp2_with fail
          go_quiet (fail)
          go_wp2
          go_ret2
          exact ⟨ret_ps (ps_rf_none HR.out (by rw [HDF.out, HDS.out, rf_bad_mark hf hb])), (hR.drewN nq).below⟩
    · have hp2 : p = 19 := by omega
      subst hp2
      obtain ⟨n, f, hnf⟩ : ∃ n f, sc a0 a1 a2 a3 a4 a5 = (n, f) := ⟨_, _, rfl⟩
      have HP : Hid (ps s.data.toList = (n, f)) := by
        show _ = _
        have e := HR.out
        rw [rf_rd, Hc.out] at e
        have hd : s.data.toList.drop 19 = [] := List.drop_eq_nil_of_le (by rw [← Lib.size_eq]; omega)
        rw [hd] at e
        rw [ps_some (show rd mks s.data.toList = some [a0, a1, a2, a3, a4, a5] from e), hnf]
      have HN := Lib.hid hnf
      clear hnf
      obtain ⟨c0, c1, c2, c3, c4, c5⟩ := id hS
      go_wp2_with fail
      refine (refSeconds_is HN.out _).mono ?_
      rintro e w2 ⟨rfl, hb2⟩
      go_wp2
      go_ret2
      exact ⟨ret_ps HP.out, hR.below.trans (hb2.mono (by have := hR.room; omega))⟩
end Go.Proofs.YtjdccfegmllphaaGreatDoor
