/-
  Where an entry stands: slices.BinarySearchFunc at entries, ents.span, ents.Find.
-/
import Derived.Test.YtenopnfclbegbaaGreatEnts
import Derived.Test.YtenopnfclbegbaaGreatShelf
namespace Go.Proofs.YtenopnfclbegbaaGreat.E
open Go.RowKit Go.Shelf

theorem against_any (x : Ent) (n : List UInt8) {c : Int} (h : cf x n = c) (W : World) : Calls Tryz.prog 101 #[.agg #[.string ⟨x.name.toArray⟩, .int .i64 x.no], .string ⟨n.toArray⟩] W fun e w' => e = .returned (.int .i64 c) ∧ Below W.heap.size W w' := by
  have hcon := fun W' => Tryz.strings_Compare ⟨x.name.toArray⟩ ⟨n.toArray⟩ W'
  have hcf : Lib.compareBytes (⟨x.name.toArray⟩ : ByteArray).data.toList (⟨n.toArray⟩ : ByteArray).data.toList = c := h
  rw [hcf] at hcon
  clear hcf h
  go_enter Tryz.func101, Tryz.ntmps101
  go_wp2_with (go_at_call 120; refine (hcon _).mono ?_; rintro e w' ⟨rfl, rfl⟩)
  go_ret
  exact ⟨rfl, (Below.refl _ _).alloc (Nat.le_refl _) _⟩
set_option maxRecDepth 100000 in
set_option maxHeartbeats 8000000 in
theorem bin_any (v : Value) (ls : List Ent) (n : List UInt8) (w : World) (hR : Sees v ls w) (hu : Up ls) (hl : ls.length ≤ 100000) :
    Calls Tryz.prog 100 #[v, .string ⟨n.toArray⟩, .func (.func 101) #[] #[]] w fun e w' =>
      e = .returned (.tuple #[.int .i64 (lo ls n).length, .bool (there ls n)]) ∧ Below w.heap.size w w' := by
  obtain ⟨oa, cap, rfl, _, hcells⟩ := hR
  have HC := Lib.hid hcells; have HK := Lib.hid (place_key ls hu n); have HU := Lib.hid hu
  have hpl := lo_len ls n
  obtain ⟨p, hp⟩ : ∃ p, (lo ls n).length = p := ⟨_, rfl⟩
  have HPp := Lib.hid hp
  rw [hp] at hpl HK ⊢
  clear hcells hu hp
  go_enter Tryz.func100, Tryz.ntmps100
  go_wp2
  go_loopw [9, 10] (fun a b wr => ∃ i j : Nat, i ≤ p ∧ p ≤ j ∧ j ≤ ls.length ∧ a = .int .i64 i ∧ b = .int .i64 j ∧ Below w.heap.size w wr) (fun a b _ => (RowKit.intOf b).toNat - (RowKit.intOf a).toNat)
  case atStart => exact ⟨0, ls.length, Nat.zero_le _, hpl, Nat.le_refl _, rfl, rfl, Below.refl _ _⟩
  case round =>
    obtain ⟨i, j, hip, hpj, hjl, rfl, rfl, hb⟩ := hrel
    by_cases hij : i < j
    · obtain ⟨h, hh⟩ : ∃ h, h = (i + j) / 2 := ⟨_, rfl⟩
      have e2 : ((i : Int) + (j : Int)) / 2 = (h : Int) := by omega
      have hlo : i ≤ h := by omega
      have hhi : h < j := by omega
      have hhl : h < ls.length := by omega
      obtain ⟨x, hx⟩ : ∃ x, ls[h]? = some x := ⟨_, List.getElem?_eq_getElem hhl⟩
      obtain ⟨g, o, rfl, h0, h1⟩ := HC.out h x hx
      have hkey := HK.out h x hx
      have hg := World.block_lt_of_cell? _ _ h0
      have d0 := (hb.cell (p := ⟨g, o + h * 2, none⟩) hg).trans h0
      have d1 := (hb.cell (p := ⟨g, o + h * 2 + 1, none⟩) hg).trans h1
      have hcf := cf_lt x n
      have hh2 : (h : Int) < (ls.length : Int) := by omega
      obtain ⟨c, hc0⟩ : ∃ c, cf x n = c := ⟨_, rfl⟩
      have cb := fun W' => against_any x n hc0 W'
      rw [hc0] at hcf
      clear h0 h1 hx hh hc0
      by_cases hc : c < 0
      · have hhp : h < p := hkey.1 (hcf.1 hc)
        clear hcf hkey
        go_wp2_with (go_at_call 101; refine (cb _).mono ?_; rintro e w2 ⟨rfl, hb2⟩)
        go_roundw
        case rel => exact ⟨h + 1, j, by omega, hpj, hjl, by go_num, rfl, below_two hb hb2⟩
        case measure => simp [RowKit.intOf]; omega
      · have hhp : ¬ h < p := fun e => hc (hcf.2 (hkey.2 e))
        clear hcf hkey
        go_wp2_with (go_at_call 101; refine (cb _).mono ?_; rintro e w2 ⟨rfl, hb2⟩)
        go_roundw
        case rel => exact ⟨i, h, hip, by omega, by omega, rfl, by first | rfl | go_num, below_two hb hb2⟩
        case measure => simp [RowKit.intOf]; omega
    · obtain rfl : i = p := by omega
      by_cases hil : i < ls.length
      · obtain ⟨x, hx⟩ : ∃ x, ls[i]? = some x := ⟨_, List.getElem?_eq_getElem hil⟩
        obtain ⟨g, o, rfl, h0, h1⟩ := HC.out i x hx
        have HT : Hid (there ls n = decide (x.name = n)) := Lib.hid (place_at HU.out n x (by rw [HPp.out]; exact hx))
        have hg := World.block_lt_of_cell? _ _ h0
        have d0 := (hb.cell (p := ⟨g, o + i * 2, none⟩) hg).trans h0
        have d1 := (hb.cell (p := ⟨g, o + i * 2 + 1, none⟩) hg).trans h1
        have hce := cf_eq x n
        obtain ⟨c, hc0⟩ : ∃ c, cf x n = c := ⟨_, rfl⟩
        have cb := fun W' => against_any x n hc0 W'
        rw [hc0] at hce
        have HCE := Lib.hid hce
        have hil2 : (i : Int) < (ls.length : Int) := by omega
        clear h0 h1 hx hc0 hce
        go_wp2_with (go_at_call 101; refine (cb _).mono ?_; rintro e w2 ⟨rfl, hb2⟩)
        go_ret2
        refine ⟨?_, below_two hb hb2⟩
        rw [HT.out]
        have : (c == 0) = decide (x.name = n) := by
          by_cases e : x.name = n
          · rw [decide_eq_true e, HCE.out.2 e]; rfl
          · rw [decide_eq_false e, beq_eq_false_iff_ne]; exact fun e' => e (HCE.out.1 e')
        rw [← this]; rfl
      · obtain rfl : i = ls.length := by omega
        have HT : Hid (there ls n = false) := Lib.hid (place_end HU.out n (by rw [HPp.out]; exact Nat.le_refl _))
        go_wp2
        go_ret2
        exact ⟨by rw [HT.out]; rfl, hb⟩

set_option maxHeartbeats 1000000 in
theorem span_any (v : Value) (ls : List Ent) (n : List UInt8) (w : World) (hR : Sees v ls w) (hu : Up ls) (hl : ls.length ≤ 100000) :
    Calls Tryz.prog 75 #[v, .string ⟨n.toArray⟩] w fun e w' => e = .returned (.tuple #[.int .i64 (lo ls n).length, .int .i64 (after ls n)]) ∧ Below w.heap.size w w' := by
  have cb := bin_any v ls n w hR hu hl
  have hpl := lo_len ls n
  have haf : Hid (after ls n = (lo ls n).length + (if there ls n then 1 else 0)) := Lib.hid rfl
  generalize (lo ls n).length = p at cb hpl haf ⊢
  generalize after ls n = q at haf ⊢
  generalize there ls n = t at cb haf
  clear hR hu
  cases t with
  | false =>
    have hq : Hid (q = p) := Lib.hid (by rw [haf.out]; simp)
    clear haf
    go_enter Tryz.func75, Tryz.ntmps75
    go_wp2_with (go_at_call 100; refine cb.mono ?_; rintro e w1 ⟨rfl, hb1⟩)
    go_ret2
    exact ⟨by rw [hq.out]; rfl, hb1⟩
  | true =>
    have hq : Hid (q = p + 1) := Lib.hid (by rw [haf.out]; simp)
    clear haf
    go_enter Tryz.func75, Tryz.ntmps75
    go_wp2_with (go_at_call 100; refine cb.mono ?_; rintro e w1 ⟨rfl, hb1⟩)
    go_ret2
    exact ⟨by rw [hq.out]; rfl, hb1⟩
/-- the number of a name, or 0 -/
def noOf (ls : List Ent) (n : List UInt8) : Int := ((fil n ls).head?.map (·.no)).getD 0
theorem noOf_yes {ls : List Ent} (hu : Up ls) {n : List UInt8} (h : there ls n = true) : ∃ x, ls[(lo ls n).length]? = some x ∧ noOf ls n = x.no := by
  have hp := row_parts hu n
  unfold there at h
  unfold noOf
  rcases fil_one hu n with hf | ⟨x, hf⟩
  · rw [hf] at h; cases h
  · rw [hf] at hp ⊢
    have e : (lo ls n ++ ([x] ++ hi ls n))[(lo ls n).length]? = some x := by
      rw [List.getElem?_append_right (Nat.le_refl _), Nat.sub_self]; rfl
    rw [← hp] at e
    exact ⟨x, e, rfl⟩
theorem noOf_no {ls : List Ent} {n : List UInt8} (h : there ls n = false) : noOf ls n = 0 := by
  unfold there at h
  unfold noOf
  cases hf : fil n ls with
  | nil => rfl
  | cons x l => rw [hf] at h; cases h

set_option maxRecDepth 100000 in
set_option maxHeartbeats 4000000 in
theorem find_any {v : Value} {ls : List Ent} {w : World} (hS : Sees v ls w) (n : List UInt8) (hu : Up ls) (hl : ls.length ≤ 100000) :
    Calls Tryz.prog 74 #[v, .string ⟨n.toArray⟩] w fun e w' => e = .returned (.int .i64 (noOf ls n)) ∧ Below w.heap.size w w' := by
  have cs := span_any v ls n w hS hu hl
  cases ht : there ls n with
  | false =>
    have ha : after ls n = (lo ls n).length := by unfold after; rw [ht]; rfl
    have HN := Lib.hid (noOf_no ht)
    rw [ha] at cs
    generalize (lo ls n).length = p at cs
    obtain ⟨oa, cap, rfl, _⟩ := hS
    clear hu ht ha
    go_enter Tryz.func74, Tryz.ntmps74
    go_wp2_with (go_at_call 75; refine cs.mono ?_; rintro e w1 ⟨rfl, hb1⟩)
    go_ret
    exact ⟨by rw [HN.out]; rfl, hb1⟩
  | true =>
    have ha : after ls n = (lo ls n).length + 1 := by unfold after; rw [ht]; rfl
    obtain ⟨x, hx, hno⟩ := noOf_yes hu ht
    have HN := Lib.hid hno
    rw [ha] at cs
    have hpl : (lo ls n).length < ls.length := (List.getElem?_eq_some_iff.1 hx).1
    generalize (lo ls n).length = p at cs hx hpl
    obtain ⟨oa, cap, rfl, _, hc⟩ := hS
    obtain ⟨g, o, rfl, h0, h1⟩ := hc p x hx
    have hg := World.block_lt_of_cell? _ _ h1
    have H1 := Lib.hid h1
    have hpl2 : (p : Int) < (ls.length : Int) := by omega
    clear hu ht ha hno hx hc h0 h1
    go_enter Tryz.func74, Tryz.ntmps74
    go_wp2_with (go_at_call 75; refine cs.mono ?_; rintro e w1 ⟨rfl, hb1⟩; have d1 := (hb1.cell (p := ⟨g, o + p * 2 + 1, none⟩) hg).trans H1.out)
    go_ret
    exact ⟨by rw [HN.out]; rfl, hb1⟩
theorem find_fil : ∀ (ls : List Ent) (n : List UInt8), ls.find? (fun x => decide (x.name = n)) = (fil n ls).head?
  | [], _ => rfl
  | x :: r, n => by
    unfold fil
    rw [List.find?_cons, List.filter_cons]
    cases decide (x.name = n) with
    | true => rfl
    | false => exact find_fil r n
end Go.Proofs.YtenopnfclbegbaaGreat.E
