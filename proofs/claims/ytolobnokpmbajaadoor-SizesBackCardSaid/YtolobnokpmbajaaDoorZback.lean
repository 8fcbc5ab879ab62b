/-
  Rows of lines come back from their text; the walk of SizesBack.
-/
import Derived.Test.YtolobnokpmbajaaDoorZtell
namespace Go.Proofs.YtolobnokpmbajaaDoor.Z
open Go.RowKit Go.Shelf

theorem itoa_not {n : Int} (h : 0 ≤ n) {c : UInt8} (hc : c.toNat < 48) : c ∉ Lib.itoa n := by
  obtain ⟨u, rfl⟩ : ∃ u : Nat, n = u := ⟨n.toNat, by omega⟩
  rw [Lib.itoa_nonneg]
  intro hm
  have := (K.M.dig_iff c).1 (List.all_eq_true.1 (K.M.dec_all u) c hm)
  omega
/-- a line's text, without its end -/
def body (x : Line) : List UInt8 := Lib.itoa x.size ++ 32 :: (Lib.itoa x.time ++ 32 :: Q.M.enc x.name)
theorem txt_body (x : Line) : txt x = body x ++ [10] := by simp [txt, body]
theorem enc_not (l : List UInt8) {c : UInt8} (hc : c.toNat < 33) : c ∉ Q.M.enc l := fun hm => by have := (Q.M.enc_seen l c hm).1; omega
theorem body_not {x : Line} (h : may x = true) : (10 : UInt8) ∉ body x := by
  obtain ⟨h1, h2, _⟩ := may_yes h
  intro hm
  simp only [body, List.mem_append, List.mem_cons] at hm
  rcases hm with hm | hm | hm | hm | hm
  · exact itoa_not h1 (by decide) hm
  · exact absurd hm (by decide)
  · exact itoa_not h2 (by decide) hm
  · exact absurd hm (by decide)
  · exact enc_not _ (by decide) hm
theorem rd_body {x : Line} (h : may x = true) (hf : Fit x) : rd (body x) = some x := by
  obtain ⟨h1, h2, _⟩ := may_yes h
  unfold body
  rw [rd_is (I.cut_app (itoa_not h1 (by decide))) (I.cut_app (itoa_not h2 (by decide)))]
  unfold mk3
  rw [K.M.parse_itoa _ hf.s0 hf.s1, K.M.parse_itoa _ hf.t0 hf.t1, Q.M.dec_enc]
  have : may ⟨x.size, x.time, x.name⟩ = true := h
  simp [this]
theorem rd_nil : rd [] = none := by
  rw [rd_is (show Lib.cut [] [32] = ([], [], false) by decide) (show Lib.cut [] [32] = ([], [], false) by decide)]
  exact mk3_nil _ _
theorem lines_text : ∀ (ls : List Line), (∀ x ∈ ls, may x = true) → I.lines (text ls) = ls.map body ++ [[]]
  | [], _ => rfl
  | x :: ls, h => by
    have hx := h x (by simp)
    have ih := lines_text ls (fun y hy => h y (List.mem_cons_of_mem _ hy))
    have e : text (x :: ls) = body x ++ 10 :: text ls := by
      show one x ++ text ls = _
      unfold one
      rw [hx, if_pos rfl, txt_body]; simp
    rw [e, I.lines_app, I.lines_none _ (body_not hx), ih]; rfl
theorem fnd_text {ls : List Line} (h : ∀ x ∈ ls, may x = true) (hf : ∀ x ∈ ls, Fit x) : fnd (I.lines (text ls)) = ls := by
  rw [lines_text ls h]
  unfold fnd
  rw [List.filterMap_append]
  have e1 : ∀ ls : List Line, (∀ x ∈ ls, may x = true) → (∀ x ∈ ls, Fit x) → (ls.map body).filterMap rd = ls := by
    intro ls
    induction ls with
    | nil => intro _ _; rfl
    | cons x ls ih =>
      intro h hf
      rw [List.map_cons, List.filterMap_cons, rd_body (h x (by simp)) (hf x (by simp)), ih (fun y hy => h y (List.mem_cons_of_mem _ hy)) (fun y hy => hf y (List.mem_cons_of_mem _ hy))]
  rw [e1 ls h hf]
  simp [rd_nil]
theorem lines_short {ls : List Line} (h : ∀ x ∈ ls, may x = true) (hf : ∀ x ∈ ls, Fit x) (hs : ∀ x ∈ ls, x.name.length ≤ 300) : ∀ t ∈ I.lines (text ls), t.length ≤ 5000 := by
  rw [lines_text ls h]
  intro t ht
  rcases List.mem_append.1 ht with ht | ht
  · obtain ⟨x, hx, rfl⟩ := List.mem_map.1 ht
    have h1 := itoa_le x.size (hf x hx).s0 (hf x hx).s1
    have h2 := itoa_le x.time (hf x hx).t0 (hf x hx).t1
    have h3 := Q.M.enc_len x.name
    have h4 := hs x hx
    simp [body]; omega
  · simp at ht; subst ht; simp
/-- what is written is read -/
theorem back {ls : List Line} (h : ∀ x ∈ ls, may x = true) (hf : ∀ x ∈ ls, Fit x) (hu : Up ls) : rows (I.lines (text ls)) = ls := by
  rw [rows_is, fnd_text h hf, up_one hu]

theorem mem_puts {ls : List Line} {x : Line} (h : x ∈ puts ls) : x ∈ ls := by
  have h1 := mem_fil' h
  rw [fil_puts] at h1
  have h2 : x ∈ St.fil x.name ls := by
    cases hl : (St.fil x.name ls).getLast? with
    | none => rw [hl] at h1; simp at h1
    | some y =>
      rw [hl] at h1
      simp at h1; subst h1
      exact List.mem_of_getLast? hl
  exact (St.mem_fil.1 h2).1
theorem putsFrom_len : ∀ (ls rs : List Line), (ls.foldl put rs).length ≤ rs.length + ls.length
  | [], rs => by simp
  | y :: ls, rs => by
    have h1 := putsFrom_len ls (put rs y)
    have h2 := put_len rs y
    simp only [List.foldl_cons, List.length_cons]; omega
theorem puts_len (ls : List Line) : (puts ls).length ≤ ls.length := by have := putsFrom_len ls []; simpa [puts] using this
/-- the lines that may be, put in one behind the other -/
def kept (ls : List Line) : List Line := puts (ls.filter may)
theorem kept_take {ls : List Line} {k : Nat} {x : Line} (h : ls[k]? = some x) : kept (ls.take (k + 1)) = if may x then put (kept (ls.take k)) x else kept (ls.take k) := by
  rw [List.take_add_one, h]
  unfold kept
  rw [List.filter_append]
  cases hm : may x
  · simp [hm]
  · simp only [Option.toList_some, List.filter_cons, hm, if_true, List.filter_nil]
    exact puts_snoc _ _
theorem kept_len (ls : List Line) : (kept ls).length ≤ ls.length := Nat.le_trans (puts_len _) (List.length_filter_le _ _)
theorem mem_kept {ls : List Line} {x : Line} (h : x ∈ kept ls) : x ∈ ls ∧ may x = true := List.mem_filter.1 (mem_puts h)

set_option maxRecDepth 100000 in
set_option maxHeartbeats 4000000 in
theorem sizesBack_walk (v : Value) (ls : List Line) (w : World) (hL : K.Laid w) (hR : Sees v ls w) (hsz : ls.length ≤ 9223372036854775807) (hI : Ints ls) :
    Calls Tryd.prog 5 #[v] w fun e w' => e = .returned (.bool true) ∧ Below w.heap.size w w' := by
  have ca := awake_any w hL
  cases hf : fewL ls with
  | false =>
    have cf := few_is hf w hR hsz
    clear hf hR hI
    go_enter Tryd.func5, Tryd.ntmps5
    go_wp2_with (first
      | (go_at_call 8; refine cf.mono ?_; rintro e w1 ⟨rfl, hw1⟩; obtain rfl := hw1.symm)
      | (go_at_call 9; refine ca.mono ?_; rintro e w2 ⟨rfl, hb2⟩))
    go_ret
    exact ⟨rfl, hb2⟩
  | true =>
    have cf := few_is hf w hR hsz
    have hfit := fits hI hf
    obtain ⟨hshort, hl30⟩ := fewL_yes hf
    have HFit := Lib.hid hfit; have HSh := Lib.hid hshort; have HL := Lib.hid hL; have HI2 := Lib.hid hI
    obtain ⟨oa, cap, rfl, hcells⟩ := hR
    have HC := Lib.hid hcells
    have hl := hl30
    clear hf hI hfit hshort hl30 ca hL hcells
    go_enter Tryd.func5, Tryd.ntmps5
    go_wp2_with (go_at_call 8; refine cf.mono ?_; rintro e w1 ⟨rfl, hw1⟩; obtain rfl := hw1.symm)
    clear cf
    go_loopw [3, 4] (fun u i wr => ∃ k : Nat, k ≤ ls.length ∧ i = .int .i64 k ∧ Own w.heap.size u (kept (ls.take k)) wr ∧ Below w.heap.size w wr) (fun _ i _ => ls.length - (intOf i).toNat)
    case atStart => exact ⟨0, Nat.zero_le _, rfl, Own.nil _ _, Below.refl _ _⟩
    case round =>
      obtain ⟨k, hk, rfl, hO, hb⟩ := hrel
      have HO := Lib.hid hO
      clear hO
      by_cases hlt : k < ls.length
      · obtain ⟨x, hx⟩ : ∃ x, ls[k]? = some x := ⟨_, List.getElem?_eq_getElem hlt⟩
        obtain ⟨g, o, rfl, h0, h1, h2⟩ := HC.out k x hx
        have hg := World.block_lt_of_cell? _ _ h0
        have d0 := (hb.cell (p := ⟨g, o + k * 3, none⟩) hg).trans h0
        have d1 := (hb.cell (p := ⟨g, o + k * 3 + 1, none⟩) hg).trans h1
        have d2 := (hb.cell (p := ⟨g, o + k * 3 + 2, none⟩) hg).trans h2
        have HS := Lib.hid (kept_take hx)
        have hfx := HFit.out x (List.mem_of_getElem? hx)
        have hlen : (kept (ls.take k)).length ≤ 100000 := by
          have := kept_len (ls.take k)
          rw [List.length_take] at this; omega
        have HD := Lib.hid (And.intro h0 (And.intro h1 h2))
        clear h0 h1 h2 hx
        cases hm : may x with
        | false =>
          have cm := fun w => refMay_is hfx hm w
          have HE := Lib.hid (HS.out.trans (by rw [if_neg (by rw [hm]; simp)]))
          clear hm hfx
          go_wp2_with (go_at_call 20; refine (cm _).mono ?_; rintro e w2 ⟨rfl, hb2⟩)
          go_roundw
          case rel => exact ⟨k + 1, by omega, by go_num, by rw [HE.out]; exact HO.out.below hb2, below_two hb hb2⟩
          case measure => simp [intOf]; omega
        | true =>
          have cm := fun w => refMay_is hfx hm w
          have HE := Lib.hid (HS.out.trans (by rw [if_pos hm]))
          clear hm hfx
          generalize kept (ls.take k) = R at HS HE HO hlen
          go_wp2_with (first
            | (go_at_call 20; refine (cm _).mono ?_; rintro e w2 ⟨rfl, hb2⟩
               have hb3 := below_two hb hb2
               have e0 := (hb3.cell (p := ⟨g, o + k * 3, none⟩) hg).trans HD.out.1
               have e1 := (hb3.cell (p := ⟨g, o + k * 3 + 1, none⟩) hg).trans HD.out.2.1
               have e2 := (hb3.cell (p := ⟨g, o + k * 3 + 2, none⟩) hg).trans HD.out.2.2)
            | (go_at_call 18; refine (refPut_any _ R x _ (HO.out.below hb2).sees hlen).mono ?_; rintro e w4 ⟨u, rfl, hO4, hb4⟩))
          have HO4 := Lib.hid (hO4.mono hb3.size)
          clear hO4
          go_roundw
          case rel => exact ⟨k + 1, by omega, by go_num, by rw [HE.out]; exact HO4.out, below_two hb3 hb4⟩
          case measure => simp [intOf]; omega
      · have hall : ls.take k = ls := List.take_of_length_le (by omega)
        have hOk := HO.out
        rw [hall] at hOk
        have hmay : ∀ x ∈ kept ls, may x = true := fun x hx => (mem_kept hx).2
        have hfit : ∀ x ∈ kept ls, Fit x := fun x hx => HFit.out x (mem_kept hx).1
        have hsh : ∀ x ∈ kept ls, x.name.length ≤ 300 := fun x hx => HSh.out x (mem_kept hx).1
        have hup : Up (kept ls) := up_puts _
        have hkl := kept_len ls
        have htl := text_len (kept ls) hfit
        have cp := fun w => parse_rows (text (kept ls)) (by omega) (lines_short hmay hfit hsh) w
        rw [back hmay hfit hup] at cp
        have cw := write_any _ (kept ls) _ hOk.sees hfit (by omega) (HL.out.of_below hb)
        have HOk := Lib.hid hOk
        clear hall hOk hmay hfit hsh hup htl HO
        generalize text (kept ls) = T at cp cw
        generalize kept ls = R at cp cw HOk hkl
        go_wp2_with (first
          | (go_at_call 10; refine cw.mono ?_; rintro e w2 ⟨rfl, hb2⟩)
          | (go_at_call 13; refine (cp _).mono ?_; rintro e w3 ⟨u, rfl, hs3, hb3⟩; have HS3 := Lib.hid hs3; clear hs3)
          | (go_at_call 12; refine (same_any _ _ R R (by omega) (by omega) _ HS3.out ((HOk.out.below hb2).below hb3).sees).mono ?_; rintro e w4 ⟨rfl, hb4⟩; rw [decide_eq_true (rfl : R = R)])
          | (go_at_call 9; refine (awake_any _ (HL.out.of_below (below_two (below_two (below_two hb hb2) hb3) hb4))).mono ?_; rintro e w5 ⟨rfl, hb5⟩))
        go_ret
        exact ⟨rfl, below_two (below_two (below_two (below_two hb hb2) hb3) hb4) hb5⟩
end Go.Proofs.YtolobnokpmbajaaDoor.Z
