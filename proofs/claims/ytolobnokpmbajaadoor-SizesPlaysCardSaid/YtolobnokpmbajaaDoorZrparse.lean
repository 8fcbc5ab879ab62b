/-
  The reference's Parse.
-/
import Derived.Test.YtolobnokpmbajaaDoorZrline
import Derived.Test.YtolobnokpmbajaaDoorZrput2
import Derived.Test.YtolobnokpmbajaaDoorIrlines
namespace Go.Proofs.YtolobnokpmbajaaDoor.Z
open Go.RowKit Go.Shelf

/-- one text more -/
def step (ls : List Line) (t : List UInt8) : List Line := match rd t with | some x => put ls x | none => ls
def rows (ts : List (List UInt8)) : List Line := ts.foldl step []
theorem rows_take {ts : List (List UInt8)} {k : Nat} {t : List UInt8} (h : ts[k]? = some t) : rows (ts.take (k + 1)) = step (rows (ts.take k)) t := by
  rw [List.take_add_one, h]; simp [rows]
theorem put_len (ls : List Line) (y : Line) : (put ls y).length ≤ ls.length + 1 := by
  have h : ∀ l : List Line, (lo l y.name).length + (hi l y.name).length ≤ l.length := by
    intro l
    induction l with
    | nil => simp [lo, hi]
    | cons x l ih =>
      by_cases h1 : x.name < y.name
      · have h2 := St.lt_asymm h1
        simp only [lo, hi] at ih ⊢
        simp only [List.filter_cons, h1, h2, decide_true, decide_false, if_true, List.length_cons]
        simp only [Bool.false_eq_true, if_false]
        omega
      · by_cases h2 : y.name < x.name
        · simp only [lo, hi] at ih ⊢
          simp only [List.filter_cons, h1, h2, decide_true, decide_false, if_true, List.length_cons, Bool.false_eq_true, if_false]
          omega
        · simp only [lo, hi] at ih ⊢
          simp only [List.filter_cons, h1, h2, decide_false, List.length_cons, Bool.false_eq_true, if_false]
          omega
  have := h ls
  simp only [put, List.length_append, List.length_singleton]
  omega
theorem step_len (ls : List Line) (t : List UInt8) : (step ls t).length ≤ ls.length + 1 := by
  unfold step
  split
  · exact put_len _ _
  · omega
theorem fold_len : ∀ (ts : List (List UInt8)) (ls : List Line), (ts.foldl step ls).length ≤ ls.length + ts.length
  | [], ls => by simp
  | t :: ts, ls => by
    have h1 := fold_len ts (step ls t)
    have h2 := step_len ls t
    simp only [List.foldl_cons, List.length_cons]; omega
theorem rows_len (ts : List (List UInt8)) : (rows ts).length ≤ ts.length := by
  have := fold_len ts []
  simpa [rows] using this

/-- a new box that is filled -/
theorem filled (x : Line) (w : World) : Below w.heap.size w (w.alloc (.cells #[.int .i64 x.size, .int .i64 x.time, .string ⟨x.name.toArray⟩] 30)) := (Below.refl _ _).alloc (Nat.le_refl _) _
set_option maxRecDepth 100000 in
set_option maxHeartbeats 4000000 in
theorem refParse_any (s : ByteArray) (hs : s.size ≤ 5000) (w : World) :
    Calls Tryd.prog 14 #[.string s] w fun e w' => ∃ u, e = .returned u ∧ Own w.heap.size u (rows (I.lines s.data.toList)) w' ∧ Below w.heap.size w w' := by
  have cl := I.lines_any s hs w
  have hll := I.lines_len s.data.toList
  have hmem : ∀ t ∈ I.lines s.data.toList, t.length ≤ 5000 := fun t ht => by
    have := I.line_le ht
    rw [Lib.size_eq] at hs; omega
  rw [← Lib.size_eq] at hll
  generalize I.lines s.data.toList = L at cl hll hmem ⊢
  have HM := Lib.hid hmem
  clear hmem
  go_enter Tryd.func14, Tryd.ntmps14
  go_wp2_with (go_at_call 41; refine cl.mono ?_)
  rintro e w1 ⟨u1, rfl, hT, hb1⟩
  have hRd := hT.reads
  obtain ⟨oa, cap, rfl, hcells⟩ := hRd
  have HC := Lib.hid hcells
  clear hcells hT cl
  go_wp2
  go_loopw [3, 5] (fun v i wr => ∃ k : Nat, k ≤ L.length ∧ i = .int .i64 k ∧ Own w1.heap.size v (rows (L.take k)) wr ∧ Below w1.heap.size w1 wr) (fun _ i _ => L.length - (intOf i).toNat)
  case atStart => exact ⟨0, Nat.zero_le _, rfl, Own.nil _ _, Below.refl _ _⟩
  case round =>
    obtain ⟨k, hk, rfl, hO, hb⟩ := hrel
    have HO := Lib.hid hO
    clear hO
    by_cases hlt : k < L.length
    · obtain ⟨t, ht⟩ : ∃ t, L[k]? = some t := ⟨_, List.getElem?_eq_getElem hlt⟩
      obtain ⟨g, rfl, hc⟩ := HC.out k t ht
      have hg := World.block_lt_of_cell? _ _ hc
      have d0 := (hb.cell (p := ⟨g, k, none⟩) hg).trans hc
      have htl := HM.out t (List.mem_of_getElem? ht)
      have HS := Lib.hid (rows_take ht)
      have cr := fun w => refLine_any ⟨t.toArray⟩ (by rw [size_l]; exact htl) w
      rw [show (⟨t.toArray⟩ : ByteArray).data.toList = t from rfl] at cr
      have hlen : (rows (L.take k)).length ≤ 100000 := by
        have := rows_len (L.take k)
        rw [List.length_take] at this; omega
      clear hc ht htl
      cases hr : rd t with
      | none =>
        rw [hr] at cr
        have HD : Hid (step (rows (L.take k)) t = rows (L.take k)) := Lib.hid (by unfold step; rw [hr])
        clear hr
        go_wp2_with (go_at_call 42; refine (cr _).mono ?_; rintro e w2 ⟨⟨x, rfl, _⟩, hb2⟩; unfold enc)
        have hb3 := filled x w2
        go_roundw
        case rel => exact ⟨k + 1, by omega, by go_num, by rw [HS.out, HD.out]; exact (HO.out.below hb2).below hb3, below_two (below_two hb hb2) hb3⟩
        case measure => simp [intOf]; omega
      | some x =>
        rw [hr] at cr
        have HD : Hid (step (rows (L.take k)) t = put (rows (L.take k)) x) := Lib.hid (by unfold step; rw [hr])
        clear hr
        generalize rows (L.take k) = R at HS HD HO hlen
        go_wp2_with (first
          | (go_at_call 42; refine (cr _).mono ?_; rintro e w2 ⟨⟨y, rfl, hy⟩, hb2⟩; obtain rfl : x = y := (hy.resolve_left (by simp)) |> Option.some.inj; clear hy; unfold enc; have hb3 := filled x w2)
          | (go_at_call 18; refine (refPut_any _ R x _ ((HO.out.below hb2).below hb3).sees hlen).mono ?_; rintro e w4 ⟨u, rfl, hO4, hb4⟩))
        have HO4 := Lib.hid (hO4.mono (below_two (below_two hb hb2) hb3).size)
        clear hO4
        go_roundw
        case rel => exact ⟨k + 1, by omega, by go_num, by rw [HS.out, HD.out]; exact HO4.out, below_two (below_two (below_two hb hb2) hb3) hb4⟩
        case measure => simp [intOf]; omega
    · have HE : Hid (rows (L.take k) = rows L) := Lib.hid (by rw [List.take_of_length_le (by omega)])
      go_wp2
      go_ret
      exact ⟨_, rfl, by rw [← HE.out]; exact HO.out.mono hb1.size, hb1.trans (hb.mono hb1.size)⟩
end Go.Proofs.YtolobnokpmbajaaDoor.Z
