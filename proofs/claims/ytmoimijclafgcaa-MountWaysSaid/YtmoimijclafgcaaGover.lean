/-
  Over, under, isRoot.
-/
import Derived.Test.YtmoimijclafgcaaGprog
namespace Go.Proofs.Ytmoimijclafgcaa.G
open Go.RowKit Go.Shelf

section
variable {B X A M : Nat} {mv : Value} {st : St} {w : World}
set_option maxRecDepth 100000 in
set_option maxHeartbeats 4000000 in
theorem Over_any (h : Wd B X A M mv st w) (no : Int) : Calls Try.prog 20 #[.pointer (some ⟨X, 0, none⟩), .int .i64 no] w fun e w' => e = .returned (.int .i64 (over st.d no)) ∧ Below w.heap.size w w' := by
  have c1 := parts_any h
  have hl := h.len
  have hr := h.rows
  obtain ⟨oa, cap, rfl⟩ := h.rows.slice
  clear h
  generalize st.d = ds at *
  have HR := Lib.hid hr
  clear hr
  go_enter Try.func20, Try.ntmps20
  go_wp2_with (refine c1.mono ?_; rintro e w1 ⟨rfl, rfl⟩)
  clear c1
  go_loopw [10] (fun i wr => ∃ k : Nat, k ≤ ds.length ∧ i = .int .i64 k ∧ (∀ y ∈ ds.take k, decide (y.cov = no) = false) ∧ Below w.heap.size w wr) (fun i _ => ds.length - (RowKit.intOf i).toNat)
  case atStart => exact ⟨0, Nat.zero_le _, rfl, fun y hy => by simp at hy, Below.refl _ _⟩
  case round =>
    obtain ⟨k, hk, rfl, hno, hb⟩ := hrel
    have HB := Lib.hid hno
    clear hno
    by_cases hlt : k < ds.length
    · obtain ⟨x, hx⟩ : ∃ x, ds[k]? = some x := ⟨_, List.getElem?_eq_getElem hlt⟩
      obtain ⟨g, cap', he, hat⟩ := HR.out.at hx
      cases he
      have hat' := hat.below hb
      obtain ⟨c0, c1, c2, c3, c4, c5⟩ := hat'
      have HF := Lib.hid (seek_take (fun m : Mt => decide (m.cov = no)) hx HB.out)
      have HB2 := Lib.hid (hb.alloc (o := .cells #[.int .i64 x.root, .int .i64 x.cov, .int .i64 x.q.b, .int .i64 x.q.n, .int .i64 x.q.mb, .int .i64 x.q.mn] 90) hb.size)
      clear hx hat
      by_cases hn : x.cov = no
      · have HN := Lib.hid (HF.out.1 (by simpa using hn))
        subst hn
        clear HF
        go_wp2
        go_ret
        exact ⟨by unfold over; rw [HN.out]; rfl, HB2.out⟩
      · have HN := Lib.hid (HF.out.2 (by simpa using hn))
        have hn' : (x.cov == no) = false := by simpa using hn
        clear HF hn
        go_wp2
        go_roundw
        case rel => exact ⟨k + 1, by omega, by go_num, HN.out, HB2.out⟩
        case measure => simp [RowKit.intOf]; omega
    · have HE := Lib.hid (seek_end (fun m : Mt => decide (m.cov = no)) (l := ds) (by have := HB.out; rwa [List.take_of_length_le (by omega)] at this))
      go_wp2
      go_ret
      exact ⟨by unfold over; rw [HE.out]; rfl, hb⟩
set_option maxRecDepth 100000 in
set_option maxHeartbeats 4000000 in
theorem under_any (h : Wd B X A M mv st w) (no : Int) : Calls Try.prog 49 #[.pointer (some ⟨X, 0, none⟩), .int .i64 no] w fun e w' => e = .returned (.int .i64 (under st.d no)) ∧ Below w.heap.size w w' := by
  have c1 := parts_any h
  have hl := h.len
  have hr := h.rows
  obtain ⟨oa, cap, rfl⟩ := h.rows.slice
  clear h
  generalize st.d = ds at *
  have HR := Lib.hid hr
  clear hr
  go_enter Try.func49, Try.ntmps49
  go_wp2_with (refine c1.mono ?_; rintro e w1 ⟨rfl, rfl⟩)
  clear c1
  go_loopw [10] (fun i wr => ∃ k : Nat, k ≤ ds.length ∧ i = .int .i64 k ∧ (∀ y ∈ ds.take k, decide (y.root = no) = false) ∧ Below w.heap.size w wr) (fun i _ => ds.length - (RowKit.intOf i).toNat)
  case atStart => exact ⟨0, Nat.zero_le _, rfl, fun y hy => by simp at hy, Below.refl _ _⟩
  case round =>
    obtain ⟨k, hk, rfl, hno, hb⟩ := hrel
    have HB := Lib.hid hno
    clear hno
    by_cases hlt : k < ds.length
    · obtain ⟨x, hx⟩ : ∃ x, ds[k]? = some x := ⟨_, List.getElem?_eq_getElem hlt⟩
      obtain ⟨g, cap', he, hat⟩ := HR.out.at hx
      cases he
      have hat' := hat.below hb
      obtain ⟨c0, c1, c2, c3, c4, c5⟩ := hat'
      have HF := Lib.hid (seek_take (fun m : Mt => decide (m.root = no)) hx HB.out)
      have HB2 := Lib.hid (hb.alloc (o := .cells #[.int .i64 x.root, .int .i64 x.cov, .int .i64 x.q.b, .int .i64 x.q.n, .int .i64 x.q.mb, .int .i64 x.q.mn] 90) hb.size)
      clear hx hat
      by_cases hn : x.root = no
      · have HN := Lib.hid (HF.out.1 (by simpa using hn))
        subst hn
        clear HF
        go_wp2
        go_ret
        exact ⟨by unfold under; rw [HN.out]; rfl, HB2.out⟩
      · have HN := Lib.hid (HF.out.2 (by simpa using hn))
        have hn' : (x.root == no) = false := by simpa using hn
        clear HF hn
        go_wp2
        go_roundw
        case rel => exact ⟨k + 1, by omega, by go_num, HN.out, HB2.out⟩
        case measure => simp [RowKit.intOf]; omega
    · have HE := Lib.hid (seek_end (fun m : Mt => decide (m.root = no)) (l := ds) (by have := HB.out; rwa [List.take_of_length_le (by omega)] at this))
      go_wp2
      go_ret
      exact ⟨by unfold under; rw [HE.out]; rfl, hb⟩
end

/-- the closure of isRoot -/
theorem root1_any (m : Mt) (no : Int) (b : Nat) (w : World) (hb : w.cell? ⟨b, 0, none⟩ = some (.int .i64 no)) :
    Calls Try.prog 64 #[.agg #[.int .i64 m.root, .int .i64 m.cov, .int .i64 m.q.b, .int .i64 m.q.n, .int .i64 m.q.mb, .int .i64 m.q.mn], .pointer (some ⟨b, 0, none⟩)] w fun e w' => e = .returned (.bool (decide (m.root = no))) ∧ Below w.heap.size w w' := by
  have hlt := World.block_lt_of_cell? _ _ hb
  have hd : (m.root == no) = decide (m.root = no) := by by_cases e : m.root = no <;> simp [e]
  have hB : Below w.heap.size w (w.alloc (.cells #[.int .i64 m.root, .int .i64 m.cov, .int .i64 m.q.b, .int .i64 m.q.n, .int .i64 m.q.mb, .int .i64 m.q.mn] 90)) := (Below.refl _ _).alloc (Nat.le_refl _) _
  generalize decide (m.root = no) = z at hd ⊢
  go_enter Try.func64, Try.ntmps64
  go_wp2
  go_ret
  refine ⟨?_, hB⟩
  rw [← hd]; rfl
set_option maxRecDepth 100000 in
set_option maxHeartbeats 4000000 in
theorem index_any {B : Nat} {v : Value} {ds : List Mt} {w : World} (hR : MRow B 90 v ds w) (hl : ds.length ≤ 1000000) (no : Int) (b : Nat) (hb0 : w.cell? ⟨b, 0, none⟩ = some (.int .i64 no)) :
    Calls Try.prog 80 #[v, .func (.func 64) #[] #[.pointer (some ⟨b, 0, none⟩)]] w fun e w' => (∃ z : Int, e = .returned (.int .i64 z) ∧ decide (0 ≤ z) = isRoot ds no) ∧ Below w.heap.size w w' := by
  have HR := Lib.hid hR
  have hlb := World.block_lt_of_cell? _ _ hb0
  obtain ⟨oa, cap, rfl⟩ := hR.slice
  clear hR
  go_enter Try.func80, Try.ntmps80
  go_wp2
  go_loopw [8] (fun i wr => ∃ k : Nat, k ≤ ds.length ∧ i = .int .i64 k ∧ (∀ y ∈ ds.take k, decide (y.root = no) = false) ∧ Below w.heap.size w wr) (fun i _ => ds.length - (RowKit.intOf i).toNat)
  case atStart => exact ⟨0, Nat.zero_le _, rfl, fun y hy => by simp at hy, Below.refl _ _⟩
  case round =>
    obtain ⟨k, hk, rfl, hno, hb⟩ := hrel
    have HB := Lib.hid hno
    clear hno
    by_cases hlt : k < ds.length
    · obtain ⟨x, hx⟩ : ∃ x, ds[k]? = some x := ⟨_, List.getElem?_eq_getElem hlt⟩
      obtain ⟨g, cap', he, hat⟩ := HR.out.at hx
      cases he
      have hat' := hat.below hb
      obtain ⟨c0, c1, c2, c3, c4, c5⟩ := hat'
      have HF := Lib.hid (seek_take (fun m : Mt => decide (m.root = no)) hx HB.out)
      have cr := root1_any x no b wr ((hb.cell (p := ⟨b, 0, none⟩) hlb).trans hb0)
      have HX := Lib.hid hx
      clear hx hat
      by_cases hn : x.root = no
      · rw [show decide (x.root = no) = true by simpa using hn] at cr
        have HN := Lib.hid hn
        clear HF hn
        go_wp2_with (go_at_call 64; refine cr.mono ?_; rintro e w2 ⟨rfl, hb2⟩)
        go_ret
        refine ⟨⟨k, rfl, ?_⟩, below_two hb hb2⟩
        have h1 : isRoot ds no = true := List.any_eq_true.2 ⟨x, List.mem_of_getElem? HX.out, by simpa using HN.out⟩
        rw [h1]; simp
      · rw [show decide (x.root = no) = false by simpa using hn] at cr
        have HN := Lib.hid (HF.out.2 (by simpa using hn))
        clear HF hn
        go_wp2_with (go_at_call 64; refine cr.mono ?_; rintro e w2 ⟨rfl, hb2⟩)
        go_roundw
        case rel => exact ⟨k + 1, by omega, by go_num, HN.out, below_two hb hb2⟩
        case measure => simp [RowKit.intOf]; omega
    · have HE : Hid (isRoot ds no = false) := Lib.hid (by
        have := HB.out
        rw [List.take_of_length_le (by omega)] at this
        exact List.any_eq_false.2 fun y hy => by rw [this y hy]; simp)
      go_wp2
      go_ret
      exact ⟨⟨-1, rfl, by rw [HE.out]; rfl⟩, hb⟩
theorem contains_any {B : Nat} {v : Value} {ds : List Mt} {w : World} (hR : MRow B 90 v ds w) (hl : ds.length ≤ 1000000) (no : Int) (b : Nat) (hb0 : w.cell? ⟨b, 0, none⟩ = some (.int .i64 no)) :
    Calls Try.prog 63 #[v, .func (.func 64) #[] #[.pointer (some ⟨b, 0, none⟩)]] w fun e w' => e = .returned (.bool (isRoot ds no)) ∧ Below w.heap.size w w' := by
  have c1 := index_any hR hl no b hb0
  clear hR hb0
  generalize isRoot ds no = z at *
  go_enter Try.func63, Try.ntmps63
  go_wp2_with (refine c1.mono ?_; rintro e w1 ⟨⟨i, rfl, rfl⟩, hb⟩)
  go_ret
  exact ⟨rfl, hb⟩
theorem isRoot_any {B X A M : Nat} {mv : Value} {st : St} {w : World} (h : Wd B X A M mv st w) (hl : st.d.length ≤ 1000000) (no : Int) :
    Calls Try.prog 26 #[.pointer (some ⟨X, 0, none⟩), .int .i64 no] w fun e w' => e = .returned (.bool (isRoot st.d no)) ∧ Below w.heap.size w w' := by
  have hb1 : Below w.heap.size w (w.alloc (.cells #[.int .i64 no] 3)) := (Below.refl _ _).alloc (Nat.le_refl _) _
  have h1 := h.below hb1
  have c1 := parts_any h1
  have c2 := contains_any h1.rows hl no w.heap.size (by rw [World.cell?_alloc_new]; rfl)
  clear h h1
  generalize isRoot st.d no = z at *
  go_enter Try.func26, Try.ntmps26
  go_wp2_with (first | (go_at_call 41; refine c1.mono ?_; rintro e w1 ⟨rfl, rfl⟩) | (refine c2.mono ?_; rintro e w2 ⟨rfl, hb2⟩))
  go_ret
  exact ⟨rfl, hb1.trans (hb2.mono hb1.size)⟩
end Go.Proofs.Ytmoimijclafgcaa.G
