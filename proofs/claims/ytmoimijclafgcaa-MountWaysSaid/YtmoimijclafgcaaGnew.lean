/-
  New.
-/
import Derived.Test.YtmoimijclafgcaaGmount
namespace Go.Proofs.Ytmoimijclafgcaa.G
open Go.RowKit Go.Shelf
attribute [local go_sem] Oper.semAt_some

def bare : St := ⟨0, [], []⟩
theorem Wd.bare {B A M : Nat} {w : World} (h : T.Tab B A M 0 [] w) (hB : B ≤ w.heap.size) : Wd B w.heap.size A M (.slice none 0 0) bare (w.alloc (.cells #[.pointer (some ⟨A, 0, none⟩), .slice none 0 0] 51)) :=
  ⟨hB, heap_alloc_new w _, MRow.nil _ _ _, [], rfl, h.alloc _⟩
set_option maxHeartbeats 4000000 in
theorem New_yes (b c : Int) (h : limits b c = true) (w : World) : Calls Try.prog 22 #[.int .i64 b, .int .i64 c] w fun e w' =>
    (∃ X A M mv, e = .returned (.tuple #[.pointer (some ⟨X, 0, none⟩), .int .i64 0]) ∧ Wd w.heap.size X A M mv (begin_ bare 1 b c) w') ∧ Below w.heap.size w w' := by
  have c1 := T.New_any w
  have HL := Lib.hid h
  clear h
  go_enter Try.func22, Try.ntmps22
  go_upto_region 2 with (go_at_call 57; refine c1.mono ?_; rintro e w2 ⟨T, M, rfl, hT, hb2⟩)
  have H3 := Wd.bare hT hb2.size
  have hb3 : Below w.heap.size w (w2.alloc (.cells #[.pointer (some ⟨T, 0, none⟩), .slice none 0 0] 51)) := hb2.alloc hb2.size _
  generalize w2.alloc (.cells #[.pointer (some ⟨T, 0, none⟩), .slice none 0 0] 51) = W3 at H3 hb3 ⊢
  generalize w2.heap.size = X at H3 ⊢
  clear hT hb2 c1
  have cb := begin_yes H3 1 b c HL.out hb3.size (by show 0 < 1000; decide) (by show 0 < 900000; decide) (by show (0 : Int) < 900000; decide)
  have HB3 := Lib.hid hb3
  have HW3 := Lib.hid H3
  rw [show bare.last + 1 = 1 from rfl] at cb
  go_wp2_with (go_at_call 37; refine cb.mono ?_; rintro e w4 ⟨rfl, mv, H4, t4⟩)
  go_ret2
  exact ⟨⟨X, T, M, mv, rfl, H4⟩, HB3.out.trans (HW3.out.ofTurn t4 HB3.out.size)⟩
set_option maxHeartbeats 4000000 in
theorem New_no (b c : Int) (h : limits b c = false) (w : World) : Calls Try.prog 22 #[.int .i64 b, .int .i64 c] w fun e w' => e = .returned (.tuple #[.pointer none, .int .i64 3]) ∧ Below w.heap.size w w' := by
  have c1 := T.New_any w
  have cb := fun X W => begin_no 1 b c X h W
  clear h
  go_enter Try.func22, Try.ntmps22
  go_wp2_with (first
    | (go_at_call 57; refine c1.mono ?_; rintro e w2 ⟨T, M, rfl, hT, hb2⟩)
    | (go_at_call 37; refine (cb _ _).mono ?_; rintro e w4 ⟨rfl, hb4⟩))
  go_ret2
  exact ⟨rfl, below_two (hb2.alloc hb2.size _) hb4⟩
end Go.Proofs.Ytmoimijclafgcaa.G
