/-
  What perm's Text does: a kind and a mode as ten letters.
-/
import Derived.Test.YtccdpkbiandjdaaQwho
import Derived.Deep.DeepCutAuto
namespace Go.Proofs.Ytccdpkbiandjdaa.PM
open Go.RowKit Go.Shelf

theorem size_l (l : List UInt8) : (⟨l.toArray⟩ : ByteArray).size = l.length := by rw [Lib.size_eq]
theorem add_ll (l m : List UInt8) (h : l.length + m.length ≤ 100000) (w : World) : (Op.stringOp .add ⟨l.toArray⟩ ⟨m.toArray⟩).run Try.prog w = .ok (.string ⟨(l ++ m).toArray⟩) w := by
  rw [run_string_add_sum w _ _ (by rw [size_l, size_l]; omega), ByteArray.mk_append_mk]

/-- a kind's letter -/
def lt (kind : Int) : UInt8 := if kind = 1 then 100 else if kind = 2 then 45 else if kind = 3 then 108 else 63
def pk (b : Bool) (yes no : List UInt8) : List UInt8 := if b then yes else no
/-- three bits as letters -/
def tri (b : Int) (yes no : List UInt8) : List UInt8 := (pk (bt b 2) [114] [45] ++ pk (bt b 1) [119] [45]) ++ pk (bt b 0) yes no
def oth (mode : Int) : List UInt8 := if bt mode 9 then tri (mode / 2 ^ 0 % 8) [116] [84] else tri (mode / 2 ^ 0 % 8) [120] [45]
def txt (kind mode : Int) : List UInt8 := (([lt kind] ++ tri (mode / 2 ^ 6 % 8) [120] [45]) ++ tri (mode / 2 ^ 3 % 8) [120] [45]) ++ oth mode
theorem pk_len (b : Bool) (x y : UInt8) : (pk b [x] [y]).length = 1 := by cases b <;> rfl
theorem tri_len (b : Int) (x y : UInt8) : (tri b [x] [y]).length = 3 := by unfold tri; rw [List.length_append, List.length_append, pk_len, pk_len, pk_len]
theorem oth_len (mode : Int) : (oth mode).length = 3 := by unfold oth; split <;> exact tri_len _ _ _
theorem txt_len (kind mode : Int) : (txt kind mode).length = 10 := by unfold txt; rw [List.length_append, List.length_append, List.length_append, tri_len, tri_len, oth_len]; rfl

theorem ret_str {a b : List UInt8} (h : a = b) : Ending.returned (.string ⟨a.toArray⟩) = .returned (.string ⟨b.toArray⟩) := by rw [h]
set_option maxHeartbeats 1000000 in
theorem pick_any (x : Int) (yes no : List UInt8) (w : World) : Calls Try.prog 27 #[.int .i64 x, .string ⟨yes.toArray⟩, .string ⟨no.toArray⟩] w fun e w' => e = .returned (.string ⟨(pk (decide (x ≠ 0)) yes no).toArray⟩) ∧ w = w' := by
  by_cases h : x = 0
  · have hp : pk (decide (x ≠ 0)) yes no = no := by simp [pk, h]
    rw [hp]
    clear hp
    generalize (⟨yes.toArray⟩ : ByteArray) = a
    generalize (⟨no.toArray⟩ : ByteArray) = b
    go_enter Try.func27, Try.ntmps27
    go_wp2
    go_ret
    exact ⟨rfl, rfl⟩
  · have hp : pk (decide (x ≠ 0)) yes no = yes := by simp [pk, h]
    have hb : (x != 0) = true := by simpa using h
    rw [hp]
    clear hp
    generalize (⟨yes.toArray⟩ : ByteArray) = a
    generalize (⟨no.toArray⟩ : ByteArray) = b
    go_enter Try.func27, Try.ntmps27
    go_wp2
    go_ret
    exact ⟨rfl, rfl⟩
theorem pick_bit (x c : Int) (i : Nat) (hi : i ≤ 60) (hc : ((2 ^ i : Nat) : Int) = c) (yes no : List UInt8) (w : World) : Calls Try.prog 27 #[.int .i64 (bits .and .i64 x c), .string ⟨yes.toArray⟩, .string ⟨no.toArray⟩] w fun e w' => e = .returned (.string ⟨(pk (bt x i) yes no).toArray⟩) ∧ w = w' := by
  have h := pick_any (bits .and .i64 x c) yes no w
  have e : decide (bits .and .i64 x c ≠ 0) = bt x i := by
    have hp := two_pos i
    rw [← hc, and_bit x i hi]
    cases bt x i
    · rfl
    · rw [if_pos rfl, decide_eq_true]
      rw [Int.natCast_pow]
      exact Int.ne_of_gt hp
  rw [e] at h
  exact h

set_option maxHeartbeats 2000000 in
theorem triple_any (x : Int) (y n : UInt8) (w : World) : Calls Try.prog 24 #[.int .i64 x, .string ⟨[y].toArray⟩, .string ⟨[n].toArray⟩] w fun e w' => e = .returned (.string ⟨(tri x [y] [n]).toArray⟩) ∧ w = w' := by
  have c4 := pick_bit x 4 2 (by decide) rfl [114] [45]
  have c2 := pick_bit x 2 1 (by decide) rfl [119] [45]
  have c1 := pick_bit x 1 0 (by decide) rfl [y] [n]
  have l4 := pk_len (bt x 2) 114 45
  have l2 := pk_len (bt x 1) 119 45
  have l1 := pk_len (bt x 0) y n
  unfold tri
  generalize pk (bt x 2) [114] [45] = p4 at c4 l4 ⊢
  generalize pk (bt x 1) [119] [45] = p2 at c2 l2 ⊢
  generalize pk (bt x 0) [y] [n] = p1 at c1 l1 ⊢
  have a1 := add_ll p4 p2 (by omega)
  have a2 := add_ll (p4 ++ p2) p1 (by rw [List.length_append]; omega)
  clear l4 l2 l1
  go_enter Try.func24, Try.ntmps24
  go_wp2_with (first
    | (refine (c4 _).mono ?_; clear c4; rintro e w1 ⟨rfl, rfl⟩)
    | (refine (c2 _).mono ?_; clear c2; rintro e w1 ⟨rfl, rfl⟩)
    | (refine (c1 _).mono ?_; rintro e w1 ⟨rfl, rfl⟩))
  go_ret
  exact ⟨by rw [List.append_assoc]; rfl, rfl⟩

set_option maxHeartbeats 1000000 in
theorem letter_any (k : Int) (w : World) : Calls Try.prog 23 #[.int .i64 k] w fun e w' => e = .returned (.string ⟨[lt k].toArray⟩) ∧ w = w' := by
  go_enter Try.func23, Try.ntmps23
  go_wp2
  all_goals go_ret
  all_goals refine ⟨?_, rfl⟩
  all_goals unfold lt
  all_goals (try simp only [beq_iff_eq, beq_eq_false_iff_ne, ne_eq] at *)
  all_goals first
    | (subst_vars; rfl)
    | (rw [if_neg (by assumption), if_neg (by assumption), if_neg (by assumption)]; rfl)
    | (rw [if_neg (by assumption), if_neg (by assumption), if_pos (by assumption)]; rfl)
    | (rw [if_neg (by assumption), if_pos (by assumption)]; rfl)

theorem has512 (x : Int) : (bits .and .i64 x 512 != 0) = bt x 9 := by
  have h := not512 x
  show (!(bits .and .i64 x 512 == 0)) = _
  rw [h, Bool.not_not]
set_option maxHeartbeats 2000000 in
theorem others_any (m : Int) (w : World) : Calls Try.prog 26 #[.int .i64 m] w fun e w' => e = .returned (.string ⟨(oth m).toArray⟩) ∧ w = w' := by
  have c0 := bitsAt_any m 0 (by decide) (by decide)
  rw [show (0 : Int).toNat = 0 from rfl] at c0
  have ct := triple_any (m / 2 ^ 0 % 8) 116 84
  have cx := triple_any (m / 2 ^ 0 % 8) 120 45
  have h9 := has512 m
  unfold oth
  generalize m / 2 ^ 0 % 8 = q at c0 ct cx ⊢
  generalize bt m 9 = b at h9 ⊢
  cases b
  · rw [if_neg (by decide)]
    go_enter Try.func26, Try.ntmps26
    go_wp2_with (first
      | (go_at_call 25; refine (c0 _).mono ?_; rintro e w1 ⟨rfl, rfl⟩)
      | (refine (cx _).mono ?_; rintro e w1 ⟨rfl, rfl⟩))
    go_ret
    exact ⟨rfl, rfl⟩
  · rw [if_pos rfl]
    go_enter Try.func26, Try.ntmps26
    go_wp2_with (first
      | (go_at_call 25; refine (c0 _).mono ?_; rintro e w1 ⟨rfl, rfl⟩)
      | (refine (ct _).mono ?_; rintro e w1 ⟨rfl, rfl⟩))
    go_ret
    exact ⟨rfl, rfl⟩

set_option maxHeartbeats 2000000 in
theorem Text_any (k m : Int) (w : World) : Calls Try.prog 15 #[.int .i64 k, .int .i64 m] w fun e w' => e = .returned (.string ⟨(txt k m).toArray⟩) ∧ w = w' := by
  have b6 := bitsAt_any m 6 (by decide) (by decide)
  have b3 := bitsAt_any m 3 (by decide) (by decide)
  rw [show (6 : Int).toNat = 6 from rfl] at b6
  rw [show (3 : Int).toNat = 3 from rfl] at b3
  have cl := letter_any k
  have t6 := triple_any (m / 2 ^ 6 % 8) 120 45
  have t3 := triple_any (m / 2 ^ 3 % 8) 120 45
  have co := others_any m
  have n6 := tri_len (m / 2 ^ 6 % 8) 120 45
  have n3 := tri_len (m / 2 ^ 3 % 8) 120 45
  have no := oth_len m
  unfold txt
  have nl : [lt k].length = 1 := rfl
  generalize [lt k] = L at cl nl ⊢
  generalize tri (m / 2 ^ 6 % 8) [120] [45] = T6 at t6 n6 ⊢
  generalize tri (m / 2 ^ 3 % 8) [120] [45] = T3 at t3 n3 ⊢
  generalize oth m = O at co no ⊢
  generalize m / 2 ^ 6 % 8 = q6 at b6 t6
  generalize m / 2 ^ 3 % 8 = q3 at b3 t3
  have a1 := add_ll L T6 (by omega)
  have a2 := add_ll (L ++ T6) T3 (by rw [List.length_append]; omega)
  have a3 := add_ll ((L ++ T6) ++ T3) O (by rw [List.length_append, List.length_append]; omega)
  generalize (L ++ T6) ++ T3 ++ O = X3 at a3 ⊢
  generalize (L ++ T6) ++ T3 = X2 at a2 a3
  generalize L ++ T6 = X1 at a1 a2
  clear n6 n3 no nl
  go_enter Try.func15, Try.ntmps15
  go_wp2_with (first
    | (go_at_call 23; refine (cl _).mono ?_; rintro e w1 ⟨rfl, rfl⟩)
    | (go_at_call 26; refine (co _).mono ?_; rintro e w1 ⟨rfl, rfl⟩)
    | (go_at_call 25; refine (b6 _).mono ?_; clear b6; rintro e w1 ⟨rfl, rfl⟩)
    | (go_at_call 25; refine (b3 _).mono ?_; rintro e w1 ⟨rfl, rfl⟩)
    | (refine (t6 _).mono ?_; clear t6; rintro e w1 ⟨rfl, rfl⟩)
    | (refine (t3 _).mono ?_; rintro e w1 ⟨rfl, rfl⟩))
  go_ret
  exact ⟨rfl, rfl⟩
end Go.Proofs.Ytccdpkbiandjdaa.PM
