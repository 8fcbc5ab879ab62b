/-
  The law's at, all and awake; a table that is none.
-/
import Derived.Test.YtjliinpjkhfdbaaTsame
namespace Go.Proofs.Ytjliinpjkhfdbaa.T
open Go.RowKit Go.Shelf
attribute [local go_sem] Oper.semAt_some

/-- z is the place of a number in a row, or -1 -/
def Place (l : Row) (no : Int) (z : Int) : Prop := (∃ (i : Nat) (p : Nd × Value), z = i ∧ l[i]? = some p ∧ p.1.no = no) ∨ (z = -1 ∧ ∀ p ∈ l, p.1.no ≠ no)
set_option maxHeartbeats 4000000 in
theorem at_any (v : Value) (l : Row) (no : Int) (w : World) (hv : RowSees v l w) :
    Calls Try.prog 8 #[v, .int .i64 no] w fun e w' => w = w' ∧ ∃ z : Int, e = .returned (.int .i64 z) ∧ Place l no z := by
  obtain ⟨oa, cap, rfl, hm, hc⟩ := hv
  have hle : l.length ≤ 9223372036854775807 := by have := Nat.le_trans hm.1 hm.2; unfold maxLen at this; omega
  have HC := Lib.hid hc
  clear hm hc
  go_enter Try.func8, Try.ntmps8
  go_wp2
  go_loop [5] (fun i => ∃ (k : Nat), i = .int .i64 k ∧ k ≤ l.length ∧ Hid (∀ (j : Nat) (p : Nd × Value), j < k → l[j]? = some p → p.1.no ≠ no)) (fun i => l.length - (intOf i).toNat)
  case atStart => exact ⟨0, rfl, Nat.zero_le _, Lib.hid fun j p h => absurd h (Nat.not_lt_zero _)⟩
  case round =>
    obtain ⟨k, rfl, hk, hj⟩ := hrel
    by_cases hlt : k < l.length
    · obtain ⟨p, hp⟩ : ∃ p, l[k]? = some p := ⟨_, List.getElem?_eq_getElem hlt⟩
      obtain ⟨g, o, rfl, hat⟩ := HC.out k p hp
      have c0 := hat.facts.1
      have HP := Lib.hid hp
      by_cases hn : p.1.no = no
      · have HN := Lib.hid hn
        have hb : (p.1.no == no) = true := by simp [hn]
        clear hat hp hn
        go_wp2
        go_ret
        exact ⟨rfl, _, rfl, .inl ⟨k, p, rfl, HP.out, HN.out⟩⟩
      · have HN := Lib.hid hn
        have hb : (p.1.no == no) = false := by simp [hn]
        clear hat hp hn
        go_wp2
        go_round
        case rel => exact ⟨k + 1, by go_num, by omega, Lib.hid fun j q h hq => by
          rcases Nat.lt_succ_iff_lt_or_eq.1 h with h | rfl
          · exact hj.out j q h hq
          · rw [HP.out] at hq; cases hq; exact HN.out⟩
        case measure => simp [intOf]; omega
    · go_wp2
      go_ret
      refine ⟨rfl, _, rfl, .inr ⟨rfl, fun p hp => ?_⟩⟩
      obtain ⟨j, hj1⟩ := List.mem_iff_getElem?.1 hp
      have := (List.getElem?_eq_some_iff.1 hj1).1
      exact hj.out j p (by omega) hj1
end Go.Proofs.Ytjliinpjkhfdbaa.T
