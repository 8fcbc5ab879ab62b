/-
  name.Parts: the iterator yields the parts of a text in their order, or the first of them where the round says 'no more'.
-/
import Derived.Test.YtlceaecibjbeaaaGreatRefd
import Derived.RangeFuncNested
import Derived.RangeFuncBound
import Derived.RangeFuncCalls
import Derived.RangeFuncLeaves
import Derived.Shelf.Abstract
import Derived.OwnWalkIn
import Derived.TacticsInMore
import Derived.LoopNIn
import Derived.LoopIn
import Derived.Scope
import Derived.WalkMore
namespace Go.Proofs.YtlceaecibjbeaaaGreat.V
open Go.RowKit Go.Shelf
attribute [local go_sem] Oper.semAt_some

/-- the parts that are still to come -/
def more (b : Bool) (t : List UInt8) : List (List UInt8) := if b then M.parts t else []
def leftOf (r m : Value) : Nat := match m with
  | .bool true => strSize r + 1
  | _ => 0
theorem cut_parts (t : List UInt8) : ∃ p r b, Lib.cut t [47] = (p, r, b) ∧ M.parts t = (if M.keep p then [p] else []) ++ more b r ∧ r.length ≤ t.length ∧ leftOf (.string ⟨r.toArray⟩) (.bool b) < t.length + 1 := by
  rcases M.cut_slash t with ⟨h1, h2⟩ | ⟨p, r, h1, h2, h3⟩
  · refine ⟨_, _, _, h1, ?_, by simp, by simp [leftOf]⟩
    unfold M.parts
    rw [h2, List.filter_cons]
    by_cases hk : M.keep t = true <;> simp [hk, more]
  · refine ⟨_, _, _, h1, ?_, by omega, ?_⟩
    · unfold M.parts more
      rw [h2, List.filter_cons]
      by_cases hk : M.keep p = true <;> simp [hk, M.parts]
    · have : strSize (.string ⟨r.toArray⟩) = r.length := by simp [strSize, Lib.size_eq]
      unfold leftOf
      simp only [this]; omega

theorem drew_grown (W : World) (n : Nat) : W.grownBy (W.drewN n) none := ⟨rfl, rfl, rfl, Nat.le_refl _, fun _ _ _ => rfl⟩
theorem abides_drew {β : Type} {B : Nat} {J : β → World → Prop} (hJ : AbidesFrom B J) {s : β} {W : World} (h : J s W) (n : Nat) : J s (W.drewN n) :=
  hJ s W _ none h (drew_grown W n) (fun _ e => by cases e)

theorem scope_wide {n : Nat} {c : Code} {Q : Exit → Act → World → Prop} {a : Act} {w : World} (h : c.wpIn Fence.wide n Tryz.prog (Exit.noGoto Q) a w) : (Code.scope c).wpIn Fence.wide n Tryz.prog Q a w :=
  wpIn_wide.2 (wp_scope_straight (wpIn_wide.1 h))

set_option maxRecDepth 100000 in
set_option maxHeartbeats 2000000 in
theorem parts1_in (n : Nat) (hn : 1 ≤ n) (l Bn n₀ B : Nat) (s : ByteArray) (hs : s.size ≤ 5000) (J Jx : List (List UInt8) → World → Prop) (hJ : AbidesFrom B J)
    (hY : ∀ pre x W, J pre W → pre.length < (M.parts s.data.toList).length → YieldAt Fence.wide (n - 1) Tryz.prog l #[.string ⟨x.toArray⟩] W fun e W' =>
      (e = .returned (.bool true) ∧ J (pre ++ [x]) W' ∧ Below n₀ W W') ∨ (e = .returned (.bool false) ∧ Jx (pre ++ [x]) W'))
    (W : World) (hBn : W.cell? ⟨Bn, 0, none⟩ = some (.string s)) (h0 : J [] W) :
    CallsIn Fence.wide n Tryz.prog 94 #[.func (.yield l) #[] #[], .pointer (some ⟨Bn, 0, none⟩)] W fun e W' => (∃ v, e = .returned v) ∧
      ((∃ ys, ys = M.parts s.data.toList ∧ J ys W') ∨ (∃ pre, pre <+: M.parts s.data.toList ∧ Jx pre W')) := by
  obtain ⟨xs, HX⟩ : ∃ xs, Hid (M.parts s.data.toList = xs) := ⟨_, Lib.hid rfl⟩
  rw [HX.out] at hY ⊢
  refine callsIn_of_wp Tryz.func94 rfl trivial ?_ rfl
  simp only [Tryz.ntmps94, List.size_toArray, List.length_cons, List.length_nil, Nat.reduceAdd, Nat.reduceSub, Array.replicate_succ, Array.replicate_zero, List.push_toArray, List.append_toArray, List.nil_append, List.cons_append]
  gi_wp2
  refine scope_wide ?_
  gi_wp2
  refine wpIn_label ?_
  gi_wp2
  gi_loopw [3, 4] (fun r m wr => ∃ (pre : List (List UInt8)) (t : ByteArray) (b : Bool), r = .string t ∧ m = .bool b ∧ t.size ≤ 5000 ∧ xs = pre ++ more b t.data.toList ∧ J pre wr) (fun r m _ => leftOf r m)
  case atStart => exact ⟨[], s, true, rfl, rfl, hs, by rw [← HX.out]; rfl, h0⟩
  case round =>
    obtain ⟨pre, t, b, rfl, rfl, hts, hx, hJs⟩ := hrel
    cases b with
    | false =>
      have HE := Lib.hid hx; clear hx
      gi_wp2
      rw [Exit.noGoto_normal]
      go_end0
      exact ⟨⟨_, rfl⟩, .inl ⟨pre, by have := HE.out; simp [more] at this; exact this.symm, hJs⟩⟩
    | true =>
      obtain ⟨p, r, b, hcut, hpt, hrl, hml⟩ := cut_parts t.data.toList
      have cc := fun w => cut_any hts hcut w
      have hx' : xs = pre ++ ((if M.keep p then [p] else []) ++ more b r) := by rw [← hpt]; exact hx
      have HE := Lib.hid hx'; have HM := Lib.hid hml; have HR : Hid (r.length ≤ 5000) := Lib.hid (by rw [← Lib.size_eq] at hrl; omega)
      clear hx hx' hml hpt hcut hrl
      by_cases h0 : p = []
      · subst h0
        gi_wp2_with (refine ⟨trivial, ?_⟩; gi_at_call 95; refine (callsIn_wide.2 (cc _)).mono ?_; rintro e w1 ⟨rfl, nn, rfl⟩)
        go_roundw
        case rel => exact ⟨pre, ⟨r.toArray⟩, b, rfl, rfl, by rw [Lib.size_eq]; exact HR.out, HE.out, abides_drew hJ hJs nn⟩
        case measure => exact HM.out
      by_cases h1 : p = [46]
      · subst h1
        gi_wp2_with (refine ⟨trivial, ?_⟩; gi_at_call 95; refine (callsIn_wide.2 (cc _)).mono ?_; rintro e w1 ⟨rfl, nn, rfl⟩)
        go_roundw
        case rel => exact ⟨pre, ⟨r.toArray⟩, b, rfl, rfl, by rw [Lib.size_eq]; exact HR.out, HE.out, abides_drew hJ hJs nn⟩
        case measure => exact HM.out
      have HX2 : Hid (xs = (pre ++ [p]) ++ more b r) := Lib.hid (by rw [HE.out, if_pos (M.keep_other h0 h1)]; simp)
      have h0' : p.isEmpty = false := by cases p <;> simp_all
      have h1' : (p == [46]) = false := by simpa using h1
      have hlt : pre.length < xs.length := by rw [HX2.out]; simp
      gi_wp2_with (refine ⟨trivial, ?_⟩; gi_at_call 95; refine (callsIn_wide.2 (cc _)).mono ?_; rintro e w1 ⟨rfl, nn, rfl⟩; obtain ⟨fn, tmps, assign, body, hy, hR⟩ := hY pre p _ (abides_drew hJ hJs nn) hlt)
      refine hR.mono ?_
      rintro e W3 (⟨rfl, hJ3, hk3⟩ | ⟨rfl, hJx3⟩)
      · gi_wp2
        go_roundw
        case rel => exact ⟨pre ++ [p], ⟨r.toArray⟩, b, rfl, rfl, by rw [Lib.size_eq]; exact HR.out, HX2.out, hJ3⟩
        case measure => exact HM.out
      · gi_wp2
        (try rw [Exit.noGoto_ret])
        refine bodyPost_ret (results_none rfl _ _ _) rfl ?_
        exact ⟨⟨_, rfl⟩, .inr ⟨pre ++ [p], ⟨more b r, HX2.out.symm⟩, hJx3⟩⟩

theorem parts_in (n : Nat) (s : ByteArray) (w : World) :
    CallsIn Fence.wide n Tryz.prog 63 #[.string s] w fun e w' => e = .returned (.func (.func 94) #[] #[.pointer (some ⟨w.heap.size, 0, none⟩)]) ∧ w' = w.alloc (.cells #[.string s] 9) := by
  refine callsIn_of_wp Tryz.func63 rfl trivial ?_ rfl
  simp only [Tryz.ntmps63, List.size_toArray, List.length_cons, List.length_nil, Nat.reduceAdd, Nat.reduceSub, Array.replicate_succ, Array.replicate_zero, List.push_toArray, List.append_toArray, List.nil_append, List.cons_append]
  gi_wp2
  go_ret
  exact ⟨rfl, rfl⟩

theorem parts_stops (n : Nat) (hn : 1 ≤ n) (Bn n₀ : Nat) (s : ByteArray) (hs : s.size ≤ 5000) (w : World) (hBn : Bn < w.heap.size)
    (hc : w.cell? ⟨Bn, 0, none⟩ = some (.string s)) :
    SeqStopsK Fence.wide n Tryz.prog 94 #[.pointer (some ⟨Bn, 0, none⟩)] (fun x : List UInt8 => #[Value.string ⟨x.toArray⟩]) (Below n₀) (fun ys => ys = M.parts s.data.toList) (fun pre => pre <+: M.parts s.data.toList) (M.parts s.data.toList).length w :=
  fun l J Jx W hW hJ _ hY h0 => parts1_in n hn l Bn n₀ W.heap.size s hs J Jx hJ hY W ((hW.cell (p := ⟨Bn, 0, none⟩) hBn).trans hc) h0
end Go.Proofs.YtlceaecibjbeaaaGreat.V
