/-
  The way from a directory up to the top: the mathematics, and the iterator.
-/
import Derived.Test.YtenopnfclbegbaaGreatLall
import Derived.RangeFuncNested
import Derived.RangeFuncBound
import Derived.RangeFuncCalls
import Derived.RangeFuncLeaves
import Derived.RangeFuncWrites
import Derived.Shelf.Abstract
import Derived.OwnWalkIn
import Derived.TacticsInMore
import Derived.LoopNIn
import Derived.LoopIn
import Derived.Scope
import Derived.WalkMore
import Derived.Maps.OwnIn
import Derived.Maps.Views
import Derived.Sort.LoopGhostIn
namespace Go.Proofs.YtenopnfclbegbaaGreat.G
open Go.RowKit Go.Shelf Go.Maps
attribute [local go_sem] Oper.semAt_some

/-- so many steps at most, from a number, past those that were seen -/
def wayL (st : St) : Nat → List Int → Int → List Int
  | 0, _, _ => []
  | f + 1, seen, x => if x = 0 ∨ x ∈ seen then [] else x :: wayL st f (x :: seen) (above st x)
def way (st : St) (no : Int) : List Int := wayL st (st.n.length + 2) [] no
def unseen (st : St) (seen : List Int) : Nat := (st.n.filter fun p => decide (p.no ∉ seen)).length
def mes (st : St) (seen : List Int) (x : Int) : Nat := unseen st seen + if x = 0 then 0 else 1
theorem unseen_le (st : St) (seen : List Int) : unseen st seen ≤ st.n.length := List.length_filter_le _ _
theorem filter_le {α : Type} (p q : α → Bool) (h : ∀ x, q x = true → p x = true) : ∀ l : List α, (l.filter q).length ≤ (l.filter p).length
  | [] => Nat.le_refl _
  | x :: r => by
    have ih := filter_le p q h r
    rw [List.filter_cons, List.filter_cons]
    by_cases hq : q x = true
    · rw [if_pos hq, if_pos (h x hq)]; simp only [List.length_cons]; omega
    · rw [if_neg hq]
      split <;> (try simp only [List.length_cons]) <;> omega
theorem filter_lt {α : Type} (p q : α → Bool) (h : ∀ x, q x = true → p x = true) : ∀ l : List α, (∃ x ∈ l, p x = true ∧ q x = false) → (l.filter q).length < (l.filter p).length
  | [], ⟨_, hx, _⟩ => by cases hx
  | x :: r, ⟨y, hy, h1, h2⟩ => by
    rw [List.filter_cons, List.filter_cons]
    rcases List.mem_cons.1 hy with rfl | hy
    · rw [if_pos h1, if_neg (by rw [h2]; simp)]
      have := filter_le p q h r
      simp only [List.length_cons]; omega
    · have ih := filter_lt p q h r ⟨y, hy, h1, h2⟩
      by_cases hq : q x = true
      · rw [if_pos hq, if_pos (h x hq)]; simp only [List.length_cons]; omega
      · rw [if_neg hq]
        split <;> (try simp only [List.length_cons]) <;> omega
theorem above_none {st : St} {x : Int} (h : isDir st.n x = false) : above st x = 0 := by unfold above; rw [if_neg (by rw [h]; simp)]
theorem mes_step {st : St} {seen : List Int} {x : Int} (h0 : x ≠ 0) (hs : x ∉ seen) : mes st (x :: seen) (above st x) < mes st seen x := by
  unfold mes
  rw [if_neg h0]
  cases hd : isDir st.n x with
  | false =>
    rw [above_none hd, if_pos rfl]
    have : unseen st (x :: seen) ≤ unseen st seen := filter_le _ _ (fun p hp => by simp at hp ⊢; exact hp.2) _
    omega
  | true =>
    obtain ⟨y, hy, _⟩ := isDir_iff.1 hd
    obtain ⟨hm, hn⟩ := get_some hy
    have : unseen st (x :: seen) < unseen st seen := filter_lt _ _ (fun p hp => by simp at hp ⊢; exact hp.2) _ ⟨y, hm, by simpa [hn] using hs, by simp [hn]⟩
    split <;> omega
theorem mes_start (st : St) (no : Int) : mes st [] no < st.n.length + 2 := by
  unfold mes
  have := unseen_le st []
  split <;> omega

/-- an int -/
abbrev Wn := { x : Int // -9223372036854775808 ≤ x ∧ x ≤ 9223372036854775807 }
def nums (l : List Wn) : List Int := l.map (·.1)
theorem nums_snoc (l : List Wn) (y : Wn) : nums (l ++ [y]) = nums l ++ [y.1] := by simp [nums]
/-- numbers are ints -/
structure Ranged (st : St) : Prop where
  ups : ∀ p ∈ st.n, -9223372036854775808 ≤ p.up ∧ p.up ≤ 9223372036854775807
  covs : ∀ m ∈ st.d, -9223372036854775808 ≤ m.cov ∧ m.cov ≤ 9223372036854775807
theorem Ranged.up {st : St} (h : Ranged st) (k : Int) : -9223372036854775808 ≤ (gets st.n k).up ∧ (gets st.n k).up ≤ 9223372036854775807 := by
  cases e : get st.n k with
  | none => rw [gets_none e]; exact ⟨by decide, by decide⟩
  | some y => rw [gets_some e]; exact h.ups y (get_some e).1
theorem Ranged.above {st : St} (h : Ranged st) (k : Int) : -9223372036854775808 ≤ above st k ∧ above st k ≤ 9223372036854775807 := by
  unfold G.above
  split
  · exact h.up _
  · exact ⟨by decide, by decide⟩
theorem Ranged.under {st : St} (h : Ranged st) {k : Int} (hk : -9223372036854775808 ≤ k ∧ k ≤ 9223372036854775807) : -9223372036854775808 ≤ under st.d k ∧ under st.d k ≤ 9223372036854775807 := by
  unfold G.under
  cases e : st.d.find? fun m => decide (m.root = k) with
  | none => exact hk
  | some m => exact h.covs m (List.mem_of_find?_eq_some e)
theorem Grown.ranged {st : St} (h : Grown st) (hl : st.last < 1000000) : Ranged st := by
  refine ⟨fun p hp => by have := h.ups p hp; omega, fun m hm => ?_⟩
  obtain ⟨i, hi⟩ := List.mem_iff_getElem?.1 hm
  cases i with
  | zero =>
    obtain ⟨q, hq⟩ := h.inv.top
    rw [hq] at hi
    cases hi
    exact ⟨by show (-9223372036854775808 : Int) ≤ 1; decide, by show (1 : Int) ≤ 9223372036854775807; decide⟩
  | succ i => have := h.inv.covs (i + 1) m hi (Nat.succ_pos _); omega

/-- the set of the numbers that came -/
def SetZ (D : DataW Unit) (l : List Int) : Prop := ∀ x, Maps.has D (.int .i64 x) = decide (x ∈ l)
theorem SetZ.start : SetZ (.map []) [] := fun x => by simp [Maps.has]
theorem SetZ.put {D : DataW Unit} {l : List Int} {y : Int} (h : SetZ D l) (hD : IsMap D) (d : DataW Unit) : SetZ (D.put (.int .i64 y) d) (l ++ [y]) := fun x => by
  by_cases e : y = x
  · subst e
    rw [has_put_same (k := .int .i64 y) hD (show WideAt.IsKeyLit (.int .i64 y) from True.intro)]
    simp
  · rw [has_put_other (by intro h; injection h with _ h; exact e h.symm), h x]
    simp [Ne.symm e]
theorem zeroU (w : World) : (zeroValue 154).run Tryz.prog w = .ok (.agg #[]) w := by kernel_rfl

/-- all but texts, rows of texts and Booleans stay -/
structure Still (W W' : World) : Prop where
  os : W'.os = W.os
  tape : W'.tape = W.tape
  output : W'.output = W.output
  size : W.heap.size ≤ W'.heap.size
  cells : ∀ (k : Nat) (x : Array Value) (t : TypeId) (mk : Nat × Nat), W.heap[k]? = some (.cells x t mk) → t ≠ 9 → t ≠ 137 → t ≠ 4 → W'.heap[k]? = some (.cells x t mk)
  walks : ∀ (k : Nat) (o : Obj), W.heap[k]? = some o → o.isWalk = true → W'.heap[k]? = some o
section
variable {A B C : World}
theorem Still.trans (h : Still A B) (k : Still B C) : Still A C :=
  ⟨k.os.trans h.os, k.tape.trans h.tape, k.output.trans h.output, Nat.le_trans h.size k.size, fun i x t mk h0 h1 h2 h3 => k.cells i x t mk (h.cells i x t mk h0 h1 h2 h3) h1 h2 h3, fun i o h0 h1 => k.walks i o (h.walks i o h0 h1) h1⟩
theorem Still.of_below (h : Below A.heap.size A B) : Still A B :=
  ⟨h.os, h.tape, h.output, h.size, fun k _ _ _ h0 _ _ _ => (h.block k (Array.getElem?_eq_some_iff.1 h0).1).trans h0, fun k _ h0 _ => (h.block k (Array.getElem?_eq_some_iff.1 h0).1).trans h0⟩
theorem Still.loop (W : World) (l : Nat) (o o' : Obj) (h : W.heap[l]? = some o) (hc : o.isCells = false) (hw : o.isWalk = false) : Still W (W.putObj l o') := by
  have hg := grownBy_putObj' W l o'
  refine ⟨hg.os, hg.tape, hg.output, hg.size, fun k x t mk h0 _ _ _ => ?_, fun k p h0 h1 => ?_⟩
  · refine (hg.block k (Array.getElem?_eq_some_iff.1 h0).1 fun e => ?_).trans h0
    cases e
    rw [h] at h0
    cases h0
    cases hc
  · refine (hg.block k (Array.getElem?_eq_some_iff.1 h0).1 fun e => ?_).trans h0
    cases e
    rw [h] at h0
    cases h0
    rw [hw] at h1
    cases h1
theorem Still.set (W : World) {b : Nat} {cs : Array Value} {t : TypeId} {mk : Nat × Nat} (h : W.heap[b]? = some (.cells cs t mk)) (ht : t = 9 ∨ t = 137 ∨ t = 4) (i : Nat) (u : Value) : Still W (W.setCell ⟨b, i, none⟩ u) := by
  refine ⟨rfl, rfl, rfl, by rw [World.size_setCell]; exact Nat.le_refl _, fun k x t' mk' h0 h1 h2 h3 => ?_, fun k o h0 h1 => ?_⟩
  · refine (RowKit.Below.heap_setCell _ _ _ _ fun e => ?_).trans h0
    have e' : k = b := e
    subst e'
    rw [h] at h0
    cases h0
    rcases ht with ht | ht | ht
    · exact h1 ht
    · exact h2 ht
    · exact h3 ht
  · refine (RowKit.Below.heap_setCell _ _ _ _ fun e => ?_).trans h0
    have e' : k = b := e
    subst e'
    rw [h] at h0
    cases h0
    cases h1
end
section
variable {B X A M : Nat} {mv : Value} {st : St} {w w' : World}
theorem Wd.still (h : Wd B X A M mv st w) (hs : Still w w') : Wd B X A M mv st w' := by
  obtain ⟨l, h1, h2⟩ := h.tab
  refine h.stays (fun k hk => ?_) fun g cur hg => hs.cells g cur _ _ hg (by decide) (by decide) (by decide)
  rcases hk with rfl | rfl | rfl | hk
  · rw [h.head]; exact hs.cells _ _ _ _ h.head (by decide) (by decide) (by decide)
  · rw [h2.head]; exact hs.cells _ _ _ _ h2.head (by decide) (by decide) (by decide)
  · obtain ⟨es, clock, hm, _⟩ := h2.map
    rw [hm]; exact hs.walks _ _ hm rfl
  · obtain ⟨_, cur, hc⟩ := h.rows.block hk
    rw [hc]; exact hs.cells _ _ _ _ hc (by decide) (by decide) (by decide)
theorem Boxed.still {b : Nat} {t : TypeId} {v : Value} (h : Boxed w b t v) (hs : Still w w') (h1 : t ≠ 9) (h2 : t ≠ 137) (h3 : t ≠ 4) : Boxed w' b t v := hs.cells _ _ _ _ h h1 h2 h3
theorem map_still {R : Value → Option (DataW Unit × List MemPlace)} {b n : Nat} {D : DataW Unit} (h : w.ownsMap Tryz.prog 3 R b n D) (hs : Still w w') : w'.ownsMap Tryz.prog 3 R b n D := by
  obtain ⟨es, clock, hb, r⟩ := h
  exact ⟨es, clock, hs.walks _ _ hb rfl, r⟩
theorem abides_below {β : Type} {B : Nat} {J : β → World → Prop} (hJ : AbidesFrom B J) {s : β} {W W' : World} (h : J s W) (hb : Below W.heap.size W W') : J s W' :=
  hJ s W _ none h ⟨hb.os, hb.tape, hb.output, hb.size, fun k hk _ => hb.block k hk⟩ (fun _ e => by cases e)
end
end Go.Proofs.YtenopnfclbegbaaGreat.G
/-
  way's iterator.
-/
namespace Go.Proofs.YtenopnfclbegbaaGreat.G
open Go.RowKit Go.Shelf Go.Maps
attribute [local go_sem] Oper.semAt_some

theorem wayL_stop {st : St} {f : Nat} {seen : List Int} {x : Int} (h : x = 0 ∨ x ∈ seen) : wayL st (f + 1) seen x = [] := by unfold wayL; rw [if_pos h]
theorem wayL_go {st : St} {f : Nat} {seen : List Int} {x : Int} (h0 : x ≠ 0) (hs : x ∉ seen) : wayL st (f + 1) seen x = x :: wayL st f (x :: seen) (above st x) := by
  rw [wayL, if_neg (by rintro (h | h); exact h0 h; exact hs h)]
theorem scope_wide {n : Nat} {c : Code} {Q : Exit → Act → World → Prop} {a : Act} {w : World} (h : c.wpIn Fence.wide n Tryz.prog (Exit.noGoto Q) a w) : (Code.scope c).wpIn Fence.wide n Tryz.prog Q a w :=
  wpIn_wide.2 (wp_scope_straight (wpIn_wide.1 h))
theorem Wd.grownMap {B X A M Mb : Nat} {mv : Value} {st : St} {w w' : World} (h : Wd B X A M mv st w) (hg : w.grownBy w' (some Mb)) (hlt : ∀ k, wS X A M mv k → k < Mb) {es : Array MapEntry} {c : Nat} (hm : w.heap[Mb]? = some (.map es c)) : Wd B X A M mv st w' := by
  refine h.stays (fun k hk => hg.block k (h.lt hk) fun e => ?_) fun g cur hgc => (hg.block g (Array.getElem?_eq_some_iff.1 hgc).1 fun e => ?_).trans hgc
  · cases e
    exact Nat.lt_irrefl _ (hlt _ hk)
  · cases e
    rw [hm] at hgc
    cases hgc
set_option maxRecDepth 100000 in
set_option maxHeartbeats 4000000 in
theorem way1_in {B X A M : Nat} {mv : Value} {st : St} (hr : Ranged st) (n : Nat) (hn : 1 ≤ n) (l bo bw : Nat) (no : Wn) (BJ : Nat) (J Jx : List Wn → World → Prop) (hJ : AbidesFrom BJ J) (hnl : st.n.length < 100000)
    (hY : ∀ pre (x : Wn) W, J pre W → pre.length < 200000 → YieldAt Fence.wide (n - 1) Tryz.prog l #[.int .i64 x.1] W fun e W' =>
      (e = .returned (.bool true) ∧ J (pre ++ [x]) W' ∧ Still W W') ∨ (e = .returned (.bool false) ∧ Jx (pre ++ [x]) W'))
    (W : World) (hBJ : BJ ≤ W.heap.size) (hbo : Boxed W bo 3 (.int .i64 no.1)) (hbw : Boxed W bw 29 (.pointer (some ⟨X, 0, none⟩))) (hW : Wd B X A M mv st W) (h0 : J [] W) :
    CallsIn Fence.wide n Tryz.prog 111 #[.func (.yield l) #[] #[], .pointer (some ⟨bo, 0, none⟩), .pointer (some ⟨bw, 0, none⟩)] W fun e W' => (∃ v, e = .returned v) ∧
      ((∃ ys, nums ys = way st no.1 ∧ J ys W') ∨ (∃ pre, nums pre <+: way st no.1 ∧ Jx pre W')) := by
  have hb1 : Below W.heap.size W (W.alloc (.map #[] 0)) := (Below.refl _ _).alloc (Nat.le_refl _) _
  have m1 := World.ownsMap_made W Tryz.prog 3 (unitElem (H := Unit))
  have o1 := Boxed.still hbo (Still.of_below hb1) (by decide) (by decide) (by decide)
  have w1 := Boxed.still hbw (Still.of_below hb1) (by decide) (by decide) (by decide)
  have d1 := hW.below hb1
  have j1 := abides_below hJ h0 hb1
  have co := hbo.cell
  have cq := o1.cell
  have hmm := @run_makeMap Tryz.prog
  have hlt := fun k (hk : wS X A M mv k) => hW.lt hk
  have HS := Lib.hid (mes_start st no.1)
  have HW0 : Hid (nums [] ++ wayL st (st.n.length + 2) [] no.1 = way st no.1) := Lib.hid rfl
  have HJ := Lib.hid hJ
  have HY := Lib.hid hY
  have HR := Lib.hid hr
  clear hbo hbw hW h0 hJ hY hr
  refine callsIn_of_wp Tryz.func111 rfl trivial ?_ rfl
  simp only [Tryz.ntmps111, List.size_toArray, List.length_cons, List.length_nil, Nat.reduceAdd, Nat.reduceSub, Array.replicate_succ, Array.replicate_zero, List.push_toArray, List.append_toArray, List.nil_append, List.cons_append]
  gi_wp2
  clear hmm co
  have HL := Lib.hid hlt
  clear hlt
  obtain ⟨Mb, hMb⟩ : ∃ b, W.heap.size = b := ⟨_, rfl⟩
  rw [hMb] at m1 hBJ HL ⊢
  generalize W.alloc (.map #[] 0) = W1 at *
  have M1 := Lib.hid m1
  have O1 := Lib.hid w1
  have D1 := Lib.hid d1
  have J1 := Lib.hid j1
  clear m1 w1 d1 j1 o1 cq hb1
  gi_loopg [5] (st.n.length + 2) (fun f i wr => ∃ (pre : List Wn) (x : Wn) (D : DataW Unit) (seen : List Int), i = .int .i64 x.1 ∧ pre.length + f = st.n.length + 2 ∧ mes st seen x.1 < f ∧ (∀ y, y ∈ seen ↔ y ∈ nums pre) ∧ nums pre ++ wayL st f seen x.1 = way st no.1 ∧
    wr.ownsMap Tryz.prog 3 unitElem Mb pre.length D ∧ SetZ D (nums pre) ∧ J pre wr ∧ Boxed wr bw 29 (.pointer (some ⟨X, 0, none⟩)) ∧ Wd B X A M mv st wr)
  case atStart => exact ⟨[], no, _, [], rfl, by simp, HS.out, fun y => Iff.rfl, HW0.out, M1.out, SetZ.start, J1.out, O1.out, D1.out⟩
  case round =>
    obtain ⟨pre, x, D, seen, rfl, hlen, hmes, hseen, hway, hm, hset, hj, hbx, hw⟩ := hrel
    obtain ⟨f, rfl⟩ : ∃ f, gk = f + 1 := ⟨gk - 1, by omega⟩
    have HM := Lib.hid hm; have HST := Lib.hid hset; have HJ' := Lib.hid hj; have HBX := Lib.hid hbx; have HW' := Lib.hid hw
    by_cases hx0 : x.1 = 0
    · rw [wayL_stop (.inl hx0), List.append_nil] at hway
      have HWAY := Lib.hid hway
      have hx0' : (x.1 == 0) = true := by simpa using hx0
      clear hway hseen hmes hm hset hj hbx hw
      gi_wp2
      go_end0
      exact ⟨⟨_, rfl⟩, .inl ⟨pre, HWAY.out, HJ'.out⟩⟩
    · have hx0' : (x.1 == 0) = false := by simpa using hx0
      have hkey := T.key_of (k := x.1) (T.wf_of x.2.1 x.2.2)
      have hh := hset x.1
      by_cases hxs : x.1 ∈ nums pre
      · rw [decide_eq_true hxs] at hh
        rw [wayL_stop (.inr ((hseen x.1).2 hxs)), List.append_nil] at hway
        have HWAY := Lib.hid hway
        clear hway hseen hmes hset hj hbx hw hxs
        gi_wp2_with (gi_at_lookup; refine wpListIn_lookup_own_unit _ rfl _ _ 153 rfl 3 154 T.law Tryz.underlying153 (zeroU _) Mb pre.length D rfl hm _ _ rfl hkey ?_; rw [hh])
        refine ⟨(fun _ h => by cases h), ?_⟩
        gi_wp2
        refine bodyPost_ret (results_none rfl _ _ _) rfl ?_
        exact ⟨⟨_, rfl⟩, .inl ⟨pre, HWAY.out, abides_below HJ.out HJ'.out ((Below.refl wr.heap.size wr).alloc (Nat.le_refl _) (.cells #[] 154))⟩⟩
      · rw [decide_eq_false hxs] at hh
        have hss : x.1 ∉ seen := fun e => hxs ((hseen x.1).1 e)
        have HMES := Lib.hid (Nat.lt_of_lt_of_le (mes_step hx0 hss) (Nat.le_of_lt_succ hmes))
        rw [wayL_go hx0 hss] at hway
        have HWAY := Lib.hid hway
        have HSEEN : Hid (∀ y, y ∈ x.1 :: seen ↔ y ∈ nums (pre ++ [x])) := Lib.hid fun y => by
          rw [nums_snoc, List.mem_cons, List.mem_append, List.mem_singleton, hseen y]; exact Or.comm
        have hj1 := abides_below HJ.out hj ((Below.refl wr.heap.size wr).alloc (Nat.le_refl _) (.cells #[] 154))
        clear hway hseen hmes hset hj hbx hw hxs hss
        gi_wp2_with (gi_at_lookup; refine wpListIn_lookup_own_unit _ rfl _ _ 153 rfl 3 154 T.law Tryz.underlying153 (zeroU _) Mb pre.length D rfl hm _ _ rfl hkey ?_; rw [hh])
        obtain ⟨fn, tmps, assign, body, hy, hR⟩ := HY.out pre x _ hj1 (by omega)
        rw [hy]
        gi_wp2
        refine hR.mono ?_
        have hal : Still wr (wr.alloc (.cells #[] 154)) := Still.of_below ((Below.refl wr.heap.size wr).alloc (Nat.le_refl _) (.cells #[] 154))
        clear hm hh hj1 hy hR
        rintro e W3 (⟨rfl, hJ3, hk3⟩ | ⟨rfl, hJx3⟩)
        · have hs3 := hal.trans hk3
          have hm3 := map_still HM.out hs3
          have hw3 := HW'.out.still hs3
          have hb3 := Boxed.still HBX.out hs3 (by decide) (by decide) (by decide)
          have HHM := Lib.hid hm3.isMap
          obtain ⟨es, clock, hmb, _⟩ := hm3
          have hm3 := map_still HM.out hs3
          have HMB := Lib.hid hmb
          have HW3 := Lib.hid hw3
          have HJ3 := Lib.hid hJ3
          have HB3 := Lib.hid hb3
          clear hs3 hw3 hb3 hmb hJ3 hk3 hal
          gi_wp2_with (first
            | (gi_at_mapUpdate; refine wpListIn_mapUpdate_own _ rfl _ _ _ 153 rfl 3 154 T.law Tryz.underlying153 (unitElem (H := Unit)) Mb pre.length D rfl hm3 (by unfold maxLen; omega) _ _ _ rfl rfl hkey _ [] unitElem_mk ?_; intro w4 hown4 hgrow4; have hw4 := HW3.out.grownMap hgrow4 HL.out HMB.out; have hb4 := Boxed.kept HB3.out hgrow4 (fun e => by cases e; have h0 := HB3.out; have h1 := HMB.out; unfold Boxed at h0; rw [h0] at h1; cases h1); have hc4 := hb4.cell)
            | (refine ⟨trivial, ?_⟩; gi_at_call 68; refine (callsIn_wide.2 (Above_any hw4 x.1 (T.wf_of x.2.1 x.2.2) (T.wf_of (HR.out.under x.2).1 (HR.out.under x.2).2))).mono ?_; rintro e w5 ⟨rfl, hb5⟩))
          have hj5 := abides_below HJ.out (HJ.out _ _ _ (some Mb) HJ3.out hgrow4 (fun r e => by cases e; exact ⟨hBJ, _, HMB.out, rfl⟩)) hb5
          gi_roundg f
          case rel => exact ⟨pre ++ [x], ⟨above st x.1, HR.out.above x.1⟩, _, x.1 :: seen, rfl, by rw [List.length_append]; show pre.length + 1 + f = _; omega, HMES.out, HSEEN.out, by rw [nums_snoc, ← HWAY.out, List.append_assoc]; rfl, by rw [List.length_append]; exact map_still hown4 (Still.of_below hb5), by rw [nums_snoc]; exact HST.out.put HHM.out _, hj5, Boxed.still hb4 (Still.of_below hb5) (by decide) (by decide) (by decide), hw4.below hb5⟩
          case measure => exact Nat.lt_succ_self f
        · gi_wp2
          refine bodyPost_ret (results_none rfl _ _ _) rfl ?_
          exact ⟨⟨_, rfl⟩, .inr ⟨pre ++ [x], by rw [nums_snoc, ← HWAY.out]; exact ⟨wayL st f (x.1 :: seen) (above st x.1), by rw [List.append_assoc]; rfl⟩, hJx3⟩⟩
end Go.Proofs.YtenopnfclbegbaaGreat.G
/-
  way; Within.
-/
namespace Go.Proofs.YtenopnfclbegbaaGreat.G
open Go.RowKit Go.Shelf Go.Maps
attribute [local go_sem] Oper.semAt_some

theorem way_in (n X : Nat) (no : Int) (w : World) :
    CallsIn Fence.wide n Tryz.prog 92 #[.pointer (some ⟨X, 0, none⟩), .int .i64 no] w fun e w' =>
      e = .returned (.func (.func 111) #[] #[.pointer (some ⟨w.heap.size + 1, 0, none⟩), .pointer (some ⟨w.heap.size, 0, none⟩)]) ∧ w' = (w.alloc (.cells #[.pointer (some ⟨X, 0, none⟩)] 29)).alloc (.cells #[.int .i64 no] 3) := by
  refine callsIn_of_wp Tryz.func92 rfl trivial ?_ rfl
  simp only [Tryz.ntmps92, List.size_toArray, List.length_cons, List.length_nil, Nat.reduceAdd, Nat.reduceSub, Array.replicate_succ, Array.replicate_zero, List.push_toArray, List.append_toArray, List.nil_append, List.cons_append]
  gi_wp2
  go_ret
  exact ⟨rfl, rfl⟩
theorem way_stops {B X A M : Nat} {mv : Value} {st : St} (hr : Ranged st) (n : Nat) (hn : 1 ≤ n) (bo bw : Nat) (no : Wn) (hnl : st.n.length < 100000) (w : World)
    (hbo : Boxed w bo 3 (.int .i64 no.1)) (hbw : Boxed w bw 29 (.pointer (some ⟨X, 0, none⟩))) (hW : Wd B X A M mv st w) :
    SeqStopsK Fence.wide n Tryz.prog 111 #[.pointer (some ⟨bo, 0, none⟩), .pointer (some ⟨bw, 0, none⟩)] (fun x : Wn => #[Value.int .i64 x.1]) Still (fun ys => nums ys = way st no.1) (fun pre => nums pre <+: way st no.1) 200000 w :=
  fun l J Jx W hWb hJ _ hY h0 => way1_in hr n hn l bo bw no W.heap.size J Jx hJ hnl hY W (Nat.le_refl _) (Boxed.still hbo (Still.of_below hWb) (by decide) (by decide) (by decide)) (Boxed.still hbw (Still.of_below hWb) (by decide) (by decide) (by decide)) (hW.below hWb) h0
section
variable {B X A M : Nat} {mv : Value} {st : St} {w : World}
set_option maxRecDepth 100000 in
set_option maxHeartbeats 4000000 in
theorem Within_any (h : Wd B X A M mv st w) (hr : Ranged st) (no : Wn) (base : Int) (hnl : st.n.length < 100000) :
    Calls Tryz.prog 97 #[.pointer (some ⟨X, 0, none⟩), .int .i64 no.1, .int .i64 base] w fun e w' => e = .returned (.bool (decide (base ∈ way st no.1))) ∧ Below w.heap.size w w' := by
  refine (callsIn_wide (n := 5)).1 ?_
  have hb2 : Below w.heap.size w ((w.alloc (.cells #[.int .i64 base] 3)).alloc (.cells #[.bool false] 4)) := ((Below.refl _ w).alloc (Nat.le_refl _) _).alloc (by simp) _
  have b0 := (Boxed.new w 3 (.int .i64 base)).alloc (.cells #[.bool false] 4)
  have b1 := Boxed.new (w.alloc (.cells #[.int .i64 base] 3)) 4 (.bool false)
  rw [World.size_alloc] at b1
  have hW2 := h.below hb2
  have HR := Lib.hid hr
  clear h hr
  refine callsIn_of_wp_marks Tryz.func97 rfl trivial ?_ rfl
  simp only [Tryz.ntmps97, List.size_toArray, List.length_cons, List.length_nil, Nat.reduceAdd, Nat.reduceSub, Array.replicate_succ, Array.replicate_zero, List.push_toArray, List.append_toArray, List.nil_append, List.cons_append]
  gi_wp2_with (refine ⟨trivial, ?_⟩; gi_at_call 92; refine (way_in _ _ _ _).mono ?_; rintro e w' ⟨rfl, rfl⟩)
  have hs2 : ((w.alloc (.cells #[.int .i64 base] 3)).alloc (.cells #[.bool false] 4)).heap.size = w.heap.size + 1 + 1 := by simp
  generalize (w.alloc (.cells #[.int .i64 base] 3)).alloc (.cells #[.bool false] 4) = W2 at *
  have hb4 : Below w.heap.size w ((W2.alloc (.cells #[.pointer (some ⟨X, 0, none⟩)] 29)).alloc (.cells #[.int .i64 no.1] 3)) := (hb2.alloc hb2.size _).alloc (by have := hb2.size; simp; omega) _
  have bw := (Boxed.new W2 29 (.pointer (some ⟨X, 0, none⟩))).alloc (.cells #[.int .i64 no.1] 3)
  have bo := Boxed.new (W2.alloc (.cells #[.pointer (some ⟨X, 0, none⟩)] 29)) 3 (.int .i64 no.1)
  rw [World.size_alloc, hs2] at bo
  rw [hs2] at bw
  have c0 := (b0.alloc (.cells #[.pointer (some ⟨X, 0, none⟩)] 29)).alloc (.cells #[.int .i64 no.1] 3)
  have c1 := (b1.alloc (.cells #[.pointer (some ⟨X, 0, none⟩)] 29)).alloc (.cells #[.int .i64 no.1] 3)
  have hW4 := (hW2.alloc (.cells #[.pointer (some ⟨X, 0, none⟩)] 29)).alloc (.cells #[.int .i64 no.1] 3)
  generalize hW4e : (W2.alloc (.cells #[.pointer (some ⟨X, 0, none⟩)] 29)).alloc (.cells #[.int .i64 no.1] 3) = W4 at *
  have hsz4 : w.heap.size + 1 + 1 + 1 + 1 = W4.heap.size := by rw [← hW4e, World.size_alloc, World.size_alloc, hs2]
  clear b0 b1 hW2 hW4e hb2
  refine wpIn_rangeFunc_ownG rfl (by omega) (gf := 111) (lb := #[.pointer (some ⟨w.heap.size + 1 + 1 + 1, 0, none⟩), .pointer (some ⟨w.heap.size + 1 + 1, 0, none⟩)]) rfl trivial (enters_of Tryz.func111 (by kernel_rfl) rfl)
    (way_stops HR.out _ (by omega) (w.heap.size + 1 + 1 + 1) (w.heap.size + 1 + 1) no hnl _ bo bw hW4) (fun h k => Still.trans h k) (fun W l o o' _ h1 h2 h3 => Still.loop W l o o' h1 h2 h3) (Below.refl _ _) (fun _ => rfl)
    (fun pre W => base ∉ nums pre ∧ Boxed W w.heap.size 3 (.int .i64 base) ∧ Boxed W (w.heap.size + 1) 4 (.bool false) ∧ Below w.heap.size w W)
    (fun c pre W => (c = .ret ∧ base ∈ nums pre) ∧ Boxed W (w.heap.size + 1) 4 (.bool true) ∧ Below w.heap.size w W)
    (OwnFrom.and (ownFrom_pure _ _) (OwnFrom.and (Own.from (boxed_own _ _ (fun _ => .int .i64 base)) _) (OwnFrom.and (Own.from (boxed_own _ _ (fun _ => .bool false)) _) (ownFrom_below (Nat.le_refl _) (by omega)))))
    (fun c => OwnFrom.and (ownFrom_pure _ _) (OwnFrom.and (Own.from (boxed_own _ _ (fun _ => .bool true)) _) (ownFrom_below (Nat.le_refl _) (by omega))))
    ⟨by simp [nums], c0, c1, hb4⟩
    ?a1 ?assign ?body ?done ?stop
  case assign =>
    intro l x W K hK
    gi_wp2
    exact hK
  case body =>
    rintro l pre x W ⟨hin, d0, d1, hB⟩ hN
    have hc0 := d0.cell
    have hc1 := d1.cell
    have hf1 := d1.frozen
    clear c0 c1 hb4 bo bw hW4
    by_cases hx : x.1 = base
    · have HI : Hid (base ∈ nums (pre ++ [x])) := Lib.hid (by rw [nums_snoc, hx]; simp)
      have hx' : (x.1 == base) = true := by simpa using hx
      have D1 := Lib.hid d1
      clear hin hx d0 d1
      gi_wp2
      exact ⟨(KeepsOthers.setCell _ _ _).from _, ⟨rfl, HI.out⟩, D1.out.set _, hB.setCell (p := ⟨w.heap.size + 1, 0, none⟩) (Nat.le_succ _) _⟩
    · have HI : Hid (base ∉ nums (pre ++ [x])) := Lib.hid (by rw [nums_snoc]; simp; exact ⟨hin, Ne.symm hx⟩)
      have hx' : (x.1 == base) = false := by simpa using hx
      have D0 := Lib.hid d0; have D1 := Lib.hid d1
      clear hin hx d0 d1
      gi_wp2
      exact ⟨(KeepsOthers.refl _).from _, Still.of_below (Below.refl _ _), HI.out, D0.out, D1.out, hB⟩
  case done =>
    rintro Dd ys W hD hys ⟨hin, d0, d1, hB⟩ hK
    have hc1 := d1.cell
    have hf1 := d1.frozen
    have HF : Hid (decide (base ∈ way st no.1) = false) := Lib.hid (by rw [← hys]; exact decide_eq_false hin)
    clear c0 c1 hb4 bo bw hW4 hin hys
    gi_wp2
    have hK2 := (Below.heap_setCell W ⟨w.heap.size + 1, 0, none⟩ (.bool false) Dd (show Dd ≠ w.heap.size + 1 by omega)).trans hK
    refine ⟨by simp, .inl ⟨_, _, rfl, run_takeDeferred hK2, ?_⟩⟩
    have e1 := ((d1.set (.bool false)).kept (grownBy_putObj' _ Dd (.deferred none)) (by intro e; cases e; omega)).cell
    refine ⟨_, by simp [results, Tryz.results97, go_sem, e1]; rfl, ?_, ?_⟩
    · rw [HF.out]
    · exact (hB.setCell (p := ⟨w.heap.size + 1, 0, none⟩) (Nat.le_succ _) _).trans (belowK_b (n₀ := w.heap.size) (w := w) (Nat.le_refl _) _ Dd _ _ (by omega) hK2 rfl rfl)
  case stop =>
    rintro Dd c pre W hD hSp ⟨⟨rfl, hin⟩, d1, hB⟩ hK
    have hc1 := d1.cell
    have HF : Hid (decide (base ∈ way st no.1) = true) := Lib.hid (decide_eq_true (hSp.subset hin))
    clear c0 c1 hb4 bo bw hW4 hSp hin
    gi_wp2
    refine ⟨by simp, .inl ⟨_, _, rfl, run_takeDeferred hK, ?_⟩⟩
    have e1 := (d1.kept (grownBy_putObj' _ Dd (.deferred none)) (by intro e; cases e; omega)).cell
    refine ⟨_, by simp [results, Tryz.results97, go_sem, e1]; rfl, ?_, ?_⟩
    · rw [HF.out]
    · exact hB.trans (belowK_b (n₀ := w.heap.size) (w := w) (Nat.le_refl _) W Dd _ _ (by omega) hK rfl rfl)
end
end Go.Proofs.YtenopnfclbegbaaGreat.G
