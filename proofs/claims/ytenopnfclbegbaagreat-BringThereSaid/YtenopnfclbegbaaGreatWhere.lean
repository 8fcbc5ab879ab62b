/-
  Rows of texts: reversed, joined; Where's mathematics.
-/
import Derived.Test.YtenopnfclbegbaaGreatWays
import Derived.Test.YtenopnfclbegbaaGreatShelfb
import Derived.Sort.OwnSorted
import Derived.RangeFuncBox
import Derived.Sort.CutIn
namespace Go.Proofs.YtenopnfclbegbaaGreat.G
open Go.RowKit Go.Shelf

def str (p : List UInt8) : Value := .string ⟨p.toArray⟩
theorem info9 : (Tryz.prog.info? 9).map (fun i => (i.zero, i.size, i.bytes)) = some (some (.string ⟨#[]⟩), 1, 16) := by kernel_rfl
theorem cell_one_new (w : World) (a : Value) (t : TypeId) : ∀ j u, [a][j]? = some u → (w.alloc (.cells #[a] t)).cell? ((⟨w.heap.size, 0, none⟩ : Addr).add j) = some u := by
  intro j u h
  rw [T.add_at, Nat.zero_add, World.cell?_alloc_new]
  match j, h with
  | 0, h => cases h; rfl
  | j + 1, h => simp at h
theorem add_ll (l m : List UInt8) (h : l.length + m.length ≤ 1000000000000) (w : World) : (Op.stringOp .add ⟨l.toArray⟩ ⟨m.toArray⟩).run Tryz.prog w = .ok (.string ⟨(l ++ m).toArray⟩) w := by
  rw [run_string_add_sum w _ _ (by rw [size_list, size_list]; omega), ByteArray.mk_append_mk]
/-- the slice v holds these texts, in memory of the call's own -/
def Texts (B : Nat) (v : Value) (ps : List (List UInt8)) (w : World) : Prop := w.ownsRow B 9 1 v ps.length (ps.map str)
section
variable {B : Nat} {v : Value} {ps : List (List UInt8)} {w w' : World}
theorem Texts.nil (B : Nat) (w : World) : Texts B (.slice none 0 0) [] w := World.ownsRow_nil _ _ _ _
theorem Texts.snoc {p : List UInt8} (h : w.ownsRow B 9 1 v (ps.length + 1) (ps.map str ++ [str p])) : Texts B v (ps ++ [p]) w := by
  unfold Texts; simpa using h
theorem Texts.below (h : Texts B v ps w) (hb : Below w.heap.size w w') : Texts B v ps w' :=
  h.kept (row := none) ⟨hb.os, hb.tape, hb.output, hb.size, fun j hj _ => hb.block j hj⟩ (by cases hv : v.ownBlock <;> simp)
theorem Texts.forms (h : Texts B v ps w) : (v = .slice none 0 0 ∧ ps = []) ∨ ∃ g cap cur, v = .slice (some ⟨g, 0, none⟩) ps.length cap ∧ B ≤ g ∧ w.heap[g]? = some (.cells cur 9 (0, 0)) ∧ ps.length ≤ cap ∧ cap ≤ maxLen ∧ cur.size = cap * 1 ∧ cur.toList.take ps.length = ps.map str := by
  rcases h.2 with ⟨h1, h2⟩ | ⟨g, cap, cur, h1, h2, h3, h4, h5, h6, h7⟩
  · exact .inl ⟨h1, List.eq_nil_of_length_eq_zero h2⟩
  · exact .inr ⟨g, cap, cur, h1, h2, h3, h4, h5, h6, by rw [Nat.mul_one] at h7; exact h7⟩
theorem Texts.cell {g cap n : Nat} (h : Texts B (.slice (some ⟨g, 0, none⟩) n cap) ps w) (k : Nat) (p : List UInt8) (hk : ps[k]? = some p) : w.cell? ⟨g, k, none⟩ = some (.string ⟨p.toArray⟩) := by
  have hlt : k < ps.length := (List.getElem?_eq_some_iff.1 hk).1
  have hn : n = ps.length := by
    rcases h.2 with ⟨h', _⟩ | ⟨g', cap', cur, h', _⟩
    · simp at h'
    · simp only [Value.slice.injEq] at h'; exact h'.2.1
  subst hn
  rw [World.ownsRow.cellAt h k (by omega), List.getElem?_map, hk]; rfl
theorem Texts.block (h : Texts B v ps w) {g : Nat} (hg : v.ownBlock = some g) : B ≤ g ∧ ∃ cur, w.heap[g]? = some (.cells cur 9 (0, 0)) := by
  rcases h.forms with ⟨rfl, _⟩ | ⟨g', cap, cur, rfl, h1, h2, _⟩
  · cases hg
  · cases hg; exact ⟨h1, cur, h2⟩
theorem reverse_texts (h : Texts B v ps w) : Calls Tryz.prog 93 #[v] w fun e w' => e = .returned (.tuple #[]) ∧ Texts B v ps.reverse w' ∧ w.grownBy w' v.ownBlock := by
  rcases h.forms with ⟨rfl, rfl⟩ | ⟨g, cap, cur, rfl, h1, h2, h3, h4, h5, h6⟩
  · refine (Tryz.slices_Reverse_string_empty none 0 w).mono ?_
    rintro e w' ⟨rfl, rfl⟩
    exact ⟨rfl, h, ⟨rfl, rfl, rfl, Nat.le_refl _, fun _ _ _ => rfl⟩⟩
  · have hH : Go.Sort.Holds Go.Proofs.encStr w g 0 ps.toArray := holds_of_block h2 h6
    refine (Tryz.slices_Reverse_string g 0 cap ps w hH (by unfold maxLen at h4; omega)).mono ?_
    rintro e w' ⟨rfl, n, rfl⟩
    have h7 := ownsRow_sorted (n := n) (os := #[]) (ss := ps) (ts := ps.reverse) (by simp) h1 h2 h3 h4 h5
    have h8 := grownBy_sorted (w := w) (g := g) (n := n) (os := #[]) ps.reverse.toArray
    rw [Go.Sort.grow_empty] at h7 h8
    refine ⟨rfl, ?_, h8⟩
    unfold Texts
    rw [List.length_reverse]
    exact h7
theorem map_mk (ps : List (List UInt8)) : (ps.map (fun p => (⟨p.toArray⟩ : ByteArray))).map (·.data.toList) = ps := by
  rw [List.map_map]
  conv => rhs; rw [← List.map_id ps]
  rfl
def jn (ps : List (List UInt8)) : List UInt8 := Lib.join ps [47]
theorem join_texts (h : Texts B v ps w) (hn : ps.length ≤ 1000000) (hl : (jn ps).length ≤ 1000000000) :
    Calls Tryz.prog 94 #[v, .string ⟨#[47]⟩] w fun e w' => e = .returned (.string ⟨(jn ps).toArray⟩) ∧ Below w.heap.size w w' := by
  rcases h.forms with ⟨rfl, rfl⟩ | ⟨g, cap, cur, rfl, h1, h2, h3, h4, h5, h6⟩
  · refine (Tryz.strings_Join_none none 0 ⟨#[47]⟩ w).mono fun e w' ⟨he, hw⟩ => ?_
    subst hw
    exact ⟨he, Below.refl _ _⟩
  · have hj := Tryz.strings_Join g 0 cap (ps.map (fun p => (⟨p.toArray⟩ : ByteArray))) ⟨#[47]⟩ w (by
      intro j x hx
      rw [List.getElem?_map] at hx
      cases hp : ps[j]? with
      | none => rw [hp] at hx; cases hx
      | some p =>
        rw [hp] at hx
        obtain rfl : (⟨p.toArray⟩ : ByteArray) = x := Option.some.inj hx
        rw [Nat.zero_add]
        exact h.cell j p hp) (Array.getElem?_eq_some_iff.1 h2).1 (by rw [List.length_map]; omega) (by rw [List.length_map]; exact h3) (by rw [map_mk]; exact Nat.le_trans hl (by decide))
    rw [List.length_map, map_mk] at hj
    exact hj
end
theorem joinTail_len (r : List (List UInt8)) (h : ∀ p ∈ r, p.length ≤ 255) : (Lib.joinTail [47] r).length ≤ r.length * 256 := by
  induction r with
  | nil => exact Nat.le_refl _
  | cons x r ih =>
    have h1 := ih fun p hp => h p (List.mem_cons_of_mem _ hp)
    have h2 := h x (List.mem_cons_self ..)
    unfold Lib.joinTail at h1 ⊢
    rw [List.map_cons, List.flatten_cons, List.length_append, List.length_append]
    show 1 + x.length + _ ≤ (r.length + 1) * 256
    omega
theorem jn_len (ps : List (List UInt8)) (h : ∀ p ∈ ps, p.length ≤ 255) : (jn ps).length ≤ ps.length * 256 := by
  unfold jn
  cases ps with
  | nil => rw [Lib.join_nil]; exact Nat.le_refl _
  | cons x r =>
    rw [Lib.join_cons, List.length_append, List.length_cons]
    have := joinTail_len r fun p hp => h p (List.mem_cons_of_mem _ hp)
    have := h x (List.mem_cons_self ..)
    omega

/-- the path along a way -/
def whereL (st : St) : List Int → List (List UInt8) → Option (List UInt8)
  | [], _ => none
  | x :: r, acc => if x = 1 then some (47 :: jn acc.reverse) else match called st x with | none => none | some s => whereL st r (acc ++ [s])
def where_ (st : St) (no : Int) : Option (List UInt8) := if isDir st.n no = true then whereL st (way st no) [] else none
/-- names that were gathered -/
def Gathered (st : St) (q : List Int) (acc : List (List UInt8)) : Prop := q.map (called st) = acc.map some ∧ (1 : Int) ∉ q
theorem gathered_nil (st : St) : Gathered st [] [] := ⟨rfl, by simp⟩
theorem Gathered.snoc {st : St} {q : List Int} {acc : List (List UInt8)} {x : Int} {s : List UInt8} (h : Gathered st q acc) (hx : x ≠ 1) (hs : called st x = some s) : Gathered st (q ++ [x]) (acc ++ [s]) :=
  ⟨by rw [List.map_append, List.map_append, h.1]; simp [hs], by simp; exact ⟨h.2, Ne.symm hx⟩⟩
theorem Gathered.go {st : St} : ∀ {q : List Int} {acc : List (List UInt8)}, Gathered st q acc → ∀ (r : List Int) (a0 : List (List UInt8)), whereL st (q ++ r) a0 = whereL st r (a0 ++ acc)
  | [], acc, h, r, a0 => by
    have : acc = [] := by have := h.1; simpa using this.symm
    subst this
    simp
  | x :: q, [], h, r, a0 => by have := h.1; simp at this
  | x :: q, s :: acc, h, r, a0 => by
    obtain ⟨h1, h2⟩ := h
    simp only [List.map_cons, List.cons.injEq] at h1
    have hx : x ≠ 1 := fun e => h2 (by rw [e]; exact List.mem_cons_self ..)
    have hq : Gathered st q acc := ⟨h1.2, fun e => h2 (List.mem_cons_of_mem _ e)⟩
    rw [List.cons_append, whereL, if_neg hx, h1.1]
    show whereL st (q ++ r) (a0 ++ [s]) = _
    rw [hq.go r (a0 ++ [s]), List.append_assoc]; rfl
theorem Gathered.len {st : St} {q : List Int} {acc : List (List UInt8)} (h : Gathered st q acc) : acc.length = q.length := by have := congrArg List.length h.1; simpa using this.symm
theorem Gathered.mem {st : St} {q : List Int} {acc : List (List UInt8)} (h : Gathered st q acc) {s : List UInt8} (hs : s ∈ acc) : ∃ x, called st x = some s := by
  have : some s ∈ q.map (called st) := by rw [h.1]; exact List.mem_map.2 ⟨s, hs, rfl⟩
  obtain ⟨x, _, hx⟩ := List.mem_map.1 this
  exact ⟨x, hx⟩
/-- how the gathering ends: at the top, or where a name lacks -/
def StopIs (st : St) (l : List Int) (s : List UInt8) (b : Bool) : Prop := ∃ q x acc, l = q ++ [x] ∧ Gathered st q acc ∧ ((x = 1 ∧ s = 47 :: jn acc.reverse ∧ b = true) ∨ (x ≠ 1 ∧ called st x = none ∧ s = [] ∧ b = false))
theorem StopIs.where {st : St} {l : List Int} {s : List UInt8} {b : Bool} (h : StopIs st l s b) {no : Int} (hp : l <+: way st no) (hd : isDir st.n no = true) : (where_ st no).getD [] = s ∧ (where_ st no).isSome = b := by
  obtain ⟨q, x, acc, rfl, hg, hx⟩ := h
  obtain ⟨r, hr⟩ := hp
  unfold where_
  rw [if_pos hd, ← hr, List.append_assoc, hg.go, List.nil_append]
  show (whereL st (x :: r) acc).getD [] = s ∧ (whereL st (x :: r) acc).isSome = b
  rw [whereL]
  rcases hx with ⟨h1, h2, h3⟩ | ⟨h1, h2, h3, h4⟩
  · rw [if_pos h1, h2, h3]; exact ⟨rfl, rfl⟩
  · rw [if_neg h1, h2, h3, h4]; exact ⟨rfl, rfl⟩
theorem Gathered.where {st : St} {no : Int} {acc : List (List UInt8)} (h : Gathered st (way st no) acc) : where_ st no = none := by
  unfold where_
  split
  · have := h.go [] []
    rw [List.append_nil] at this
    rw [this]; rfl
  · rfl
theorem called_len {st : St} (h : Inv st) {x : Int} {s : List UInt8} (hs : called st x = some s) : 1 ≤ s.length ∧ s.length ≤ 255 := by
  unfold called at hs
  split at hs
  · unfold E.nameOf at hs
    cases hf : (gets st.n (above st x)).es.find? fun e => decide (e.no = under st.d x) with
    | none => rw [hf] at hs; cases hs
    | some e =>
      rw [hf] at hs
      obtain rfl : e.name = s := Option.some.inj hs
      have hm := List.mem_of_find?_eq_some hf
      cases hg : get st.n (above st x) with
      | none => rw [gets_none hg] at hm; cases hm
      | some y => rw [gets_some hg] at hm; exact h.names y (get_some hg).1 e hm
  · cases hs
end Go.Proofs.YtenopnfclbegbaaGreat.G
/-
  Where.
-/
namespace Go.Proofs.YtenopnfclbegbaaGreat.G
open Go.RowKit Go.Shelf Go.Maps
attribute [local go_sem] Oper.semAt_some

section
variable {B X A M : Nat} {mv : Value} {st : St} {w : World}
theorem wd_own {β : Type} {Bx : Nat} (hlt : ∀ k, wS X A M mv k → k < Bx) : OwnFrom Bx (fun (_ : β) W => Wd B X A M mv st W) := fun _ W W' row h hg hr => by
  refine h.stays (fun k hk => hg.block k (h.lt hk) fun e => ?_) fun g cur hgc => (hg.block g (Array.getElem?_eq_some_iff.1 hgc).1 fun e => ?_).trans hgc
  · have h1 := (hr k e.symm).1
    have h2 := hlt k hk
    omega
  · obtain ⟨_, o, ho, hn⟩ := hr g e.symm
    rw [hgc] at ho
    cases ho
    cases hn
theorem stop_own {β : Type} (b4 b5 : Nat) (p : β → List UInt8 → Bool → Prop) : Own (fun (s : β) W => ∃ t b, p s t b ∧ Boxed W b4 9 (.string ⟨t.toArray⟩) ∧ Boxed W b5 4 (.bool b)) := fun _ X' Y row hs hg hrow => by
  obtain ⟨t, b, hp, h1, h2⟩ := hs
  have h : ∀ {k : Nat} {ty : TypeId} {v : Value}, Boxed X' k ty v → Boxed Y k ty v := fun {k ty v} hb => hb.kept hg fun e' => by
    obtain ⟨o, ho, hc⟩ := hrow k e'.symm
    rw [show X'.heap[k]? = _ from hb] at ho
    cases ho
    cases hc
  exact ⟨t, b, hp, h h1, h h2⟩
/-- the names along a way -/
def accOf (st : St) (l : List Int) : List (List UInt8) := l.filterMap (called st)
theorem accOf_snoc {st : St} {l : List Int} {x : Int} {s : List UInt8} (h : called st x = some s) : accOf st (l ++ [x]) = accOf st l ++ [s] := by
  unfold accOf; rw [List.filterMap_append]; simp [h]
theorem KeepsOthers.of_below {W W' : World} (h : Below W.heap.size W W') : KeepsOthers W W' := ⟨h.size, fun k _ hk _ => (h.block k (Array.getElem?_eq_some_iff.1 hk).1).trans hk⟩
theorem KeepsOthers.of_texts {B : Nat} {v : Value} {ps : List (List UInt8)} {W W' : World} (h : Texts B v ps W) (hg : W.grownBy W' v.ownBlock) : KeepsOthers W W' :=
  KeepsOthers.of_grownBy hg fun j _ ej hj => by
    obtain ⟨_, cur, hc⟩ := h.block ej
    rw [hc] at hj
    cases hj
    rfl
theorem Still.of_row {B n : Nat} {v : Value} {xs : List Value} {W W' : World} (h : W.ownsRow B 9 1 v n xs) (hg : W.grownBy W' v.ownBlock) : Still W W' := by
  have hb : ∀ g, v.ownBlock = some g → ∃ cur, W.heap[g]? = some (.cells cur 9 (0, 0)) := fun g hv => by
    rcases h.2 with ⟨rfl, _⟩ | ⟨g', cap, cur, rfl, _, h3, _⟩
    · cases hv
    · cases hv; exact ⟨cur, h3⟩
  refine ⟨hg.os, hg.tape, hg.output, hg.size, fun k x t mk h0 h1 _ _ => ?_, fun k o h0 h1 => ?_⟩
  · refine (hg.block k (Array.getElem?_eq_some_iff.1 h0).1 fun e => ?_).trans h0
    obtain ⟨cur, hc⟩ := hb k e.symm
    rw [h0] at hc
    cases hc
    exact h1 rfl
  · refine (hg.block k (Array.getElem?_eq_some_iff.1 h0).1 fun e => ?_).trans h0
    obtain ⟨cur, hc⟩ := hb k e.symm
    rw [h0] at hc
    cases hc
    cases h1
theorem Below.of_texts {B : Nat} {v : Value} {ps : List (List UInt8)} {W W' : World} (h : Texts B v ps W) (hg : W.grownBy W' v.ownBlock) (hB : B ≤ W.heap.size) : Below B W W' :=
  ⟨hg.os, hg.tape, hg.output, hg.size, fun k hk => hg.block k (by omega) fun e => by
    have := (h.block e.symm).1
    omega⟩
theorem where_none {st : St} {no : Int} (h : isDir st.n no = false) : where_ st no = none := by unfold where_; rw [if_neg (by rw [h]; simp)]
set_option maxRecDepth 100000 in
set_option maxHeartbeats 8000000 in
theorem Where_any (h : Wd B X A M mv st w) (hI : Inv st) (hr : Ranged st) (no : Wn) (hnl : st.n.length < 100000) :
    Calls Tryz.prog 63 #[.pointer (some ⟨X, 0, none⟩), .int .i64 no.1] w fun e w' => e = .returned (.tuple #[.string ⟨((where_ st no.1).getD []).toArray⟩, .bool (where_ st no.1).isSome]) ∧ Below w.heap.size w w' := by
  obtain ⟨i0, hi, hz0, hz1, hz2⟩ := E.info_parts info9
  refine (callsIn_wide (n := 5)).1 ?_
  have hb3 : Below w.heap.size w (((w.alloc (.cells #[.pointer (some ⟨X, 0, none⟩)] 29)).alloc (.cells #[.string ⟨#[]⟩] 9)).alloc (.cells #[.bool false] 4)) := (((Below.refl _ w).alloc (Nat.le_refl _) _).alloc (by simp) _).alloc (by simp; omega) _
  have b2 := ((Boxed.new w 29 (.pointer (some ⟨X, 0, none⟩))).alloc (.cells #[.string ⟨#[]⟩] 9)).alloc (.cells #[.bool false] 4)
  have b4 := (Boxed.new (w.alloc (.cells #[.pointer (some ⟨X, 0, none⟩)] 29)) 9 (.string ⟨#[]⟩)).alloc (.cells #[.bool false] 4)
  have b5 := Boxed.new ((w.alloc (.cells #[.pointer (some ⟨X, 0, none⟩)] 29)).alloc (.cells #[.string ⟨#[]⟩] 9)) 4 (.bool false)
  rw [World.size_alloc] at b4
  rw [World.size_alloc, World.size_alloc] at b5
  have hW3 := h.below hb3
  have HI := Lib.hid hI
  have HR := Lib.hid hr
  have cd := fun W (hb : Below w.heap.size w W) => directory_any (h.below hb) no.1 (T.wf_of no.2.1 no.2.2)
  clear h hr hI
  refine callsIn_of_wp_marks Tryz.func63 rfl trivial ?_ rfl
  simp only [Tryz.ntmps63, List.size_toArray, List.length_cons, List.length_nil, Nat.reduceAdd, Nat.reduceSub, Array.replicate_succ, Array.replicate_zero, List.push_toArray, List.append_toArray, List.nil_append, List.cons_append]
  gi_upto_region 1 with fail
  have hs3 : (((w.alloc (.cells #[.pointer (some ⟨X, 0, none⟩)] 29)).alloc (.cells #[.string ⟨#[]⟩] 9)).alloc (.cells #[.bool false] 4)).heap.size = w.heap.size + 1 + 1 + 1 := by simp
  generalize ((w.alloc (.cells #[.pointer (some ⟨X, 0, none⟩)] 29)).alloc (.cells #[.string ⟨#[]⟩] 9)).alloc (.cells #[.bool false] 4) = W3 at *
  have c2 := b2.cell
  have cd3 := cd W3 hb3
  clear cd
  have hdir : ∀ b, isDir st.n no.1 = b → isDir st.n no.1 = b := fun _ e => e
  cases hD : isDir st.n no.1 with
  | false =>
    rw [hD] at cd3
    have HW := Lib.hid (where_none hD)
    clear hD hdir
    generalize gets st.n no.1 = nd at *
    obtain ⟨dno, ddev, dkind, dmode, duid, dgid, dmt, dct, dlinks, dup, ddata, des⟩ := nd
    dsimp only [T.Nd.v] at cd3
    gi_upto_region 2 with (refine ⟨trivial, ?_⟩; gi_at_call 91; refine (callsIn_wide.2 cd3).mono ?_; rintro e w4 ⟨u, rfl, hO, hb4⟩; obtain ⟨ou, cu, rfl⟩ := T.own_slice hO)
    have hb5 : Below w.heap.size w (w4.alloc (.cells #[.int .i64 dno, .int .i64 ddev, .int .i64 dkind, .int .i64 dmode, .int .i64 duid, .int .i64 dgid, .int .i64 dmt, .int .i64 dct, .int .i64 dlinks, .int .i64 dup, .string ddata, .slice ou des.length cu] 48)) := (hb3.trans (hb4.mono hb3.size)).alloc (by have := hb3.size; have := hb4.size; omega) _
    have hb35 : Below W3.heap.size W3 (w4.alloc (.cells #[.int .i64 dno, .int .i64 ddev, .int .i64 dkind, .int .i64 dmode, .int .i64 duid, .int .i64 dgid, .int .i64 dmt, .int .i64 dct, .int .i64 dlinks, .int .i64 dup, .string ddata, .slice ou des.length cu] 48)) := hb4.alloc hb4.size _
    have st35 := Still.of_below hb35
    have d4 : Boxed _ (w.heap.size + 1) 9 (.string ⟨#[]⟩) := (hb35.block _ b4.lt).trans b4
    have d5 : Boxed _ (w.heap.size + 1 + 1) 4 (.bool false) := (hb35.block _ b5.lt).trans b5
    have d2 : Boxed _ w.heap.size 29 (.pointer (some ⟨X, 0, none⟩)) := (hb35.block _ b2.lt).trans b2
    have hs5 : (w4.alloc (.cells #[.int .i64 dno, .int .i64 ddev, .int .i64 dkind, .int .i64 dmode, .int .i64 duid, .int .i64 dgid, .int .i64 dmt, .int .i64 dct, .int .i64 dlinks, .int .i64 dup, .string ddata, .slice ou des.length cu] 48)).heap.size = w4.heap.size + 1 := by simp
    have hs4 : w.heap.size + 1 + 1 + 1 ≤ w4.heap.size := by have := hb4.size; omega
    have hW5 := hW3.below hb35
    clear st35 hb35 hb4 hO cd3 b2 b4 b5 c2 hW3 hb3
    generalize w4.alloc (.cells #[.int .i64 dno, .int .i64 ddev, .int .i64 dkind, .int .i64 dmode, .int .i64 duid, .int .i64 dgid, .int .i64 dmt, .int .i64 dct, .int .i64 dlinks, .int .i64 dup, .string ddata, .slice ou des.length cu] 48) = W5 at *
    generalize w4.heap.size = b6 at *
    have h4 := d4.cell
    have h4f := d4.frozen
    have e5 := d5.other (show w.heap.size + 1 + 1 ≠ w.heap.size + 1 by omega) (.string ⟨#[]⟩)
    have h5 := e5.cell
    have h5f := e5.frozen
    gi_wp2
    have h4s := ((d4.set (.string ⟨#[]⟩)).other (show w.heap.size + 1 ≠ w.heap.size + 1 + 1 by omega) (.bool false)).cell
    have h5s := (e5.set (.bool false)).cell
    refine ⟨_, by simp [results, Tryz.results63, go_sem, h4s, h5s]; rfl, ?_, ?_⟩
    · rw [HW.out]; rfl
    · exact (hb5.setCell (p := ⟨w.heap.size + 1, 0, none⟩) (Nat.le_succ _) _).setCell (p := ⟨w.heap.size + 1 + 1, 0, none⟩) (by show w.heap.size ≤ w.heap.size + 1 + 1; omega) _
  | true =>
    rw [hD] at cd3
    have HDD := Lib.hid hD
    clear hD hdir
    generalize gets st.n no.1 = nd at *
    obtain ⟨dno, ddev, dkind, dmode, duid, dgid, dmt, dct, dlinks, dup, ddata, des⟩ := nd
    dsimp only [T.Nd.v] at cd3
    gi_upto_region 2 with (refine ⟨trivial, ?_⟩; gi_at_call 91; refine (callsIn_wide.2 cd3).mono ?_; rintro e w4 ⟨u, rfl, hO, hb4⟩; obtain ⟨ou, cu, rfl⟩ := T.own_slice hO)
    have hb5 : Below w.heap.size w (w4.alloc (.cells #[.int .i64 dno, .int .i64 ddev, .int .i64 dkind, .int .i64 dmode, .int .i64 duid, .int .i64 dgid, .int .i64 dmt, .int .i64 dct, .int .i64 dlinks, .int .i64 dup, .string ddata, .slice ou des.length cu] 48)) := (hb3.trans (hb4.mono hb3.size)).alloc (by have := hb3.size; have := hb4.size; omega) _
    have hb35 : Below W3.heap.size W3 (w4.alloc (.cells #[.int .i64 dno, .int .i64 ddev, .int .i64 dkind, .int .i64 dmode, .int .i64 duid, .int .i64 dgid, .int .i64 dmt, .int .i64 dct, .int .i64 dlinks, .int .i64 dup, .string ddata, .slice ou des.length cu] 48)) := hb4.alloc hb4.size _
    have st35 := Still.of_below hb35
    have d4 : Boxed _ (w.heap.size + 1) 9 (.string ⟨#[]⟩) := (hb35.block _ b4.lt).trans b4
    have d5 : Boxed _ (w.heap.size + 1 + 1) 4 (.bool false) := (hb35.block _ b5.lt).trans b5
    have d2 : Boxed _ w.heap.size 29 (.pointer (some ⟨X, 0, none⟩)) := (hb35.block _ b2.lt).trans b2
    have hs5 : (w4.alloc (.cells #[.int .i64 dno, .int .i64 ddev, .int .i64 dkind, .int .i64 dmode, .int .i64 duid, .int .i64 dgid, .int .i64 dmt, .int .i64 dct, .int .i64 dlinks, .int .i64 dup, .string ddata, .slice ou des.length cu] 48)).heap.size = w4.heap.size + 1 := by simp
    have hs4 : w.heap.size + 1 + 1 + 1 ≤ w4.heap.size := by have := hb4.size; omega
    have hW5 := hW3.below hb35
    clear st35 hb35 hb4 hO cd3 b2 b4 b5 c2 hW3 hb3
    generalize w4.alloc (.cells #[.int .i64 dno, .int .i64 ddev, .int .i64 dkind, .int .i64 dmode, .int .i64 duid, .int .i64 dgid, .int .i64 dmt, .int .i64 dct, .int .i64 dlinks, .int .i64 dup, .string ddata, .slice ou des.length cu] 48) = W5 at *
    generalize w4.heap.size = b6 at *
    obtain ⟨b8, hb8⟩ : ∃ b, W5.heap.size = b := ⟨_, rfl⟩
    have hw8 : w.heap.size + 1 + 1 + 1 ≤ b8 := by omega
    clear hs5 hs4
    have c2 := d2.cell
    gi_upto_region 5 with fail
    have f8 := Boxed.new W5 137 (.slice none 0 0)
    have f2 := d2.alloc (.cells #[.slice none 0 0] 137)
    have f4 := d4.alloc (.cells #[.slice none 0 0] 137)
    have f5 := d5.alloc (.cells #[.slice none 0 0] 137)
    have hW6 := hW5.alloc (.cells #[.slice none 0 0] 137)
    have hb6 := hb5.alloc hb5.size (.cells #[.slice none 0 0] 137)
    have hs6 : (W5.alloc (.cells #[.slice none 0 0] 137)).heap.size = b8 + 1 := by simp [hb8]
    rw [hb8] at f8
    clear d2 d4 d5 hW5 hb5 c2
    generalize W5.alloc (.cells #[.slice none 0 0] 137) = W6 at *
    have c2 := f2.cell
    gi_upto_region 6 with (refine ⟨trivial, ?_⟩; gi_at_call 92; refine (way_in _ _ _ _).mono ?_; rintro e w' ⟨rfl, rfl⟩)
    have bw := (Boxed.new W6 29 (.pointer (some ⟨X, 0, none⟩))).alloc (.cells #[.int .i64 no.1] 3)
    have bo := Boxed.new (W6.alloc (.cells #[.pointer (some ⟨X, 0, none⟩)] 29)) 3 (.int .i64 no.1)
    rw [World.size_alloc, hs6] at bo
    rw [hs6] at bw
    have g8 := (f8.alloc (.cells #[.pointer (some ⟨X, 0, none⟩)] 29)).alloc (.cells #[.int .i64 no.1] 3)
    have g2 := (f2.alloc (.cells #[.pointer (some ⟨X, 0, none⟩)] 29)).alloc (.cells #[.int .i64 no.1] 3)
    have g4 := (f4.alloc (.cells #[.pointer (some ⟨X, 0, none⟩)] 29)).alloc (.cells #[.int .i64 no.1] 3)
    have g5 := (f5.alloc (.cells #[.pointer (some ⟨X, 0, none⟩)] 29)).alloc (.cells #[.int .i64 no.1] 3)
    have hW8 := (hW6.alloc (.cells #[.pointer (some ⟨X, 0, none⟩)] 29)).alloc (.cells #[.int .i64 no.1] 3)
    have hb9 : Below w.heap.size w ((W6.alloc (.cells #[.pointer (some ⟨X, 0, none⟩)] 29)).alloc (.cells #[.int .i64 no.1] 3)) := (hb6.alloc hb6.size _).alloc (by have := hb6.size; simp; omega) _
    have hs8 : ((W6.alloc (.cells #[.pointer (some ⟨X, 0, none⟩)] 29)).alloc (.cells #[.int .i64 no.1] 3)).heap.size = b8 + 1 + 1 + 1 := by rw [World.size_alloc, World.size_alloc, hs6]
    clear f8 f2 f4 f5 hW6 hb6 hs6 c2
    generalize (W6.alloc (.cells #[.pointer (some ⟨X, 0, none⟩)] 29)).alloc (.cells #[.int .i64 no.1] 3) = W8 at *
    have hlt := fun k (hk : wS X A M mv k) => hW8.lt hk
    refine wpIn_rangeFunc_ownG rfl (by omega) (gf := 111) (lb := #[.pointer (some ⟨b8 + 1 + 1, 0, none⟩), .pointer (some ⟨b8 + 1, 0, none⟩)]) rfl trivial (enters_of Tryz.func111 (by kernel_rfl) rfl)
      (way_stops HR.out _ (by omega) (b8 + 1 + 1) (b8 + 1) no hnl _ bo bw hW8) (fun h k => Still.trans h k) (fun W l o o' _ h1 h2 h3 => Still.loop W l o o' h1 h2 h3) (Below.refl _ _) (fun _ => rfl)
      (fun pre W => (∃ v, Boxed W b8 137 v ∧ W.ownsRow b8 9 1 v pre.length ((accOf st (nums pre)).map str) ∧ True) ∧ Gathered st (nums pre) (accOf st (nums pre)) ∧ Boxed W w.heap.size 29 (.pointer (some ⟨X, 0, none⟩)) ∧
        Boxed W (w.heap.size + 1) 9 (.string ⟨#[]⟩) ∧ Boxed W (w.heap.size + 1 + 1) 4 (.bool false) ∧ Wd B X A M mv st W ∧ Below w.heap.size w W)
      (fun c pre W => (∃ s b, (c = .ret ∧ StopIs st (nums pre) s b) ∧ Boxed W (w.heap.size + 1) 9 (.string ⟨s.toArray⟩) ∧ Boxed W (w.heap.size + 1 + 1) 4 (.bool b)) ∧ Below w.heap.size w W)
      (OwnFrom.and (Own.from (holdsRow_own b8 b8 137 9 1 (fun pre : List Wn => pre.length) (fun pre => (accOf st (nums pre)).map str) (fun _ _ => True)) _) (OwnFrom.and (ownFrom_pure _ _) (OwnFrom.and (Own.from (boxed_own _ _ (fun _ => .pointer (some ⟨X, 0, none⟩))) _) (OwnFrom.and (Own.from (boxed_own _ _ (fun _ => .string ⟨#[]⟩)) _)
        (OwnFrom.and (Own.from (boxed_own _ _ (fun _ => .bool false)) _) (OwnFrom.and (wd_own hlt) (ownFrom_below (Nat.le_refl _) (by omega))))))))
      (fun c => OwnFrom.and (Own.from (stop_own (w.heap.size + 1) (w.heap.size + 1 + 1) (fun (pre : List Wn) s b => c = .ret ∧ StopIs st (nums pre) s b)) _) (ownFrom_below (Nat.le_refl _) (by omega)))
      ⟨⟨_, g8, World.ownsRow_nil _ _ _ _, trivial⟩, gathered_nil st, g2, g4, g5, hW8, hb9⟩
      ?a1 ?assign ?body ?done ?stop
    case assign =>
      intro l x W K hK
      gi_wp2
      exact hK
    case body =>
      rintro l pre x W ⟨⟨v, hv, hrow, -⟩, hga, h2, h4, h5, hW, hB⟩ hN
      have hc8 := hv.cell
      have hc2 := h2.cell
      have hc4 := h4.cell
      have hf4 := h4.frozen
      have hc5 := h5.cell
      have hf5 := h5.frozen
      clear g8 g2 g4 g5 hW8 hb9 bo bw hlt
      have hlt8 : b8 < W.heap.size := hv.lt
      have hglen := hga.len
      have hnp : (nums pre).length = pre.length := by simp [nums]
      have hT : Texts b8 v (accOf st (nums pre)) W := by unfold Texts; rw [hglen, hnp]; exact hrow
      have hnm : ∀ p ∈ accOf st (nums pre), p.length ≤ 255 := fun p hp => by
        obtain ⟨y, hy⟩ := hga.mem hp
        exact (called_len HI.out hy).2
      have hcld := fun X' (hb : Below W.heap.size W X') => called_any (hW.below hb) x.1 (T.wf_of x.2.1 x.2.2) (T.wf_of (HR.out.under x.2).1 (HR.out.under x.2).2) (T.wf_of (HR.out.above x.1).1 (HR.out.above x.1).2) (by
        cases e : get st.n (above st x.1) with
        | none => rw [gets_none e]; decide
        | some y => rw [gets_some e]; exact HI.out.few y (get_some e).1)
      have hcl0 := hcld W (Below.refl _ _)
      clear hcld
      by_cases hx : x.1 = 1
      · have hx' : (x.1 == 1) = true := by simpa using hx
        have hSI : StopIs st (nums (pre ++ [x])) (47 :: jn (accOf st (nums pre)).reverse) true := ⟨_, _, _, nums_snoc _ _, hga, .inl ⟨hx, rfl, rfl⟩⟩
        have HSI := Lib.hid hSI
        have hjl := jn_len (accOf st (nums pre)).reverse fun p hp => hnm p (List.mem_reverse.1 hp)
        rw [List.length_reverse, hglen, hnp] at hjl
        have hal : (accOf st (nums pre)).reverse.length ≤ 1000000 := by rw [List.length_reverse, hglen, hnp]; omega
        clear hSI hnm hcl0 hx hglen
        generalize accOf st (nums pre) = acc at *
        have cr := reverse_texts hT
        have cj := fun W' (hT' : Texts b8 v acc.reverse W') => join_texts hT' hal (by omega)
        generalize jn acc.reverse = path at *
        have ha := add_ll [47] path (by show 1 + path.length ≤ _; omega)
        have HT := Lib.hid hT
        have H4 := Lib.hid h4; have H5 := Lib.hid h5; have HV := Lib.hid hv; have HRW := Lib.hid hrow
        clear hT h4 h5 hv hrow hga hc4 hf4 hc5 hf5
        gi_wp2_with (first
          | (refine ⟨trivial, ?_⟩; gi_at_call 93; refine ((callsIn_wide.2 cr).inRound l).mono ?_; rintro e w1 ⟨rfl, hT1, hg1⟩; have hv1 := HV.out.kept hg1 (HV.out.not_row (by decide) HRW.out); have hc81 := hv1.cell; have cj1 := cj w1 hT1)
          | (refine ⟨trivial, ?_⟩; gi_at_call 94; refine ((callsIn_wide.2 cj1).inRound l).mono ?_; rintro e w2 ⟨rfl, hb2⟩; have k4 : Boxed w2 (w.heap.size + 1) 9 (.string ⟨#[]⟩) := (hb2.block _ (Nat.lt_of_lt_of_le H4.out.lt hg1.size)).trans (H4.out.kept hg1 (by intro e; have := (HT.out.block e.symm).1; omega)); have k5 : Boxed w2 (w.heap.size + 1 + 1) 4 (.bool false) := (hb2.block _ (Nat.lt_of_lt_of_le H5.out.lt hg1.size)).trans (H5.out.kept hg1 (by intro e; have := (HT.out.block e.symm).1; omega)); have k5' := k5.other (show w.heap.size + 1 + 1 ≠ w.heap.size + 1 by omega) (.string ⟨(47 :: path).toArray⟩); have kc4 := k4.cell; have kf4 := k4.frozen; have kc5 := k5'.cell; have kf5 := k5'.frozen))
        have e1 : Below w.heap.size w w1 := hB.trans ((Below.of_texts HT.out hg1 (by omega)).mono (by omega))
        have e2 := e1.trans (hb2.mono e1.size)
        exact ⟨((((KeepsOthers.of_texts HT.out hg1).trans (KeepsOthers.of_below hb2)).trans (KeepsOthers.setCell _ _ _)).trans (KeepsOthers.setCell _ _ _)).from _, ⟨47 :: path, true, ⟨rfl, HSI.out⟩, (k4.set _).other (by omega) _, k5'.set _⟩,
          (e2.setCell (p := ⟨w.heap.size + 1, 0, none⟩) (Nat.le_succ _) _).setCell (p := ⟨w.heap.size + 1 + 1, 0, none⟩) (by show w.heap.size ≤ w.heap.size + 1 + 1; omega) _⟩
      · have hx' : (x.1 == 1) = false := by simpa using hx
        cases hcl : called st x.1 with
        | none =>
          rw [hcl] at hcl0
          have hSI : StopIs st (nums (pre ++ [x])) [] false := ⟨_, _, _, nums_snoc _ _, hga, .inr ⟨hx, hcl, rfl, rfl⟩⟩
          have HSI := Lib.hid hSI
          clear hSI hcl hx hga hT hnm hglen
          have H4 := Lib.hid h4; have H5 := Lib.hid h5
          clear h4 h5 hc4 hf4 hc5 hf5
          gi_wp2_with (refine ⟨trivial, ?_⟩; gi_at_call 95; refine ((callsIn_wide.2 hcl0).inRound l).mono ?_; rintro e w2 ⟨rfl, hb2⟩; have k4 : Boxed w2 (w.heap.size + 1) 9 (.string ⟨#[]⟩) := (hb2.block _ H4.out.lt).trans H4.out; have k5 : Boxed w2 (w.heap.size + 1 + 1) 4 (.bool false) := (hb2.block _ H5.out.lt).trans H5.out; have k5' := k5.other (show w.heap.size + 1 + 1 ≠ w.heap.size + 1 by omega) (.string ⟨#[]⟩); have kc4 := k4.cell; have kf4 := k4.frozen; have kc5 := k5'.cell; have kf5 := k5'.frozen)
          have e2 := hB.trans (hb2.mono hB.size)
          exact ⟨(((KeepsOthers.of_below hb2).trans (KeepsOthers.setCell _ _ _)).trans (KeepsOthers.setCell _ _ _)).from _, ⟨[], false, ⟨rfl, HSI.out⟩, (k4.set _).other (by omega) _, k5'.set _⟩,
            (e2.setCell (p := ⟨w.heap.size + 1, 0, none⟩) (Nat.le_succ _) _).setCell (p := ⟨w.heap.size + 1 + 1, 0, none⟩) (by show w.heap.size ≤ w.heap.size + 1 + 1; omega) _⟩
        | some s =>
          rw [hcl] at hcl0
          have HG := Lib.hid (hga.snoc hx hcl)
          have HAC := Lib.hid (accOf_snoc (l := nums pre) hcl)
          clear hcl hx hnm hglen hT
          have H4 := Lib.hid h4; have H5 := Lib.hid h5; have H2 := Lib.hid h2; have HV := Lib.hid hv; have HRW := Lib.hid hrow; have HWD := Lib.hid hW
          clear h4 h5 hc4 hf4 hc5 hf5 h2 hv hrow hW hga hc8
          gi_wp2_with (first
            | (refine ⟨trivial, ?_⟩; gi_at_call 95; refine ((callsIn_wide.2 hcl0).inRound l).mono ?_; rintro e w2 ⟨rfl, hb2⟩; have k8 : Boxed w2 b8 137 v := (hb2.block _ HV.out.lt).trans HV.out; have kr := HRW.out.kept (row := none) (⟨hb2.os, hb2.tape, hb2.output, hb2.size, fun j hj _ => hb2.block j hj⟩ : W.grownBy w2 none) (by cases hv : v.ownBlock <;> simp); have kc8 := k8.cell)
            | (gi_at_builtin; refine wpListIn_append_own _ rfl _ _ 137 rfl b8 9 i0 (.string ⟨#[]⟩) 1 16 Tryz.underlying137 hi hz0 hz1 hz2 rfl (by decide) _ _ _ rfl (kr.alloc _) ⟨w2.heap.size, 0, none⟩ 1 1 [str s] rfl rfl (cell_one_new _ _ _) (by simp [Value.oneCell', str]) (by unfold maxLen; omega) (by omega) (by have := hb2.size; simp; omega) ?_; intro v' w3 hown' hgrow _; obtain ⟨g', cap', rfl⟩ := ownsRow_succ hown'; obtain ⟨hv1, hv2, hr2, hk2, hbb2⟩ := k8.appended (by decide) kr (by have := hb2.size; omega) (Nat.le_refl _) hown' hgrow; have kc81 := hv1.cell; have kf81 := hv1.frozen))
          have hal : Below w2.heap.size w2 (w2.alloc (.cells #[str s] 9)) := (Below.refl _ _).alloc (Nat.le_refl _) _
          have hst := (((Still.of_below hb2).trans (Still.of_below hal)).trans (Still.of_row (kr.alloc _) hgrow)).trans (Still.set w3 hv1 (.inr (.inl rfl)) 0 (.slice (some ⟨g', 0, none⟩) (pre.length + 1) cap'))
          have hrb : ∀ g, v.ownBlock = some g → b8 ≤ g := fun g hg => (kr.lt g hg).1
          have e2 := hB.trans (hb2.mono hB.size)
          have keep : ∀ {k : Nat} {ty : TypeId} {u : Value}, k < b8 → Boxed W k ty u → Boxed (w3.setCell ⟨b8, 0, none⟩ (.slice (some ⟨g', 0, none⟩) (pre.length + 1) cap')) k ty u := fun {k ty u} hk hbx => by
            have x1 : Boxed w2 k ty u := (hb2.block _ hbx.lt).trans hbx
            exact ((x1.alloc _).kept hgrow (by intro e; have := hrb _ e.symm; omega)).other (by omega) _
          refine ⟨((KeepsOthers.of_below hb2).trans hk2).from _, hst, ⟨_, hv2, ?_, trivial⟩, ?_, keep (by omega) H2.out, keep (by omega) H4.out, keep (by omega) H5.out, HWD.out.still hst, e2.trans (hbb2.mono (by omega))⟩
          · rw [nums_snoc, HAC.out, List.map_append, List.length_append]
            exact hr2
          · rw [nums_snoc, HAC.out]
            exact HG.out
    case done =>
      rintro Dd ys W hD' hys ⟨-, hga, h2, h4, h5, hW, hB⟩ hK
      have hc4 := h4.cell
      have hf4 := h4.frozen
      have h5' := h5.other (show w.heap.size + 1 + 1 ≠ w.heap.size + 1 by omega) (.string ⟨#[]⟩)
      have hc5 := h5'.cell
      have hf5 := h5'.frozen
      rw [hys] at hga
      have HF := Lib.hid (Gathered.where hga)
      clear g8 g2 g4 g5 hW8 hb9 bo bw hlt hga hys
      rw [hs8] at hD'
      gi_wp2
      have hK2 := (Below.heap_setCell (W.setCell ⟨w.heap.size + 1, 0, none⟩ (.string ⟨#[]⟩)) ⟨w.heap.size + 1 + 1, 0, none⟩ (.bool false) Dd (show Dd ≠ w.heap.size + 1 + 1 by omega)).trans ((Below.heap_setCell W ⟨w.heap.size + 1, 0, none⟩ (.string ⟨#[]⟩) Dd (show Dd ≠ w.heap.size + 1 by omega)).trans hK)
      refine ⟨by simp, .inl ⟨_, _, rfl, run_takeDeferred hK2, ?_⟩⟩
      have e4 := (((h4.set (.string ⟨#[]⟩)).other (show w.heap.size + 1 ≠ w.heap.size + 1 + 1 by omega) (.bool false)).kept (grownBy_putObj' _ Dd (.deferred none)) (by intro e; cases e; omega)).cell
      have e5 := ((h5'.set (.bool false)).kept (grownBy_putObj' _ Dd (.deferred none)) (by intro e; cases e; omega)).cell
      refine ⟨_, by simp [results, Tryz.results63, go_sem, e4, e5]; rfl, ?_, ?_⟩
      · rw [HF.out]; rfl
      · exact ((hB.setCell (p := ⟨w.heap.size + 1, 0, none⟩) (Nat.le_succ _) _).setCell (p := ⟨w.heap.size + 1 + 1, 0, none⟩) (by show w.heap.size ≤ w.heap.size + 1 + 1; omega) _).trans (belowK_b (n₀ := w.heap.size) (w := w) (Nat.le_refl _) _ Dd _ _ (by omega) hK2 rfl rfl)
    case stop =>
      rintro Dd c pre W hD' hSp ⟨⟨s, b, ⟨rfl, hSI⟩, h4, h5⟩, hB⟩ hK
      have hc4 := h4.cell
      have hc5 := h5.cell
      obtain ⟨hf1, hf2⟩ := hSI.where hSp HDD.out
      have HF1 := Lib.hid hf1
      have HF2 := Lib.hid hf2
      clear g8 g2 g4 g5 hW8 hb9 bo bw hlt hSp hSI hf1 hf2
      rw [hs8] at hD'
      gi_wp2
      refine ⟨by simp, .inl ⟨_, _, rfl, run_takeDeferred hK, ?_⟩⟩
      have e4 := (h4.kept (grownBy_putObj' _ Dd (.deferred none)) (by intro e; cases e; omega)).cell
      have e5 := (h5.kept (grownBy_putObj' _ Dd (.deferred none)) (by intro e; cases e; omega)).cell
      refine ⟨_, by simp [results, Tryz.results63, go_sem, e4, e5]; rfl, ?_, ?_⟩
      · rw [HF1.out, HF2.out]
      · exact hB.trans (belowK_b (n₀ := w.heap.size) (w := w) (Nat.le_refl _) W Dd _ _ (by omega) hK rfl rfl)
end
end Go.Proofs.YtenopnfclbegbaaGreat.G
/-
  Busy.
-/
namespace Go.Proofs.YtenopnfclbegbaaGreat.G
open Go.RowKit Go.Shelf
attribute [local go_sem] Oper.semAt_some

def busyAt (st : St) (no : Int) (m : Mt) : Bool := decide (m.cov ≠ m.root) && decide (no ∈ way st m.cov)
def busy (st : St) (no : Int) : Bool := st.d.any (busyAt st no)
section
variable {B X A M : Nat} {mv : Value} {st : St} {w : World}
set_option maxRecDepth 100000 in
set_option maxHeartbeats 4000000 in
theorem Busy_any (h : Wd B X A M mv st w) (hr : Ranged st) (no : Int) (hnl : st.n.length < 100000) : Calls Tryz.prog 70 #[.pointer (some ⟨X, 0, none⟩), .int .i64 no] w fun e w' => e = .returned (.bool (busy st no)) ∧ Below w.heap.size w w' := by
  have c1 := parts_any h
  have hl := h.len
  have HW := Lib.hid h
  have HR := Lib.hid hr
  have cw := fun W (hb : Below w.heap.size w W) (x : Wn) => Within_any (h.below hb) hr x no hnl
  have hz : busy st no = st.d.any (busyAt st no) := rfl
  have HZ := Lib.hid hz
  obtain ⟨oa, cap, rfl⟩ := h.rows.slice
  clear h hr hz
  generalize busy st no = z at *
  go_enter Tryz.func70, Tryz.ntmps70
  go_wp2_with (refine c1.mono ?_; rintro e w1 ⟨rfl, rfl⟩)
  clear c1
  go_loopw [10] (fun i wr => ∃ k : Nat, k ≤ st.d.length ∧ i = .int .i64 k ∧ (∀ y ∈ st.d.take k, busyAt st no y = false) ∧ Below w.heap.size w wr) (fun i _ => st.d.length - (RowKit.intOf i).toNat)
  case atStart => exact ⟨0, Nat.zero_le _, rfl, fun y hy => by simp at hy, Below.refl _ _⟩
  case round =>
    obtain ⟨k, hk, rfl, hno, hb⟩ := hrel
    have HB := Lib.hid hno
    clear hno
    by_cases hlt : k < st.d.length
    · obtain ⟨x, hx⟩ : ∃ x, st.d[k]? = some x := ⟨_, List.getElem?_eq_getElem hlt⟩
      obtain ⟨g, cap', he, hat⟩ := HW.out.rows.at hx
      cases he
      have hat' := hat.below hb
      obtain ⟨c0, c1, c2, c3, c4, c5⟩ := hat'
      have hstep : Hid (busyAt st no x = false → ∀ y ∈ st.d.take (k + 1), busyAt st no y = false) := Lib.hid fun e y hy => by
        rw [List.take_add_one, hx] at hy
        rcases List.mem_append.1 hy with hy | hy
        · exact HB.out y hy
        · simp at hy; subst hy; exact e
      have hlast : Hid (busyAt st no x = true → z = true) := Lib.hid fun e => by
        rw [HZ.out]; exact List.any_eq_true.2 ⟨x, List.mem_of_getElem? hx, e⟩
      have hbx : busyAt st no x = (decide (x.cov ≠ x.root) && decide (no ∈ way st x.cov)) := rfl
      have hcv := HR.out.covs x (List.mem_of_getElem? hx)
      have hb2 : Below w.heap.size w (wr.alloc (.cells #[.int .i64 x.root, .int .i64 x.cov, .int .i64 x.q.b, .int .i64 x.q.n, .int .i64 x.q.mb, .int .i64 x.q.mn] 126)) := hb.alloc hb.size _
      have cw1 := cw _ hb2 ⟨x.cov, hcv⟩
      have HBX := Lib.hid hbx
      have HB2 := Lib.hid hb2
      dsimp only at cw1
      clear hx hat cw hbx hb2
      generalize busyAt st no x = bx at *
      by_cases hn : x.cov = x.root
      · have HS := Lib.hid (hstep.out (by rw [HBX.out]; simp [hn]))
        clear hstep hlast cw1 HBX
        obtain ⟨xr, xc, xq⟩ := x
        dsimp only at hn
        subst hn
        dsimp only at *
        go_wp2
        go_roundw
        case rel => exact ⟨k + 1, by omega, by go_num, HS.out, HB2.out⟩
        case measure => simp [RowKit.intOf]; omega
      · have hn' : (x.cov == x.root) = false := by simpa using hn
        by_cases hw : no ∈ way st x.cov
        · rw [decide_eq_true hw] at cw1
          obtain rfl := hlast.out (by rw [HBX.out]; simp [hn, hw])
          clear hstep hlast hw
          go_wp2_with (go_at_call 97; refine cw1.mono ?_; rintro e w3 ⟨rfl, hb3⟩)
          go_ret
          exact ⟨rfl, HB2.out.trans (hb3.mono HB2.out.size)⟩
        · rw [decide_eq_false hw] at cw1
          have HS := Lib.hid (hstep.out (by rw [HBX.out]; simp [hw]))
          clear hstep hlast hw
          go_wp2_with (go_at_call 97; refine cw1.mono ?_; rintro e w3 ⟨rfl, hb3⟩)
          go_roundw
          case rel => exact ⟨k + 1, by omega, by go_num, HS.out, HB2.out.trans (hb3.mono HB2.out.size)⟩
          case measure => simp [RowKit.intOf]; omega
    · have hz : z = false := by
        rw [HZ.out]
        refine List.any_eq_false.2 fun y hy => ?_
        rw [HB.out y (by rw [List.take_of_length_le (by omega)]; exact hy)]
        simp
      have HZ2 := Lib.hid hz
      clear hz
      go_wp2
      go_ret
      exact ⟨by rw [HZ2.out]; rfl, hb⟩
end
end Go.Proofs.YtenopnfclbegbaaGreat.G
