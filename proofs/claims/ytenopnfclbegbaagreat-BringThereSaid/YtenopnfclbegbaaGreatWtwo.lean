/-
  A mount's space written; take.
-/
import Derived.Test.YtenopnfclbegbaaGreatWone
namespace Go.Proofs.YtenopnfclbegbaaGreat.G
open Go.RowKit Go.Shelf
attribute [local go_sem] Oper.semAt_some

theorem flat_setq : ∀ (ds : List Mt) (i : Nat) (m : Mt) (q : U.Sp), ds[i]? = some m →
    flat (ds.set i { m with q := q }) = ((((flat ds).set (i * 6 + 2) (.int .i64 q.b)).set (i * 6 + 3) (.int .i64 q.n)).set (i * 6 + 4) (.int .i64 q.mb)).set (i * 6 + 5) (.int .i64 q.mn)
  | [], i, m, q, h => by simp at h
  | y :: ls, 0, m, q, h => by
    simp at h; subst h
    simp [flat, Mt.cs]
  | y :: ls, i + 1, m, q, h => by
    have h' : ls[i]? = some m := by simpa using h
    have e := flat_setq ls i m q h'
    simp only [flat, List.set_cons_succ, List.flatMap_cons] at e ⊢
    rw [e]
    have c : ∀ (l : List Value) (j : Nat) (v : Value), (y.cs ++ l).set ((i + 1) * 6 + j) v = y.cs ++ l.set (i * 6 + j) v := fun l j v => by
      rw [List.set_append_right _ _ (by rw [cs_len]; omega), cs_len, show (i + 1) * 6 + j - 6 = i * 6 + j by omega]
    rw [c, c, c, c]
theorem flat_setr : ∀ (ds : List Mt) (i : Nat) (m : Mt) (r : Int), ds[i]? = some m → flat (ds.set i { m with root := r }) = (flat ds).set (i * 6) (.int .i64 r)
  | [], i, m, q, h => by simp at h
  | y :: ls, 0, m, q, h => by
    simp at h; subst h
    simp [flat, Mt.cs]
  | y :: ls, i + 1, m, r, h => by
    have h' : ls[i]? = some m := by simpa using h
    have e := flat_setr ls i m r h'
    simp only [flat, List.set_cons_succ, List.flatMap_cons] at e ⊢
    rw [e, List.set_append_right _ _ (by rw [cs_len]; omega), cs_len, show (i + 1) * 6 - 6 = i * 6 by omega]

/-- a space written at a place -/
def putq (w : World) (g o : Nat) (q : U.Sp) : World := (((w.setCell ⟨g, o + 2, none⟩ (.int .i64 q.b)).setCell ⟨g, o + 3, none⟩ (.int .i64 q.n)).setCell ⟨g, o + 4, none⟩ (.int .i64 q.mb)).setCell ⟨g, o + 5, none⟩ (.int .i64 q.mn)
theorem grown_trans {a b c : World} {r : Option Nat} (h : a.grownBy b r) (k : b.grownBy c r) : a.grownBy c r :=
  ⟨k.os.trans h.os, k.tape.trans h.tape, k.output.trans h.output, Nat.le_trans h.size k.size, fun i hi hr => (k.block i (Nat.lt_of_lt_of_le hi h.size) hr).trans (h.block i hi hr)⟩
theorem Turn.of_grown {S : Nat → Prop} {w w' : World} {g : Nat} (h : w.grownBy w' (some g)) (hS : S g) : Turn S w w' :=
  ⟨h.os, h.tape, h.output, h.size, fun k hk hn => h.block k hk fun e => hn (by cases e; exact hS)⟩
theorem MRow.frozen {B : Nat} {t : TypeId} {g cap : Nat} {ds : List Mt} {w : World} (h : MRow B t (.slice (some ⟨g, 0, none⟩) ds.length cap) ds w) (j : Nat) : w.frozen? ⟨g, j, none⟩ = false := World.ownsRow.frozenAt h j
theorem MRow.putq {B : Nat} {t : TypeId} {g cap i : Nat} {ds : List Mt} {w : World} {m : Mt} (h : MRow B t (.slice (some ⟨g, 0, none⟩) ds.length cap) ds w) (hi : ds[i]? = some m) (q : U.Sp) :
    MRow B t (.slice (some ⟨g, 0, none⟩) ds.length cap) (ds.set i { m with q := q }) (putq w g (i * 6) q) ∧ w.grownBy (G.putq w g (i * 6) q) (some g) := by
  unfold MRow
  rw [flat_setq ds i m q hi, List.length_set]
  obtain ⟨h1, g1⟩ := World.ownsRow.stored h (i * 6 + 2) (.int .i64 q.b)
  obtain ⟨h2, g2⟩ := World.ownsRow.stored h1 (i * 6 + 3) (.int .i64 q.n)
  obtain ⟨h3, g3⟩ := World.ownsRow.stored h2 (i * 6 + 4) (.int .i64 q.mb)
  obtain ⟨h4, g4⟩ := World.ownsRow.stored h3 (i * 6 + 5) (.int .i64 q.mn)
  exact ⟨h4, grown_trans (grown_trans (grown_trans g1 g2) g3) g4⟩
theorem MRow.putr {B : Nat} {t : TypeId} {g cap i : Nat} {ds : List Mt} {w : World} {m : Mt} (h : MRow B t (.slice (some ⟨g, 0, none⟩) ds.length cap) ds w) (hi : ds[i]? = some m) (r : Int) :
    MRow B t (.slice (some ⟨g, 0, none⟩) ds.length cap) (ds.set i { m with root := r }) (w.setCell ⟨g, i * 6, none⟩ (.int .i64 r)) ∧ w.grownBy (w.setCell ⟨g, i * 6, none⟩ (.int .i64 r)) (some g) := by
  unfold MRow
  rw [flat_setr ds i m r hi, List.length_set]
  exact World.ownsRow.stored h (i * 6) (.int .i64 r)
theorem settle_some {d : List Mt} {k : Int} {m : Mt} (h : mt d k = some m) (q : U.Sp) : settle d k q = d.set (k - 1).toNat { m with q := q } := by unfold settle; rw [h]
theorem settle_none {d : List Mt} {k : Int} (h : mt d k = none) (q : U.Sp) : settle d k q = d := by unfold settle; rw [h]
section
variable {B X A M : Nat} {mv : Value} {st : St} {w w' : World}
/-- the world's mounts turn, the rest stays -/
theorem Wd.mounts (h : Wd B X A M mv st w) {d : List Mt} (hR : MRow B 126 mv d w') (hT : Turn (fun b => mv.ownBlock = some b) w w') : Wd B X A M mv ⟨st.last, st.n, d⟩ w' := by
  obtain ⟨l, h1, h2⟩ := h.tab
  have hn : ∀ k, (k = X ∨ k = A ∨ k = M) → w'.heap[k]? = w.heap[k]? := fun k hk => by
    refine hT.block k (h.lt (hk.imp id (Or.imp id .inl))) fun e => ?_
    obtain ⟨_, cur, hc⟩ := h.rows.block e
    rcases hk with rfl | rfl | rfl
    · exact ne_type h.head hc (by decide) rfl
    · exact ne_type h2.head hc (by decide) rfl
    · obtain ⟨es, clock, hm, _⟩ := h2.map
      exact ne_map hc hm rfl
  have hE : T.EntKept w w' := fun g cur hg => (hT.block g (Array.getElem?_eq_some_iff.1 hg).1 fun e => by
    obtain ⟨_, cur', hc⟩ := h.rows.block e
    exact ne_type hg hc (by decide) rfl).trans hg
  exact ⟨h.bx, (hn X (.inl rfl)).trans h.head, hR, l, h1, h2.stays (hn A (.inr (.inl rfl))) (hn M (.inr (.inr rfl))) hE⟩
theorem take_none (h : Wd B X A M mv st w) (k x y : Int) (hk : mt st.d k = none) : Calls Tryz.prog 82 #[.pointer (some ⟨X, 0, none⟩), .int .i64 k, .int .i64 x, .int .i64 y] w fun e w' => e = .returned (.int .i64 1) ∧ w = w' := by
  have c1 := part_none h k hk
  clear h
  go_enter Tryz.func82, Tryz.ntmps82
  go_wp2_with (refine c1.mono ?_; rintro e w1 ⟨rfl, rfl⟩)
  go_ret
  exact ⟨rfl, rfl⟩
set_option maxHeartbeats 4000000 in
theorem take_some (h : Wd B X A M mv st w) (k x y : Int) {m : Mt} (hk : mt st.d k = some m) : Calls Tryz.prog 82 #[.pointer (some ⟨X, 0, none⟩), .int .i64 k, .int .i64 x, .int .i64 y] w fun e w' =>
    e = .returned (.int .i64 (U.took m.q x y).2) ∧ Wd B X A M mv ⟨st.last, st.n, settle st.d k (U.took m.q x y).1⟩ w' ∧ Turn (fun b => mv.ownBlock = some b) w w' := by
  obtain ⟨k1, k2, k3⟩ := mt_some hk
  rw [settle_some hk]
  obtain ⟨i, hi⟩ : ∃ i, (k - 1).toNat = i := ⟨_, rfl⟩
  rw [hi] at k3 ⊢
  obtain ⟨g, cap, hg, hat⟩ := h.rows.at k3
  have c1 := part_some h k3 hg
  rw [show (i : Int) + 1 = k by omega] at c1
  have c2 := fun W => U.Take_any m.q x y W
  obtain ⟨_, _, a2, a3, a4, a5⟩ := hat
  have HW := Lib.hid h
  have HI := Lib.hid k3
  have HG := Lib.hid hg
  have hfr := fun j => MRow.frozen (hg ▸ h.rows : MRow B 126 (.slice (some ⟨g, 0, none⟩) st.d.length cap) st.d w) j
  have hlt : g < w.heap.size := World.block_lt_of_cell? _ _ a2
  clear h hk k1 k2 k3 hi hg
  generalize (U.took m.q x y).1 = q' at *
  generalize (U.took m.q x y).2 = er at *
  obtain ⟨r, cv, q⟩ := m
  obtain ⟨b1, b2, b3, b4⟩ := q
  dsimp only [U.Sp.v] at *
  go_enter Tryz.func82, Tryz.ntmps82
  go_upto_region 5 with (first | (go_at_call 78; refine c1.mono ?_; rintro e w1 ⟨rfl, rfl⟩) | (go_at_call 105; refine (c2 _).mono ?_; rintro e w2 ⟨rfl, hb2⟩))
  have hb3 : Below w.heap.size w (w2.alloc (.cells #[.int .i64 q'.b, .int .i64 q'.n, .int .i64 q'.mb, .int .i64 q'.mn] 110)) := hb2.alloc hb2.size _
  have e1 := U.Box4.new w2 q' 110
  have hlt2 : g < w2.heap.size := Nat.lt_of_lt_of_le hlt hb2.size
  generalize w2.alloc (.cells #[.int .i64 q'.b, .int .i64 q'.n, .int .i64 q'.mb, .int .i64 q'.mn] 110) = W at hb3 e1 ⊢
  generalize w2.heap.size = bb at *
  obtain ⟨e0, e1, e2, e3⟩ := e1
  have f2 := (hb3.frozen (p := ⟨g, i * 6 + 2, none⟩) hlt).trans (hfr _)
  have f3 := (hb3.frozen (p := ⟨g, i * 6 + 2 + 1, none⟩) hlt).trans (hfr _)
  have f4 := (hb3.frozen (p := ⟨g, i * 6 + 2 + 2, none⟩) hlt).trans (hfr _)
  have f5 := (hb3.frozen (p := ⟨g, i * 6 + 2 + 3, none⟩) hlt).trans (hfr _)
  have d2 := (hb3.cell (p := ⟨g, i * 6 + 2, none⟩) hlt).trans a2
  have d3 := (hb3.cell (p := ⟨g, i * 6 + 2 + 1, none⟩) hlt).trans a3
  have d4 := (hb3.cell (p := ⟨g, i * 6 + 2 + 2, none⟩) hlt).trans a4
  have d5 := (hb3.cell (p := ⟨g, i * 6 + 2 + 3, none⟩) hlt).trans a5
  go_wp2
  go_ret
  have hW := HW.out.below hb3
  obtain ⟨hR, hgr⟩ := MRow.putq (HG.out ▸ hW.rows) HI.out q'
  refine ⟨rfl, ?_, ?_⟩
  · exact hW.mounts (HG.out ▸ hR) (Turn.of_grown hgr (by rw [HG.out]; rfl))
  · exact Turn.ahead hb3 (Turn.of_grown hgr (by rw [HG.out]; rfl))
end
end Go.Proofs.YtenopnfclbegbaaGreat.G
/-
  The table beneath a world: Add, Set, Drop, Len, told of the world.
-/
namespace Go.Proofs.YtenopnfclbegbaaGreat.G
open Go.RowKit Go.Shelf
attribute [local go_sem] Oper.semAt_some

theorem fst_snoc (l : T.Row) (p : T.Nd × Value) : (l ++ [p]).map Prod.fst = l.map Prod.fst ++ [p.1] := by simp
theorem fst_strike (l : T.Row) (k : Int) : (T.strike l k).map Prod.fst = dropN (l.map Prod.fst) k := by
  unfold T.strike dropN
  rw [List.filter_map]; rfl
theorem fst_repl (l : T.Row) (x : T.Nd) (u : Value) : (T.repl l (x, u)).map Prod.fst = setN (l.map Prod.fst) x := by
  unfold T.repl setN
  rw [List.map_map, List.map_map]
  refine List.map_congr_left fun p _ => ?_
  show (if p.1.no = x.no then (x, u) else p).1 = if p.1.no = x.no then x else p.1
  split <;> rfl
theorem Turn.of_only {A M : Nat} {w w' : World} (h : T.Only A M w w') : Turn (fun k => k = A ∨ k = M) w w' :=
  ⟨h.os, h.tape, h.output, h.size, fun k hk hn => h.block k hk (fun e => hn (.inl e)) (fun e => hn (.inr e))⟩
section
variable {B X A M : Nat} {mv : Value} {st : St} {w w' : World}
theorem wS_tab {k : Nat} (h : k = A ∨ k = M) : wS X A M mv k := .inr (h.imp id .inl)
theorem wS_row {k : Nat} (h : mv.ownBlock = some k) : wS X A M mv k := .inr (.inr (.inr h))
/-- the table turns, the rest stays -/
theorem Wd.tabbed (h : Wd B X A M mv st w) {last : Int} {l : T.Row} (hT : T.Tab B A M last l w') (hO : T.Only A M w w') : Wd B X A M mv ⟨last, l.map Prod.fst, st.d⟩ w' := by
  obtain ⟨l0, h1, h2⟩ := h.tab
  refine ⟨h.bx, ?_, h.rows.same fun g hg => ?_, l, rfl, hT⟩
  · refine (hO.block X h.ltX (ne_type h.head h2.head (by decide)) ?_).trans h.head
    obtain ⟨es, clock, hm, _⟩ := h2.map
    exact ne_map h.head hm
  · obtain ⟨_, cur, hc⟩ := h.rows.block hg
    refine hO.block g (h.rows.lt hg) (ne_type hc h2.head (by decide)) ?_
    obtain ⟨es, clock, hm, _⟩ := h2.map
    exact ne_map hc hm
theorem box_turn {b : Nat} {n : T.Nd} {s : Value} {S : Nat → Prop} (D : T.BoxN b n s w) (h : Wd B X A M mv st w) (ht : Turn S w w') (hs : ∀ k, S k → wS X A M mv k) : T.BoxN b n s w' :=
  (ht.block b D.lt fun e => h.not D (by decide) (by decide) (by decide) (hs b e)).trans D
theorem Len_st (h : Wd B X A M mv st w) : Calls Tryz.prog 17 #[.pointer (some ⟨A, 0, none⟩)] w fun e w' => e = .returned (.int .i64 st.n.length) ∧ w = w' := by
  obtain ⟨l, h1, h2⟩ := h.tab
  have c := T.Len_any h2
  rw [show l.length = st.n.length by rw [← h1, List.length_map]] at c
  exact c
theorem Add_st (h : Wd B X A M mv st w) (n : T.Nd) (s : Value) (hS : E.Sees s n.es w) (hl : T.Fits n.es) (hlen : st.n.length < 1000000) (hlast : st.last < 1000000) :
    Calls Tryz.prog 84 #[.pointer (some ⟨A, 0, none⟩), n.v s] w fun e w' =>
    e = .returned (.int .i64 (st.last + 1)) ∧ Wd B X A M mv ⟨st.last + 1, st.n ++ [n.as (st.last + 1)], st.d⟩ w' ∧ Turn (fun k => k = A ∨ k = M) w w' := by
  obtain ⟨l, h1, h2⟩ := h.tab
  refine (T.Add_any h2 n s hS hl (by rw [← h1, List.length_map] at hlen; exact hlen) hlast).mono ?_
  rintro e w' ⟨rfl, hO, u, hT⟩
  have := h.tabbed hT hO
  rw [fst_snoc, h1] at this
  exact ⟨rfl, this, .of_only hO⟩
theorem setN_none {n : List T.Nd} {x : T.Nd} (h : (get n x.no).isSome = false) : setN n x = n := by
  unfold setN
  have := get_none (n := n) (k := x.no) (by simpa using h)
  conv => rhs; rw [← List.map_id n]
  refine List.map_congr_left fun p hp => ?_
  rw [if_neg (this p hp)]; rfl
theorem Set_st (h : Wd B X A M mv st w) (n : T.Nd) (s : Value) (hS : E.Sees s n.es w) (hl : T.Fits n.es) (hk : T.Wf n.no) (hlen : st.n.length < 1000000) :
    Calls Tryz.prog 38 #[.pointer (some ⟨A, 0, none⟩), n.v s] w fun e w' =>
    e = .returned (.bool (get st.n n.no).isSome) ∧ Wd B X A M mv ⟨st.last, setN st.n n, st.d⟩ w' ∧ Turn (fun k => k = A ∨ k = M) w w' := by
  obtain ⟨l, h1, h2⟩ := h.tab
  refine (T.Set_any h2 n s hS hl hk (by rw [← h1, List.length_map] at hlen; exact hlen)).mono ?_
  rintro e w' ⟨rfl, hO, hT⟩
  have hg : (T.look l n.no).isSome = (get st.n n.no).isSome := by rw [look_is, h1]
  refine ⟨by rw [hg], ?_, .of_only hO⟩
  rcases hT with ⟨hn, hT⟩ | ⟨hn, u, hT⟩
  · have := h.tabbed hT hO
    rw [h1] at this
    rw [setN_none (by rw [← hg]; exact hn)]
    exact this
  · have := h.tabbed hT hO
    rw [fst_repl, h1] at this
    exact this
end
end Go.Proofs.YtenopnfclbegbaaGreat.G
/-
  take at any mount; Make.
-/
namespace Go.Proofs.YtenopnfclbegbaaGreat.G
open Go.RowKit Go.Shelf
attribute [local go_sem] Oper.semAt_some

theorem terr_some {d : List Mt} {k x y : Int} {m : Mt} (h : mt d k = some m) : terr d k x y = (U.took m.q x y).2 := by unfold terr; rw [h]
theorem terr_none {d : List Mt} {k x y : Int} (h : mt d k = none) : terr d k x y = 1 := by unfold terr; rw [h]
theorem taken_some {d : List Mt} {k x y : Int} {m : Mt} (h : mt d k = some m) : taken d k x y = settle d k (U.took m.q x y).1 := by unfold taken; rw [h]
theorem taken_none {d : List Mt} {k x y : Int} (h : mt d k = none) : taken d k x y = d := by unfold taken; rw [h]
theorem useOf_some {d : List Mt} {k : Int} {m : Mt} (h : mt d k = some m) : useOf d k = m.q := by unfold useOf; rw [h]
theorem taken_err {d : List Mt} {k x y : Int} (h : terr d k x y ≠ 0) : taken d k x y = d := by
  cases hm : mt d k with
  | none => exact taken_none hm
  | some m =>
    rw [terr_some hm] at h
    rw [taken_some hm, U.took_err _ _ _ h, ← useOf_some hm, settle_same]
theorem and12 {a0 a1 a2 a3 a4 a5 a6 a7 a8 a9 a10 a11 z : Prop} (h : a0 ∧ a1 ∧ a2 ∧ a3 ∧ a4 ∧ a5 ∧ a6 ∧ a7 ∧ a8 ∧ a9 ∧ a10 ∧ a11) (hz : z) : a0 ∧ a1 ∧ a2 ∧ a3 ∧ a4 ∧ a5 ∧ a6 ∧ a7 ∧ a8 ∧ a9 ∧ a10 ∧ a11 ∧ z := by
  obtain ⟨h0, h1, h2, h3, h4, h5, h6, h7, h8, h9, h10, h11⟩ := h
  exact ⟨h0, h1, h2, h3, h4, h5, h6, h7, h8, h9, h10, h11, hz⟩
section
variable {B X A M : Nat} {mv : Value} {st : St} {w w' : World}
theorem Turn.row (h : Turn (fun b => mv.ownBlock = some b) w w') : Turn (wS X A M mv) w w' := h.mono fun _ e => wS_row e
theorem Turn.tab (h : Turn (fun k => k = A ∨ k = M) w w') : Turn (wS X A M mv) w w' := h.mono fun _ e => wS_tab e
theorem take_any (h : Wd B X A M mv st w) (k x y : Int) : Calls Tryz.prog 82 #[.pointer (some ⟨X, 0, none⟩), .int .i64 k, .int .i64 x, .int .i64 y] w fun e w' =>
    e = .returned (.int .i64 (terr st.d k x y)) ∧ Wd B X A M mv ⟨st.last, st.n, taken st.d k x y⟩ w' ∧ Turn (fun b => mv.ownBlock = some b) w w' := by
  cases hm : mt st.d k with
  | none =>
    rw [terr_none hm, taken_none hm]
    exact (take_none h k x y hm).mono (by rintro e w' ⟨rfl, rfl⟩; exact ⟨rfl, h, Turn.refl _⟩)
  | some m =>
    rw [terr_some hm, taken_some hm]
    exact take_some h k x y hm
theorem Wd.head1 (h : Wd B X A M mv st w) : w.cell? ⟨X, 0, none⟩ = some (.pointer (some ⟨A, 0, none⟩)) := h.facts.1
set_option maxRecDepth 100000 in
set_option maxHeartbeats 8000000 in
theorem Make_any (h : Wd B X A M mv st w) (n : T.Nd) (s : Value) (hS : ∀ W, E.Sees s n.es W) (hl : T.Fits n.es) (hd : n.data.size ≤ 2000000) (hlen : st.n.length < 1000000) (hlast : st.last < 1000000) :
    Calls Tryz.prog 48 #[.pointer (some ⟨X, 0, none⟩), n.v s] w fun e w' =>
    e = .returned (.tuple #[.int .i64 (make st n).2.1, .int .i64 (make st n).2.2]) ∧ Wd B X A M mv (make st n).1 w' ∧ Turn (wS X A M mv) w w' := by
  have hs : T.Slc s := by obtain ⟨oa, c, rfl, _⟩ := hS w; exact ⟨_, _, _, rfl⟩
  have cb := fun W => blocksOf_any n s hs hd W
  have hb1 : Below w.heap.size w (w.alloc (.cells #[.int .i64 n.no, .int .i64 n.dev, .int .i64 n.kind, .int .i64 n.mode, .int .i64 n.uid, .int .i64 n.gid, .int .i64 n.mt, .int .i64 n.ct, .int .i64 n.links, .int .i64 n.up, .string n.data, s] 48)) := (Below.refl _ _).alloc (Nat.le_refl _) _
  have D1 := T.BoxN.new n s w
  have H1 := h.below hb1
  have ct := fun W (hW : Wd B X A M mv st W) => take_any hW n.dev (blk n) 1
  have ca := fun W (hW : Wd B X A M mv ⟨st.last, st.n, taken st.d n.dev (blk n) 1⟩ W) => Add_st hW n s (hS W) hl hlen hlast
  have hne := fun (e : terr st.d n.dev (blk n) 1 ≠ 0) => taken_err e
  unfold make
  clear h hS hd hlen hlast hl
  generalize terr st.d n.dev (blk n) 1 = er at *
  generalize taken st.d n.dev (blk n) 1 = d2 at *
  generalize n.as (st.last + 1) = nn at *
  generalize blk n = z at *
  obtain ⟨last, ns, d⟩ := st
  obtain ⟨oa, m, c, rfl⟩ := hs
  obtain ⟨no, dev, kind, mode, uid, gid, mt, ct', links, up, data, es⟩ := n
  dsimp only [T.Nd.v] at *
  have HN := Lib.hid hne
  clear hne
  go_enter Tryz.func48, Tryz.ntmps48
  go_upto_region 1 with fail
  generalize w.alloc (.cells #[.int .i64 no, .int .i64 dev, .int .i64 kind, .int .i64 mode, .int .i64 uid, .int .i64 gid, .int .i64 mt, .int .i64 ct', .int .i64 links, .int .i64 up, .string data, .slice oa m c] 48) = W1 at D1 hb1 H1 ⊢
  have hdr : Below W1.heap.size W1 W1.drew := (Below.refl _ _).drew
  have D2 := D1.below hdr
  have H2 := H1.below hdr
  have hb2 := below_two hb1 hdr
  obtain ⟨b0, hbd⟩ : ∃ b, w.heap.size = b := ⟨_, rfl⟩
  rw [hbd] at D1 D2 hb1 hb2 ⊢
  have HB := Lib.hid hbd
  clear D1 hb1 H1 hdr hbd
  go_region_held3 (fun w' => w'.cell? ⟨b0, 0, none⟩ = some (.int .i64 no) ∧ w'.cell? ⟨b0, 1, none⟩ = some (.int .i64 dev) ∧ w'.cell? ⟨b0, 2, none⟩ = some (.int .i64 kind) ∧ w'.cell? ⟨b0, 3, none⟩ = some (.int .i64 mode) ∧
      w'.cell? ⟨b0, 4, none⟩ = some (.int .i64 uid) ∧ w'.cell? ⟨b0, 5, none⟩ = some (.int .i64 gid) ∧ w'.cell? ⟨b0, 6, none⟩ = some (.int .i64 mt) ∧ w'.cell? ⟨b0, 7, none⟩ = some (.int .i64 ct') ∧
      w'.cell? ⟨b0, 8, none⟩ = some (.int .i64 links) ∧ w'.cell? ⟨b0, 9, none⟩ = some (.int .i64 up) ∧ w'.cell? ⟨b0, 10, none⟩ = some (.string data) ∧ w'.cell? ⟨b0, 11, none⟩ = some (.slice oa m c))
    (with_reducible first | exact D4.facts | exact D3.facts | exact D2.facts)
    (first
      | (go_at_call 83; refine (cb _).mono ?_; rintro e w3 ⟨rfl, hb3⟩; have D3 := D2.below hb3; have H3 := H2.below hb3; have hb4 := hb2.trans (hb3.mono (Nat.le_of_lt D2.lt)))
      | (go_at_call 82; refine (ct _ H3).mono ?_; rintro e w4 ⟨rfl, H4, t4⟩; have D4 := box_turn D3 H3 t4.row (fun _ e => e)))
  have ht4 := (Turn.of_below (S := wS X A M mv) (w := w) (by rw [HB.out]; exact hb4)).trans t4.row
  clear D2 D3 H2 H3 hb2 hb3 hb4 cb ct t4
  by_cases he : er = 0
  · subst he
    have hdr : Below w4.heap.size w4 w4.drew := (Below.refl _ _).drew
    have D5 := D4.below hdr
    have H5 := H4.below hdr
    have ht5 := ht4.next hdr
    have x0 := H5.head1
    have ca5 := ca _ H5
    clear D4 H4 ht4 hdr ca
    go_upto_region 4 with fail
    go_region_held3 (fun w' => w'.cell? ⟨b0, 0, none⟩ = some (.int .i64 no) ∧ w'.cell? ⟨b0, 1, none⟩ = some (.int .i64 dev) ∧ w'.cell? ⟨b0, 2, none⟩ = some (.int .i64 kind) ∧ w'.cell? ⟨b0, 3, none⟩ = some (.int .i64 mode) ∧
        w'.cell? ⟨b0, 4, none⟩ = some (.int .i64 uid) ∧ w'.cell? ⟨b0, 5, none⟩ = some (.int .i64 gid) ∧ w'.cell? ⟨b0, 6, none⟩ = some (.int .i64 mt) ∧ w'.cell? ⟨b0, 7, none⟩ = some (.int .i64 ct') ∧
        w'.cell? ⟨b0, 8, none⟩ = some (.int .i64 links) ∧ w'.cell? ⟨b0, 9, none⟩ = some (.int .i64 up) ∧ w'.cell? ⟨b0, 10, none⟩ = some (.string data) ∧ w'.cell? ⟨b0, 11, none⟩ = some (.slice oa m c) ∧ w'.cell? ⟨X, 0, none⟩ = some (.pointer (some ⟨A, 0, none⟩)))
      (with_reducible first | exact and12 D6.facts H6.head1 | exact and12 D5.facts x0)
      (first | (go_at_call 84; refine ca5.mono ?_; rintro e w6 ⟨rfl, H6, t6⟩; have D6 := box_turn D5 H5 t6.tab (fun _ e => e)))
    go_wp2
    go_ret2
    exact ⟨rfl, H6, ht5.trans t6.tab⟩
  · go_wp2
    go_ret2
    obtain rfl := HN.out he
    exact ⟨rfl, H4, ht4⟩
end
end Go.Proofs.YtenopnfclbegbaaGreat.G
/-
  Kill.
-/
namespace Go.Proofs.YtenopnfclbegbaaGreat.G
open Go.RowKit Go.Shelf
attribute [local go_sem] Oper.semAt_some

theorem blk_range (n : T.Nd) (hd : n.data.size ≤ 2000000) : 0 ≤ blk n ∧ blk n ≤ 5000 := by
  unfold blk U.blk size
  have : (0 : Int) ≤ n.data.size := Int.natCast_nonneg _
  split
  · omega
  · split
    · split <;> omega
    · omega
theorem wrap_id {x : Int} (h0 : -9223372036854775808 ≤ x) (h1 : x ≤ 9223372036854775807) : IntKind.i64.wrap x = x := by
  simp [IntKind.wrap, IntKind.signed, IntKind.bits]; omega
section
variable {B X A M : Nat} {mv : Value} {st : St} {w w' : World}
end
end Go.Proofs.YtenopnfclbegbaaGreat.G
/-
  Fill.
-/
namespace Go.Proofs.YtenopnfclbegbaaGreat.G
open Go.RowKit Go.Shelf
attribute [local go_sem] Oper.semAt_some

theorem box_set10 {b : Nat} {n : T.Nd} {s : Value} {w : World} (h : T.BoxN b n s w) (x : ByteArray) : T.BoxN b { n with data := x } s (w.setCell ⟨b, 10, none⟩ (.string x)) := by
  unfold T.BoxN at *
  simp [World.setCell, Array.getElem?_modify, h]
theorem box_entKept {b : Nat} {n : T.Nd} {s : Value} {w : World} (h : T.BoxN b n s w) (i : Nat) (u : Value) : T.EntKept w (w.setCell ⟨b, i, none⟩ u) := T.entKept_set h (by decide) i u
section
variable {B X A M : Nat} {mv : Value} {st : St} {w w' : World}
theorem Wd.fits (h : Wd B X A M mv st w) (k : Int) : T.Fits (gets st.n k).es := by
  obtain ⟨l, h1, h2⟩ := h.tab
  have := (h2.found_own k).2
  rw [found_fst, h1] at this
  exact this
end
end Go.Proofs.YtenopnfclbegbaaGreat.G
