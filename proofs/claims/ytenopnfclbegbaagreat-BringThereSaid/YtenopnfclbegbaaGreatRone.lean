/-
  The reference's At and Get.
-/
import Derived.Test.YtenopnfclbegbaaGreatWthr
namespace Go.Proofs.YtenopnfclbegbaaGreat.G
open Go.RowKit Go.Shelf
attribute [local go_sem] Oper.semAt_some

theorem row_at {B : Nat} {v : Value} {l : T.Row} {w : World} (h : T.RowOwn B v l w) {k : Nat} {p : T.Nd × Value} (hk : l[k]? = some p) : ∃ g cap, v = .slice (some ⟨g, 0, none⟩) l.length cap ∧ T.At g (k * 12) p.1 p.2 w := by
  have hlt : k < l.length := (List.getElem?_eq_some_iff.1 hk).1
  rcases h.forms with ⟨rfl, rfl⟩ | ⟨g, cap, rfl⟩
  · simp at hlt
  · refine ⟨g, cap, rfl, fun j hj => ?_⟩
    rw [World.ownsRow.cellAt h (k * 12 + j) (by omega)]
    exact T.flat_at l k p j hk hj
/-- the place of a node -/
def AtIs (l : T.Row) (no z : Int) : Prop := (z = -1 ∧ T.look l no = none) ∨ ∃ (i : Nat) (p : T.Nd × Value), z = i ∧ l[i]? = some p ∧ T.look l no = some p
set_option maxRecDepth 100000 in
set_option maxHeartbeats 4000000 in
theorem At_row {B F : Nat} {nv : Value} {l : T.Row} {w : World} (hc : w.cell? ⟨F, 0, none⟩ = some nv) (hR : T.RowOwn B nv l w) (no : Int) (hl : l.length ≤ 1000000) :
    Calls Tryz.prog 31 #[.pointer (some ⟨F, 0, none⟩), .int .i64 no] w fun e w' => (∃ z, e = .returned (.int .i64 z) ∧ AtIs l no z) ∧ w = w' := by
  obtain ⟨oa, cap, rfl, _⟩ := hR.sees
  have HR := Lib.hid hR
  clear hR
  go_enter Tryz.func31, Tryz.ntmps31
  go_wp2
  go_loopw [5] (fun i wr => ∃ k : Nat, k ≤ l.length ∧ i = .int .i64 k ∧ (∀ y ∈ l.take k, decide (y.1.no = no) = false) ∧ wr = w) (fun i _ => l.length - (RowKit.intOf i).toNat)
  case atStart => exact ⟨0, Nat.zero_le _, rfl, fun y hy => by simp at hy, rfl⟩
  case round =>
    obtain ⟨k, hk, rfl, hno, rfl⟩ := hrel
    have HB := Lib.hid hno
    clear hno
    by_cases hlt : k < l.length
    · obtain ⟨x, hx⟩ : ∃ x, l[k]? = some x := ⟨_, List.getElem?_eq_getElem hlt⟩
      obtain ⟨g, cap', he, hat⟩ := row_at HR.out hx
      cases he
      obtain ⟨c0, _⟩ := hat.facts
      have HF := Lib.hid (seek_take (fun p : T.Nd × Value => decide (p.1.no = no)) hx HB.out)
      have HX := Lib.hid hx
      clear hx hat
      by_cases hn : x.1.no = no
      · have HN := Lib.hid (HF.out.1 (by simpa using hn))
        subst hn
        clear HF
        go_wp2
        go_ret
        exact ⟨⟨k, rfl, .inr ⟨k, x, rfl, HX.out, HN.out⟩⟩, by first | rfl | trivial⟩
      · have HN := Lib.hid (HF.out.2 (by simpa using hn))
        have hn' : (x.1.no == no) = false := by simpa using hn
        clear HF hn
        go_wp2
        go_roundw
        case rel => exact ⟨k + 1, by omega, by go_num, HN.out, by first | rfl | trivial⟩
        case measure => simp [RowKit.intOf]; omega
    · have HE := Lib.hid (seek_end (fun p : T.Nd × Value => decide (p.1.no = no)) (l := l) (by have := HB.out; rwa [List.take_of_length_le (by omega)] at this))
      go_wp2
      go_ret
      exact ⟨⟨-1, rfl, .inl ⟨rfl, HE.out⟩⟩, by first | rfl | trivial⟩
section
variable {B F : Nat} {ex : Ext} {nv dv : Value} {st : St} {w w' : World}
theorem gets_row {l : T.Row} {n : List T.Nd} (h : l.map Prod.fst = n) {k : Int} : get n k = (T.look l k).map Prod.fst := by rw [← h, look_fst]
set_option maxRecDepth 100000 in
set_option maxHeartbeats 8000000 in
/-- what Get answers: the node, its entries where they lie -/
theorem refGet_any (h : Fs ex B F nv dv st w) (k : Int) (hl : st.n.length ≤ 1000000) : Calls Tryz.prog 12 #[.pointer (some ⟨F, 0, none⟩), .int .i64 k] w fun e w' =>
    ∃ u, e = .returned ((gets st.n k).v u) ∧ E.Own B u (gets st.n k).es w' ∧ Below w.heap.size w w' := by
  obtain ⟨l, h1, h2, h3⟩ := h.nodes
  have hll : l.length = st.n.length := by rw [← h1, List.length_map]
  have hg := gets_row h1 (k := k)
  have hz : T.look l k = none → gets st.n k = T.Nd.zero := fun e => by rw [e] at hg; exact gets_none hg
  have hp : ∀ p, T.look l k = some p → gets st.n k = p.1 := fun p e => by rw [e] at hg; exact gets_some hg
  have hb1 : Below w.heap.size w (w.alloc (.cells #[.int .i64 0, .int .i64 0, .int .i64 0, .int .i64 0, .int .i64 0, .int .i64 0, .int .i64 0, .int .i64 0, .int .i64 0, .int .i64 0, .string ⟨#[]⟩, .slice none 0 0] 48)) := (Below.refl _ _).alloc (Nat.le_refl _) _
  have B1 := T.BoxN.new T.Nd.zero (.slice none 0 0) w
  dsimp only [T.Nd.zero] at B1
  have hF := (h.below hb1).facts.1
  have c1 := At_row hF (h2.below hb1) k (by omega)
  have HR := Lib.hid (h2.below hb1)
  have HE := Lib.hid (fun p (hp : p ∈ l) => T.own_kept (h3 p hp) (T.EntKept.below hb1))
  have HZ := Lib.hid hz
  have HP := Lib.hid hp
  obtain ⟨oa, cap, rfl, _⟩ := h2.sees
  clear h h2 h3 hll hl h1 hg hz hp
  generalize gets st.n k = nd at *
  go_enter Tryz.func12, Tryz.ntmps12
  go_upto_region 1 with fail
  generalize w.alloc (.cells #[.int .i64 0, .int .i64 0, .int .i64 0, .int .i64 0, .int .i64 0, .int .i64 0, .int .i64 0, .int .i64 0, .int .i64 0, .int .i64 0, .string ⟨#[]⟩, .slice none 0 0] 48) = W1 at *
  obtain ⟨b0, hbd⟩ : ∃ b, w.heap.size = b := ⟨_, rfl⟩
  rw [hbd] at B1 hb1 ⊢
  have HB := Lib.hid hbd
  clear hbd
  go_upto_region 2 with (go_at_call 31; refine c1.mono ?_; rintro e w1 ⟨⟨z, rfl, hz⟩, rfl⟩)
  obtain ⟨f0, f1, f2, f3, f4, f5, f6, f7, f8, f9, f10, f11⟩ := B1.open
  obtain ⟨a0, a1, a2, a3, a4, a5, a6, a7, a8, a9, a10, a11⟩ := B1.facts
  dsimp only at a0 a1 a2 a3 a4 a5 a6 a7 a8 a9 a10 a11
  rcases hz with ⟨hz0, hn⟩ | ⟨i, p, rfl, hi, hn⟩
  · have hz1 : z < 0 := by omega
    obtain rfl := HZ.out hn
    clear hz0
    go_wp2
    have D3 := B1.fill T.Nd.zero (.slice none 0 0)
    have hb4 := hb1.trans (T.below_fill (Nat.le_refl b0) W1 T.Nd.zero (.slice none 0 0))
    unfold T.fill at D3 hb4
    dsimp only [T.Nd.zero] at D3 hb4
    generalize World.setCell _ _ _ = W4 at D3 hb4 ⊢
    obtain ⟨g0, g1, g2, g3, g4, g5, g6, g7, g8, g9, g10, g11⟩ := D3.facts
    refine bodyPost_ret (by simp [results, Tryz.results12, go_sem, g0, g1, g2, g3, g4, g5, g6, g7, g8, g9, g10, g11]; rfl) rfl ?_
    exact ⟨.slice none 0 0, rfl, E.Own.nil _ _, HB.out ▸ hb4⟩
  · obtain rfl := HP.out p hn
    have hil : i < l.length := (List.getElem?_eq_some_iff.1 hi).1
    have hi0 : ¬ (i : Int) < 0 := by omega
    have hi1 : (i : Int) < l.length := by omega
    obtain ⟨g, cap', he, hat⟩ := row_at HR.out hi
    cases he
    have hO := HE.out p (List.mem_of_getElem? hi)
    obtain ⟨n, s⟩ := p
    dsimp only at hO
    obtain ⟨ou, cu, rfl⟩ := T.own_slice hO
    obtain ⟨no, dev, kind, mode, uid, gid, mt, ct, links, up, data, es⟩ := n
    obtain ⟨q0, q1, q2, q3, q4, q5, q6, q7, q8, q9, q10, q11⟩ := hat.facts
    dsimp only at q0 q1 q2 q3 q4 q5 q6 q7 q8 q9 q10 q11 hO
    have HI := Lib.hid hi
    clear hat hi hn HP HZ HE
    go_wp2
    have D3 := B1.fill ⟨no, dev, kind, mode, uid, gid, mt, ct, links, up, data, es⟩ (.slice ou es.length cu)
    have hb4 := hb1.trans (T.below_fill (Nat.le_refl b0) W1 ⟨no, dev, kind, mode, uid, gid, mt, ct, links, up, data, es⟩ (.slice ou es.length cu))
    have hO4 : E.Own B _ es _ := T.own_kept hO (T.EntKept.fill B1 ⟨no, dev, kind, mode, uid, gid, mt, ct, links, up, data, es⟩ (.slice ou es.length cu))
    unfold T.fill at D3 hb4 hO4
    dsimp only at D3 hb4 hO4
    generalize World.setCell _ _ _ = W4 at D3 hb4 hO4 ⊢
    obtain ⟨g0, g1, g2, g3, g4, g5, g6, g7, g8, g9, g10, g11⟩ := D3.facts
    refine bodyPost_ret (by simp [results, Tryz.results12, go_sem, g0, g1, g2, g3, g4, g5, g6, g7, g8, g9, g10, g11]; rfl) rfl ?_
    exact ⟨.slice ou es.length cu, rfl, hO4, HB.out ▸ hb4⟩
end
end Go.Proofs.YtenopnfclbegbaaGreat.G
/-
  The reference's Set.
-/
namespace Go.Proofs.YtenopnfclbegbaaGreat.G
open Go.RowKit Go.Shelf
attribute [local go_sem] Oper.semAt_some

/-- a node written at a place -/
def putn (w : World) (g o : Nat) (n : T.Nd) (s : Value) : World := (((((((((((w.setCell ⟨g, o, none⟩ (.int .i64 n.no)).setCell ⟨g, o + 1, none⟩ (.int .i64 n.dev)).setCell ⟨g, o + 2, none⟩ (.int .i64 n.kind)).setCell ⟨g, o + 3, none⟩ (.int .i64 n.mode)).setCell ⟨g, o + 4, none⟩ (.int .i64 n.uid)).setCell ⟨g, o + 5, none⟩ (.int .i64 n.gid)).setCell ⟨g, o + 6, none⟩ (.int .i64 n.mt)).setCell ⟨g, o + 7, none⟩ (.int .i64 n.ct)).setCell ⟨g, o + 8, none⟩ (.int .i64 n.links)).setCell ⟨g, o + 9, none⟩ (.int .i64 n.up)).setCell ⟨g, o + 10, none⟩ (.string n.data)).setCell ⟨g, o + 11, none⟩ s
theorem flat_setn : ∀ (l : T.Row) (i : Nat) (p : T.Nd × Value) (n : T.Nd) (s : Value), l[i]? = some p →
    T.flat (l.set i (n, s)) = ((((((((((((T.flat l).set (i * 12) (.int .i64 n.no)).set (i * 12 + 1) (.int .i64 n.dev)).set (i * 12 + 2) (.int .i64 n.kind)).set (i * 12 + 3) (.int .i64 n.mode)).set (i * 12 + 4) (.int .i64 n.uid)).set (i * 12 + 5) (.int .i64 n.gid)).set (i * 12 + 6) (.int .i64 n.mt)).set (i * 12 + 7) (.int .i64 n.ct)).set (i * 12 + 8) (.int .i64 n.links)).set (i * 12 + 9) (.int .i64 n.up)).set (i * 12 + 10) (.string n.data)).set (i * 12 + 11) s
  | [], i, p, n, s, h => by simp at h
  | y :: ls, 0, p, n, s, h => by
    simp [T.flat, T.Nd.cs]
  | y :: ls, i + 1, p, n, s, h => by
    have h' : ls[i]? = some p := by simpa using h
    have e := flat_setn ls i p n s h'
    simp only [T.flat, List.set_cons_succ, List.flatMap_cons] at e ⊢
    rw [e]
    have c : ∀ (l : List Value) (j : Nat) (v : Value), (y.1.cs y.2 ++ l).set ((i + 1) * 12 + j) v = y.1.cs y.2 ++ l.set (i * 12 + j) v := fun l j v => by
      rw [List.set_append_right _ _ (by rw [T.cs_len]; omega), T.cs_len, show (i + 1) * 12 + j - 12 = i * 12 + j by omega]
    have c0 : ∀ (l : List Value) (v : Value), (y.1.cs y.2 ++ l).set ((i + 1) * 12) v = y.1.cs y.2 ++ l.set (i * 12) v := fun l v => c l 0 v
    rw [c0, c, c, c, c, c, c, c, c, c, c, c]
theorem row_frozen {B g cap : Nat} {l : T.Row} {w : World} (h : T.RowOwn B (.slice (some ⟨g, 0, none⟩) l.length cap) l w) (j : Nat) : w.frozen? ⟨g, j, none⟩ = false := World.ownsRow.frozenAt h j
theorem row_putn {B g cap i : Nat} {l : T.Row} {w : World} {p : T.Nd × Value} (h : T.RowOwn B (.slice (some ⟨g, 0, none⟩) l.length cap) l w) (hi : l[i]? = some p) (n : T.Nd) (s : Value) :
    T.RowOwn B (.slice (some ⟨g, 0, none⟩) l.length cap) (l.set i (n, s)) (putn w g (i * 12) n s) ∧ w.grownBy (putn w g (i * 12) n s) (some g) := by
  unfold T.RowOwn
  rw [flat_setn l i p n s hi, List.length_set]
  obtain ⟨h0, g0⟩ := World.ownsRow.stored h (i * 12) (.int .i64 n.no)
  obtain ⟨h1, g1⟩ := World.ownsRow.stored h0 (i * 12 + 1) (.int .i64 n.dev)
  obtain ⟨h2, g2⟩ := World.ownsRow.stored h1 (i * 12 + 2) (.int .i64 n.kind)
  obtain ⟨h3, g3⟩ := World.ownsRow.stored h2 (i * 12 + 3) (.int .i64 n.mode)
  obtain ⟨h4, g4⟩ := World.ownsRow.stored h3 (i * 12 + 4) (.int .i64 n.uid)
  obtain ⟨h5, g5⟩ := World.ownsRow.stored h4 (i * 12 + 5) (.int .i64 n.gid)
  obtain ⟨h6, g6⟩ := World.ownsRow.stored h5 (i * 12 + 6) (.int .i64 n.mt)
  obtain ⟨h7, g7⟩ := World.ownsRow.stored h6 (i * 12 + 7) (.int .i64 n.ct)
  obtain ⟨h8, g8⟩ := World.ownsRow.stored h7 (i * 12 + 8) (.int .i64 n.links)
  obtain ⟨h9, g9⟩ := World.ownsRow.stored h8 (i * 12 + 9) (.int .i64 n.up)
  obtain ⟨h10, g10⟩ := World.ownsRow.stored h9 (i * 12 + 10) (.string n.data)
  obtain ⟨h11, g11⟩ := World.ownsRow.stored h10 (i * 12 + 11) s
  exact ⟨h11, grown_trans (grown_trans (grown_trans (grown_trans (grown_trans (grown_trans (grown_trans (grown_trans (grown_trans (grown_trans (grown_trans g0 g1) g2) g3) g4) g5) g6) g7) g8) g9) g10) g11⟩
theorem set_repl {l : T.Row} {i : Nat} {p : T.Nd × Value} {n : T.Nd} {s : Value} (hr : T.Rise l) (hi : l[i]? = some p) (e : p.1.no = n.no) : l.set i (n, s) = T.repl l (n, s) := by
  refine List.ext_getElem? fun j => ?_
  unfold T.repl
  rw [List.getElem?_set, List.getElem?_map]
  have hil := (List.getElem?_eq_some_iff.1 hi).1
  split
  · rename_i hj
    subst hj
    rw [hi]
    simp [e]
  · rename_i hj
    cases hq : l[j]? with
    | none => rfl
    | some q =>
      have hne : q.1.no ≠ n.no := fun e2 => by
        have h1 := T.look_at hr hi
        have h2 := T.look_at hr hq
        obtain ⟨hjl, hjq⟩ := List.getElem?_eq_some_iff.1 hq
        obtain ⟨_, hip⟩ := List.getElem?_eq_some_iff.1 hi
        rcases Nat.lt_or_gt_of_ne hj with hlt | hlt
        · have := List.pairwise_iff_getElem.1 hr i j hil hjl hlt
          rw [hip, hjq] at this; omega
        · have := List.pairwise_iff_getElem.1 hr j i hjl hil hlt
          rw [hip, hjq] at this; omega
      simp [hne]
theorem rise_of {l : T.Row} {n : List T.Nd} (h : l.map Prod.fst = n) (hr : n.Pairwise fun p q => p.no < q.no) : T.Rise l := by
  rw [← h, List.pairwise_map] at hr
  exact hr
section
variable {B F : Nat} {ex : Ext} {nv dv : Value} {st : St} {w w' : World}
theorem fS_row {k : Nat} (h : nv.ownBlock = some k) : fS F nv dv k := .inr (.inl h)
theorem fS_dev {k : Nat} (h : dv.ownBlock = some k) : fS F nv dv k := .inr (.inr h)
/-- the reference's nodes turn, in their place -/
theorem Fs.noded (h : Fs ex B F nv dv st w) {l : T.Row} (hR : T.RowOwn B nv l w') (hO : ∀ p ∈ l, E.Own B p.2 p.1.es w') (hT : Turn (fun b => nv.ownBlock = some b) w w') : Fs ex B F nv dv ⟨st.last, l.map Prod.fst, st.d⟩ w' := by
  obtain ⟨l0, h1, h2, h3⟩ := h.nodes
  refine ⟨h.bf, ?_, ⟨l, rfl, hR, hO⟩, h.devs.same fun g hg => ?_⟩
  · refine (hT.block F h.ltF fun e => ?_).trans h.head
    obtain ⟨_, cur, hc⟩ := row_block h2 e
    exact ne_type h.head hc (by decide) rfl
  · obtain ⟨_, cur, hc⟩ := h.devs.block hg
    refine hT.block g (h.devs.lt hg) fun e => ?_
    obtain ⟨_, cur', hc'⟩ := row_block h2 e
    exact ne_type hc hc' (by decide) rfl
theorem Fs.entRow (h : Fs ex B F nv dv st w) (hT : Turn (fun b => nv.ownBlock = some b) w w') : T.EntKept w w' := h.entKept (hT.mono fun _ e => fS_row e)
set_option maxRecDepth 100000 in
set_option maxHeartbeats 8000000 in
theorem refSet_any (h : Fs ex B F nv dv st w) (hr : st.n.Pairwise fun p q => p.no < q.no) (n : T.Nd) (s : Value) (hS : E.Own B s n.es w) (hl : st.n.length ≤ 1000000) :
    Calls Tryz.prog 51 #[.pointer (some ⟨F, 0, none⟩), n.v s] w fun e w' =>
    e = .returned (.tuple #[]) ∧ Fs ex B F nv dv ⟨st.last, setN st.n n, st.d⟩ w' ∧ Turn (fS F nv dv) w w' := by
  obtain ⟨l, h1, h2, h3⟩ := h.nodes
  have hll : l.length = st.n.length := by rw [← h1, List.length_map]
  have hb1 : Below w.heap.size w (w.alloc (.cells #[.int .i64 n.no, .int .i64 n.dev, .int .i64 n.kind, .int .i64 n.mode, .int .i64 n.uid, .int .i64 n.gid, .int .i64 n.mt, .int .i64 n.ct, .int .i64 n.links, .int .i64 n.up, .string n.data, s] 48)) := (Below.refl _ _).alloc (Nat.le_refl _) _
  have B1 := T.BoxN.new n s w
  have hF := (h.below hb1).facts.1
  have c1 := At_row hF (h2.below hb1) n.no (by omega)
  have HR := Lib.hid (h2.below hb1)
  have HE := Lib.hid (fun p (hp : p ∈ l) => T.own_kept (h3 p hp) (T.EntKept.below hb1))
  have HS := Lib.hid (T.own_kept hS (T.EntKept.below hb1))
  have H1 := Lib.hid h1
  have HI := Lib.hid (rise_of h1 hr)
  have H := Lib.hid (h.below hb1)
  obtain ⟨oa, cap, rfl, _⟩ := h2.sees
  obtain ⟨os, cs, rfl⟩ := T.own_slice hS
  clear h h2 h3 hll hl h1 hr hS
  obtain ⟨no, dev, kind, mode, uid, gid, mt, ct, links, up, data, es⟩ := n
  dsimp only [T.Nd.v] at *
  go_enter Tryz.func51, Tryz.ntmps51
  go_upto_region 1 with fail
  generalize w.alloc (.cells #[.int .i64 no, .int .i64 dev, .int .i64 kind, .int .i64 mode, .int .i64 uid, .int .i64 gid, .int .i64 mt, .int .i64 ct, .int .i64 links, .int .i64 up, .string data, .slice os es.length cs] 48) = W1 at *
  obtain ⟨b0, hbd⟩ : ∃ b, w.heap.size = b := ⟨_, rfl⟩
  rw [hbd] at B1 ⊢
  clear hbd
  obtain ⟨a0, a1, a2, a3, a4, a5, a6, a7, a8, a9, a10, a11⟩ := B1.facts
  dsimp only at a0 a1 a2 a3 a4 a5 a6 a7 a8 a9 a10 a11
  go_upto_region 2 with (go_at_call 31; refine c1.mono ?_; rintro e w1 ⟨⟨z, rfl, hz⟩, rfl⟩)
  rcases hz with ⟨hz0, hn⟩ | ⟨i, p, rfl, hi, hn⟩
  · have hz1 : ¬ (0 ≤ z) := by omega
    have HN := Lib.hid hn
    clear hz0 hn
    go_wp2
    refine bodyPost_end (by simp [results, Tryz.results51]; rfl) rfl ?_
    have hg := gets_row H1.out (k := no)
    rw [HN.out] at hg
    rw [show setN st.n (⟨no, dev, kind, mode, uid, gid, mt, ct, links, up, data, es⟩ : T.Nd) = st.n from setN_none (by show (get st.n no).isSome = false; rw [hg]; rfl)]
    exact ⟨rfl, H.out, Turn.of_below hb1⟩
  · have hil : i < l.length := (List.getElem?_eq_some_iff.1 hi).1
    have hi0 : (0 : Int) ≤ (i : Int) := by omega
    have hi1 : (i : Int) < l.length := by omega
    have hR := HR.out
    obtain ⟨g, cap', he, hat⟩ := row_at hR hi
    cases he
    have f0 := row_frozen hR (i * 12)
    have f1 := row_frozen hR (i * 12 + 1)
    have f2 := row_frozen hR (i * 12 + 2)
    have f3 := row_frozen hR (i * 12 + 3)
    have f4 := row_frozen hR (i * 12 + 4)
    have f5 := row_frozen hR (i * 12 + 5)
    have f6 := row_frozen hR (i * 12 + 6)
    have f7 := row_frozen hR (i * 12 + 7)
    have f8 := row_frozen hR (i * 12 + 8)
    have f9 := row_frozen hR (i * 12 + 9)
    have f10 := row_frozen hR (i * 12 + 10)
    have f11 := row_frozen hR (i * 12 + 11)
    obtain ⟨q0, q1, q2, q3, q4, q5, q6, q7, q8, q9, q10, q11⟩ := hat.facts
    have HX := Lib.hid hi
    have HN := Lib.hid hn
    have hg : g < W1.heap.size := hat.lt
    have hb := B1.lt
    clear hR hi hn hat
    go_wp2
    go_region
    refine bodyPost_end (by simp [results, Tryz.results51]; rfl) rfl ?_
    obtain ⟨hR2, hgr⟩ := row_putn HR.out HX.out (⟨no, dev, kind, mode, uid, gid, mt, ct, links, up, data, es⟩ : T.Nd) (.slice os es.length cs)
    obtain ⟨_, hpn⟩ := T.look_some HN.out
    rw [set_repl HI.out HX.out hpn] at hR2
    have ht : Turn (fun b => (Value.slice (some ⟨g, 0, none⟩) l.length cap).ownBlock = some b) W1 _ := Turn.of_grown hgr rfl
    have hk := H.out.entRow ht
    have hF := H.out.noded (by simpa [T.length_repl] using hR2) (fun q hq => by
      rcases T.mem_repl hq with rfl | hq
      · exact T.own_kept HS.out hk
      · exact T.own_kept (HE.out q hq) hk) ht
    rw [fst_repl, H1.out] at hF
    exact ⟨rfl, hF.drew, (Turn.ahead hb1 (ht.mono fun _ e => fS_row e)).next ((Below.refl _ _).drew)⟩
end
end Go.Proofs.YtenopnfclbegbaaGreat.G
/-
  The reference's Add.
-/
namespace Go.Proofs.YtenopnfclbegbaaGreat.G
open Go.RowKit Go.Shelf
attribute [local go_sem] Oper.semAt_some

section
variable {B F : Nat} {ex : Ext} {nv nv' dv : Value} {st : St} {w w' : World}
/-- the number given last is another one -/
theorem Fs.bump (h : Fs ex B F nv dv st w) (k : Int) : Fs ex B F nv dv ⟨k, st.n, st.d⟩ (w.setCell ⟨F, 2, none⟩ (.int .i64 k)) := by
  obtain ⟨l, h1, h2, h3⟩ := h.nodes
  have hn : ∀ (b : Nat) (x : Array Value) (t : TypeId) (mk : Nat × Nat), w.heap[b]? = some (.cells x t mk) → t ≠ 37 → (w.setCell ⟨F, 2, none⟩ (.int .i64 k)).heap[b]? = w.heap[b]? := fun b x t mk hb ht => RowKit.Below.heap_setCell _ _ _ _ (fun e => by
    subst e
    rw [h.head] at hb
    cases hb
    exact ht rfl)
  refine ⟨h.bf, ?_, ⟨l, h1, row_same h2 fun g hg => ?_, fun p hp => T.own_kept (h3 p hp) (T.entKept_set h.head (by decide) _ _)⟩, h.devs.same fun g hg => ?_⟩
  · simp [World.setCell, Array.getElem?_modify, h.head]
  · obtain ⟨_, cur, hc⟩ := row_block h2 hg
    exact hn _ _ _ _ hc (by decide)
  · obtain ⟨_, cur, hc⟩ := h.devs.block hg
    exact hn _ _ _ _ hc (by decide)
theorem Fs.turnF (w : World) (i : Nat) (u : Value) : Turn (fS F nv dv) w (w.setCell ⟨F, i, none⟩ u) :=
  ⟨rfl, rfl, rfl, by rw [World.size_setCell]; exact Nat.le_refl _, fun k _ hn => RowKit.Below.heap_setCell _ _ _ _ fun e => hn (.inl e)⟩
/-- a box of a node lies beside -/
theorem Fs.boxed (h : Fs ex B F nv dv st w) {b : Nat} {n : T.Nd} {s : Value} (D : T.BoxN b n s w) (hg : ∀ g, nv.ownBlock = some g → g ≠ b) (i : Nat) (u : Value) : Fs ex B F nv dv st (w.setCell ⟨b, i, none⟩ u) := by
  refine h.stays (fun k hk => RowKit.Below.heap_setCell _ _ _ _ fun e => ?_) (T.entKept_set D (by decide) i u)
  subst e
  obtain ⟨l, _, h2, _⟩ := h.nodes
  rcases hk with rfl | hk | hk
  · exact ne_type h.head D (by decide) rfl
  · exact hg _ hk rfl
  · obtain ⟨_, cur, hc⟩ := h.devs.block hk
    exact ne_type hc D (by decide) rfl
theorem Fs.lastly (h : Fs ex B F nv dv st w) {last : Int} (hl : last = st.last) : Fs ex B F nv dv ⟨last, st.n, st.d⟩ w := by subst hl; exact h
theorem Fs.notBox (h : Fs ex B F nv dv st w) {b : Nat} {n : T.Nd} {s : Value} (D : T.BoxN b n s w) (hg : ∀ g, nv.ownBlock = some g → g ≠ b) : ¬ fS F nv dv b := by
  obtain ⟨l, _, h2, _⟩ := h.nodes
  rintro (rfl | hk | hk)
  · exact ne_type h.head D (by decide) rfl
  · exact hg _ hk rfl
  · obtain ⟨_, cur, hc⟩ := h.devs.block hk
    exact ne_type hc D (by decide) rfl
/-- one more node -/
theorem Fs.snoc (h : Fs ex B F nv dv st w) {n : T.Nd} {s : Value} {l : T.Row} (h1 : l.map Prod.fst = st.n) (h2 : T.RowOwn B nv l w) (h3 : ∀ p ∈ l, E.Own B p.2 p.1.es w) (hS : E.Own B s n.es w) (hR : w'.ownsRow B 48 12 nv' (l.length + 1) (T.flat l ++ n.cs s)) (hg : w.grownBy w' nv.ownBlock) :
    Fs ex B F nv' dv ⟨st.last, st.n ++ [n], st.d⟩ (w'.setCell ⟨F, 0, none⟩ nv') ∧ Turn (fS F nv dv) w (w'.setCell ⟨F, 0, none⟩ nv') := by
  have hF : w'.heap[F]? = some (.cells #[nv, dv, .int .i64 st.last, .int .i64 ex.now, .int .i64 ex.cnt, ex.plan, .bool ex.dead] 37 (0, 0)) := (hg.block F h.ltF fun e => by
    obtain ⟨_, cur, hc⟩ := row_block h2 e.symm
    exact ne_type h.head hc (by decide) rfl).trans h.head
  have hE : T.EntKept w w' := fun g cur hg' => (hg.block g (Array.getElem?_eq_some_iff.1 hg').1 fun e => by
    obtain ⟨_, cur', hc⟩ := row_block h2 e.symm
    exact ne_type hg' hc (by decide) rfl).trans hg'
  have hE2 : T.EntKept w (w'.setCell ⟨F, 0, none⟩ nv') := hE.trans (T.entKept_set hF (by decide) _ _)
  have hn : ∀ (b : Nat) (x : Array Value) (t : TypeId) (mk : Nat × Nat), w'.heap[b]? = some (.cells x t mk) → t ≠ 37 → (w'.setCell ⟨F, 0, none⟩ nv').heap[b]? = w'.heap[b]? := fun b x t mk hb ht => RowKit.Below.heap_setCell _ _ _ _ (fun e => by
    subst e
    rw [hF] at hb
    cases hb
    exact ht rfl)
  have hR' : T.RowOwn B nv' (l ++ [(n, s)]) w' := T.RowOwn.snoc hR
  refine ⟨⟨h.bf, ?_, ⟨l ++ [(n, s)], by rw [fst_snoc, h1], row_same hR' fun g hg' => ?_, fun p hp => ?_⟩, h.devs.same fun g hg' => ?_⟩, ?_⟩
  · simp [World.setCell, Array.getElem?_modify, hF]
  · obtain ⟨_, cur, hc⟩ := row_block hR' hg'
    exact hn _ _ _ _ hc (by decide)
  · rcases List.mem_append.1 hp with hp | hp
    · exact T.own_kept (h3 p hp) hE2
    · obtain rfl := List.mem_singleton.1 hp
      exact T.own_kept hS hE2
  · obtain ⟨_, cur, hc⟩ := h.devs.block hg'
    have hc' : w'.heap[g]? = w.heap[g]? := hg.block g (h.devs.lt hg') fun e => by
      obtain ⟨_, cur', hc2⟩ := row_block h2 e.symm
      exact ne_type hc hc2 (by decide) rfl
    exact (hn _ _ _ _ (hc'.trans hc) (by decide)).trans hc'
  · refine ⟨hg.os, hg.tape, hg.output, by rw [World.size_setCell]; exact hg.size, fun k hk hn' => ?_⟩
    rw [RowKit.Below.heap_setCell _ _ _ _ (fun e => hn' (.inl e))]
    exact hg.block k hk fun e => hn' (fS_row e.symm)
theorem Fs.grown (h : Fs ex B F nv dv st w) (hg : w.grownBy w' nv.ownBlock) : w'.cell? ⟨F, 0, none⟩ = some nv ∧ w'.frozen? ⟨F, 0, none⟩ = false := by
  obtain ⟨l, _, h2, _⟩ := h.nodes
  have hX : w'.heap[F]? = some (.cells #[nv, dv, .int .i64 st.last, .int .i64 ex.now, .int .i64 ex.cnt, ex.plan, .bool ex.dead] 37 (0, 0)) := (hg.block F h.ltF fun e => by
    obtain ⟨_, cur, hc⟩ := row_block h2 e.symm
    exact ne_type h.head hc (by decide) rfl).trans h.head
  exact ⟨by rw [Lib.cell_of_heap hX]; rfl, Lib.frozen_of_heap hX 0⟩
set_option maxRecDepth 100000 in
set_option maxHeartbeats 8000000 in
theorem refAdd_any (h : Fs ex B F nv dv st w) (n : T.Nd) (s : Value) (hS : E.Own B s n.es w) (hB : B ≤ w.heap.size) (hlen : st.n.length < 900000) (h0 : 0 ≤ st.last) (hlast : st.last < 900000) :
    Calls Tryz.prog 79 #[.pointer (some ⟨F, 0, none⟩), n.v s] w fun e w' =>
    e = .returned (.int .i64 (st.last + 1)) ∧ ∃ nv', Fs ex B F nv' dv ⟨st.last + 1, st.n ++ [n.as (st.last + 1)], st.d⟩ w' ∧ Turn (fS F nv dv) w w' ∧ ∀ k, fS F nv' dv k → fS F nv dv k ∨ w.heap.size ≤ k := by
  have mixed : Tryz.prog.follows Departure.mixedOrders = true := by kernel_rfl
  obtain ⟨i0, hi, hz0, hz1, hz2⟩ := E.info_parts T.infoN
  have hb1 : Below w.heap.size w (w.alloc (.cells #[.int .i64 n.no, .int .i64 n.dev, .int .i64 n.kind, .int .i64 n.mode, .int .i64 n.uid, .int .i64 n.gid, .int .i64 n.mt, .int .i64 n.ct, .int .i64 n.links, .int .i64 n.up, .string n.data, s] 48)) := (Below.refl _ _).alloc (Nat.le_refl _) _
  have B1 := T.BoxN.new n s w
  have hnv : ∀ g, nv.ownBlock = some g → g ≠ w.heap.size := fun g hg => by
    have := h.lt (fS_row hg)
    omega
  have H := h.below hb1
  have hS1 := T.own_kept hS (T.EntKept.below hb1)
  obtain ⟨os, cs, rfl⟩ := T.own_slice hS
  obtain ⟨oa, cap, rfl⟩ : ∃ oa cap, nv = .slice oa st.n.length cap := by
    obtain ⟨l, h1, h2, _⟩ := h.nodes
    obtain ⟨oa, cap, e, _⟩ := h2.sees
    exact ⟨oa, cap, by rw [e, ← h1, List.length_map]⟩
  clear h hS
  obtain ⟨no, dev, kind, mode, uid, gid, mt, ct, links, up, data, es⟩ := n
  dsimp only [T.Nd.v] at *
  go_enter Tryz.func79, Tryz.ntmps79
  go_upto_region 1 with fail
  generalize w.alloc (.cells #[.int .i64 no, .int .i64 dev, .int .i64 kind, .int .i64 mode, .int .i64 uid, .int .i64 gid, .int .i64 mt, .int .i64 ct, .int .i64 links, .int .i64 up, .string data, .slice os es.length cs] 48) = W1 at *
  obtain ⟨b0, hbd⟩ : ∃ b, w.heap.size = b := ⟨_, rfl⟩
  rw [hbd] at B1 hnv ⊢
  have HBd := Lib.hid hbd
  clear hbd
  obtain ⟨x0, x1, x2, y0, y1, y2⟩ := H.facts
  have hFl := H.ltF
  go_upto_region 2 with fail
  have H2 := H.bump (st.last + 1)
  have t2 : Turn (fS F (.slice oa st.n.length cap) dv) W1 _ := Fs.turnF (nv := .slice oa st.n.length cap) (dv := dv) (F := F) W1 2 (.int .i64 (st.last + 1))
  have B2 := B1.other (fun e => ne_type B1 H.head (by decide) e) 2 (.int .i64 (st.last + 1)) (a := F)
  have hS2 := T.own_kept hS1 (T.entKept_set H.head (by decide) 2 (.int .i64 (st.last + 1)))
  clear H B1 hS1 x0 x1 x2 y0 y1 y2 hFl
  generalize W1.setCell ⟨F, 2, none⟩ (.int .i64 (st.last + 1)) = W2 at *
  obtain ⟨x0, x1, x2, y0, y1, y2⟩ := H2.facts
  obtain ⟨f0, f1, f2, f3, f4, f5, f6, f7, f8, f9, f10, f11⟩ := B2.open
  have a0 := B2.facts.1
  dsimp only at a0
  go_upto_region 3 with fail
  have B3 := B2.set0 (st.last + 1)
  have hS3 := T.own_kept hS2 (box_entKept B2 0 (.int .i64 (st.last + 1)))
  have H3 := H2.boxed B2 hnv 0 (.int .i64 (st.last + 1))
  have hb3 : Below b0 W2 (W2.setCell ⟨b0, 0, none⟩ (.int .i64 (st.last + 1))) := (Below.refl b0 W2).setCell (p := ⟨b0, 0, none⟩) (Nat.le_refl b0) _
  have t3 : Turn (fS F (.slice oa st.n.length cap) dv) w (W2.setCell ⟨b0, 0, none⟩ (.int .i64 (st.last + 1))) := ((Turn.of_below hb1).trans t2).more hb3 (by rw [HBd.out]; exact Nat.le_refl _)
  clear a0 H2 B2 hS2 x0 x1 x2 y0 y1 y2 f0 f1 f2 f3 f4 f5 f6 f7 f8 f9 f10 f11 hb3 t2 hb1
  generalize W2.setCell ⟨b0, 0, none⟩ (.int .i64 (st.last + 1)) = W3 at *
  obtain ⟨l, h1, h2, h3⟩ := H3.nodes
  have hll : l.length = st.n.length := by rw [← h1, List.length_map]
  have hw3 : w.heap.size ≤ W3.heap.size := t3.size
  have hR := (h2.below ((Below.refl W3.heap.size W3).drew))
  unfold T.RowOwn at hR
  rw [hll] at hR
  obtain ⟨x0, x1, x2, y0, y1, y2⟩ := H3.facts
  obtain ⟨a0, a1, a2, a3, a4, a5, a6, a7, a8, a9, a10, a11⟩ := B3.facts
  dsimp only [T.Nd.as] at a0 a1 a2 a3 a4 a5 a6 a7 a8 a9 a10 a11
  have hFl := H3.ltF
  have hbl := B3.lt
  have hcs := T.cs_one (⟨st.last + 1, dev, kind, mode, uid, gid, mt, ct, links, up, data, es⟩ : T.Nd) (s := .slice os es.length cs) ⟨_, _, _, rfl⟩
  have HR := Lib.hid hR
  have HH := Lib.hid H3
  have HRO := Lib.hid h2
  have HNV := Lib.hid hnv
  have HN := Lib.hid h1
  have HT := Lib.hid t3
  have HE := Lib.hid h3
  have HS := Lib.hid hS3
  have HBX := Lib.hid B3
  clear hR H3 h1 h2 h3 t3 B3 hS3 hnv
  go_region_law (refine step_append_fresh rfl (.tmp 21) (.tmp 23) 33 rfl B 48 i0 (.agg #[.int .i64 0, .int .i64 0, .int .i64 0, .int .i64 0, .int .i64 0, .int .i64 0, .int .i64 0, .int .i64 0, .int .i64 0, .int .i64 0, .string ⟨#[]⟩, .slice none 0 0]) 12 120 Tryz.underlying33 hi hz0 hz1 hz2 rfl (by decide) (.slice oa st.n.length cap) st.n.length (T.flat l) (by simp [Act.eval]) (HR.out.alloc _) ⟨W3.heap.size, 0, none⟩ 1 1 (T.Nd.cs ⟨st.last + 1, dev, kind, mode, uid, gid, mt, ct, links, up, data, es⟩ (.slice os es.length cs)) (by simp [Act.eval]) rfl (T.cell_new W3.drew ⟨st.last + 1, dev, kind, mode, uid, gid, mt, ct, links, up, data, es⟩ _ _) hcs (by unfold maxLen; omega) (by omega) (by simp; omega) ?_; intro v' w3 hown3 hgr3 hnew3; have hg4 := Fs.grown (HH.out.drew.alloc _) hgr3; obtain ⟨hg5, hg6⟩ := hg4; obtain ⟨ov, cv, hv⟩ := row_form hown3; subst hv)
  all_goals
    have hal : Below W3.heap.size W3 (W3.drew.alloc (.cells #[.int .i64 (st.last + 1), .int .i64 dev, .int .i64 kind, .int .i64 mode, .int .i64 uid, .int .i64 gid, .int .i64 mt, .int .i64 ct, .int .i64 links, .int .i64 up, .string data, .slice os es.length cs] 48)) := ((Below.refl W3.heap.size W3).drew).alloc (by simp) _
    obtain ⟨H5, t5⟩ := Fs.snoc (HH.out.below hal) (n := ⟨st.last + 1, dev, kind, mode, uid, gid, mt, ct, links, up, data, es⟩) (s := .slice os es.length cs) HN.out (HRO.out.below hal) (fun p hp => T.own_kept (HE.out p hp) (T.EntKept.below hal)) (T.own_kept HS.out (T.EntKept.below hal)) (by rw [hll]; exact hown3) hgr3
    have ht5 := (HT.out.next hal).trans t5
    have D5 : T.BoxN b0 _ _ _ := (t5.block b0 (HBX.out.below hal).lt ((HH.out.below hal).notBox (HBX.out.below hal) HNV.out)).trans (HBX.out.below hal)
    have hnew : ∀ k, fS F (.slice ov (st.n.length + 1) cv) dv k → fS F (.slice oa st.n.length cap) dv k ∨ b0 ≤ k := fun k hk => by
      rcases hk with hk | hk | hk
      · exact .inl (.inl hk)
      · rcases hnew3 k hk with h | h
        · exact .inl (fS_row h)
        · refine .inr ?_
          have := hal.size
          simp at h
          omega
      · exact .inl (fS_dev hk)
    have HK := Lib.hid hnew
    have HF5 := Lib.hid H5
    have HT5 := Lib.hid ht5
    clear hnew H5 ht5 t5 hal hown3 hgr3 hnew3 hg5 hg6 a0 a1 a2 a3 a4 a5 a6 a7 a8 a9 a10 a11 x0 x1 x2 y0 y1 y2 HR HH HRO HN HT HE HS HBX HNV hi hz0 hz1 hz2 hcs
    generalize w3.setCell ⟨F, 0, none⟩ (.slice ov (st.n.length + 1) cv) = W5 at *
    have a0 := D5.facts.1
    dsimp only [T.Nd.as] at a0
    go_wp2
    go_ret
    exact ⟨rfl, _, HF5.out, HT5.out, by rw [HBd.out]; exact HK.out⟩
end
end Go.Proofs.YtenopnfclbegbaaGreat.G
/-
  The reference's Away.
-/
namespace Go.Proofs.YtenopnfclbegbaaGreat.G
open Go.RowKit Go.Shelf
attribute [local go_sem] Oper.semAt_some

theorem strike_snoc (a : T.Row) (p : T.Nd × Value) (k : Int) : T.strike (a ++ [p]) k = T.strike a k ++ if p.1.no = k then [] else [p] := by
  unfold T.strike
  rw [List.filter_append]
  by_cases h : p.1.no = k <;> simp [h]
theorem strike_take {l : T.Row} {i : Nat} {p : T.Nd × Value} (k : Int) (h : l[i]? = some p) : T.strike (l.take (i + 1)) k = T.strike (l.take i) k ++ if p.1.no = k then [] else [p] := by
  rw [List.take_add_one, h]
  exact strike_snoc _ p k
section
variable {B F : Nat} {ex : Ext} {nv nv' dv : Value} {st : St} {w w' : World}
theorem Fs.swap (h : Fs ex B F nv dv st w) {l : T.Row} (h2 : T.RowOwn B nv' l w) (h3 : ∀ p ∈ l, E.Own B p.2 p.1.es w) : Fs ex B F nv' dv ⟨st.last, l.map Prod.fst, st.d⟩ (w.setCell ⟨F, 0, none⟩ nv') := by
  have hn : ∀ (b : Nat) (x : Array Value) (t : TypeId) (mk : Nat × Nat), w.heap[b]? = some (.cells x t mk) → t ≠ 37 → (w.setCell ⟨F, 0, none⟩ nv').heap[b]? = w.heap[b]? := fun b x t mk hb ht => RowKit.Below.heap_setCell _ _ _ _ (fun e => by
    subst e
    rw [h.head] at hb
    cases hb
    exact ht rfl)
  refine ⟨h.bf, ?_, ⟨l, rfl, row_same h2 fun g hg => ?_, fun p hp => T.own_kept (h3 p hp) (T.entKept_set h.head (by decide) _ _)⟩, h.devs.same fun g hg => ?_⟩
  · simp [World.setCell, Array.getElem?_modify, h.head]
  · obtain ⟨_, cur, hc⟩ := row_block h2 hg
    exact hn _ _ _ _ hc (by decide)
  · obtain ⟨_, cur, hc⟩ := h.devs.block hg
    exact hn _ _ _ _ hc (by decide)
end
end Go.Proofs.YtenopnfclbegbaaGreat.G
/-
  The reference's Root and Over.
-/
namespace Go.Proofs.YtenopnfclbegbaaGreat.G
open Go.RowKit Go.Shelf
attribute [local go_sem] Oper.semAt_some

theorem mt_raw (d : List Mt) (k : Int) : (mt (raw d) k).map (fun m => (m.root, m.q)) = (mt d k).map (fun m => (m.root, m.q)) := by
  unfold mt
  split
  · rw [raw_at]
    split
    · rename_i h
      rw [h]
      cases d[0]? <;> rfl
    · rfl
  · rfl
theorem rootOf_raw (d : List Mt) (k : Int) : rootOf (raw d) k = rootOf d k := by
  have := mt_raw d k
  unfold rootOf
  cases h1 : mt (raw d) k <;> cases h2 : mt d k <;> rw [h1, h2] at this <;> simp_all
theorem useOf_raw (d : List Mt) (k : Int) : useOf (raw d) k = useOf d k := by
  have := mt_raw d k
  unfold useOf
  cases h1 : mt (raw d) k <;> cases h2 : mt d k <;> rw [h1, h2] at this <;> simp_all
def refOver (d : List Mt) (k : Int) : Int := if 0 < k then over (raw d) k else k
section
variable {B F : Nat} {ex : Ext} {nv dv : Value} {st : St} {w w' : World}
theorem Fs.dlen (h : Fs ex B F nv dv st w) : ∃ oa cap, dv = .slice oa st.d.length cap := by
  obtain ⟨oa, cap, e⟩ := h.devs.slice
  exact ⟨oa, cap, by rw [e, length_raw]⟩
theorem refRoot_any (h : Fs ex B F nv dv st w) (k : Int) (hl : st.d.length ≤ 1000000) : Calls Tryz.prog 60 #[.pointer (some ⟨F, 0, none⟩), .int .i64 k] w fun e w' => e = .returned (.int .i64 (rootOf st.d k)) ∧ w = w' := by
  obtain ⟨_, x1, _⟩ := h.facts
  rw [← rootOf_raw]
  have hr := h.devs
  have hl' : (raw st.d).length ≤ 1000000 := by rw [length_raw]; exact hl
  clear hl
  obtain ⟨oa, cap, rfl⟩ := h.devs.slice
  clear h
  generalize raw st.d = d at *
  by_cases h1 : k < 1
  · have e : rootOf d k = 0 := by unfold rootOf; rw [mt_none (.inl h1)]
    rw [e]
    clear hr e
    generalize d.length = n at *
    go_enter Tryz.func60, Tryz.ntmps60
    go_wp2
    go_ret
    exact ⟨rfl, rfl⟩
  · by_cases h2 : (d.length : Int) < k
    · have e : rootOf d k = 0 := by unfold rootOf; rw [mt_none (.inr h2)]
      rw [e]
      clear hr e
      generalize d.length = n at *
      go_enter Tryz.func60, Tryz.ntmps60
      go_wp2
      go_ret
      exact ⟨rfl, rfl⟩
    · obtain ⟨m, hm⟩ := mt_in (d := d) (k := k) (by omega) (by omega)
      obtain ⟨h3, h4, h5⟩ := mt_some hm
      obtain ⟨i, hi⟩ : ∃ i, (k - 1).toNat = i := ⟨_, rfl⟩
      rw [hi] at h5
      obtain ⟨g, cap', he, hat⟩ := hr.at h5
      cases he
      have e : rootOf d k = m.root := by unfold rootOf; rw [hm]
      rw [e]
      have q0 := hat.1
      have h6 : k - 1 = (i : Int) := by omega
      clear hr e hat hm h5
      generalize d.length = n at *
      have h7 : (i : Int) < n := by omega
      clear hi h3 h4
      go_enter Tryz.func60, Tryz.ntmps60
      go_wp2
      go_ret
      exact ⟨rfl, rfl⟩
set_option maxRecDepth 100000 in
set_option maxHeartbeats 4000000 in
theorem refOver_any (h : Fs ex B F nv dv st w) (no : Int) (hl : st.d.length ≤ 1000000) : Calls Tryz.prog 67 #[.pointer (some ⟨F, 0, none⟩), .int .i64 no] w fun e w' => e = .returned (.int .i64 (refOver st.d no)) ∧ w = w' := by
  obtain ⟨_, x1, _⟩ := h.facts
  unfold refOver
  have HR := Lib.hid h.devs
  have hl' : (raw st.d).length ≤ 1000000 := by rw [length_raw]; exact hl
  clear hl
  obtain ⟨oa, cap, rfl⟩ := h.devs.slice
  clear h
  generalize raw st.d = ds at *
  by_cases h0 : 0 < no
  · rw [if_pos h0]
    go_enter Tryz.func67, Tryz.ntmps67
    go_wp2
    go_loopw [5] (fun i wr => ∃ k : Nat, k ≤ ds.length ∧ i = .int .i64 k ∧ (∀ y ∈ ds.take k, decide (y.cov = no) = false) ∧ wr = w) (fun i _ => ds.length - (RowKit.intOf i).toNat)
    case atStart => exact ⟨0, Nat.zero_le _, rfl, fun y hy => by simp at hy, rfl⟩
    case round =>
      obtain ⟨k, hk, rfl, hno, rfl⟩ := hrel
      have HB := Lib.hid hno
      clear hno
      by_cases hlt : k < ds.length
      · obtain ⟨x, hx⟩ : ∃ x, ds[k]? = some x := ⟨_, List.getElem?_eq_getElem hlt⟩
        obtain ⟨g, cap', he, hat⟩ := HR.out.at hx
        cases he
        obtain ⟨c0, c1, c2, c3, c4, c5⟩ := hat
        have HF := Lib.hid (seek_take (fun m : Mt => decide (m.cov = no)) hx HB.out)
        have h3 : (k : Int) < ds.length := by omega
        clear hx
        by_cases hn : x.cov = no
        · have HN := Lib.hid (HF.out.1 (by simpa using hn))
          subst hn
          clear HF
          go_wp2
          go_ret
          exact ⟨by unfold over; rw [HN.out]; rfl, by first | rfl | trivial⟩
        · have HN := Lib.hid (HF.out.2 (by simpa using hn))
          have hn' : (x.cov == no) = false := by simpa using hn
          clear HF hn
          go_wp2
          go_roundw
          case rel => exact ⟨k + 1, by omega, by go_num, HN.out, by first | rfl | trivial⟩
          case measure => simp [RowKit.intOf]; omega
      · have HE := Lib.hid (seek_end (fun m : Mt => decide (m.cov = no)) (l := ds) (by have := HB.out; rwa [List.take_of_length_le (by omega)] at this))
        go_wp2
        go_ret
        exact ⟨by unfold over; rw [HE.out]; rfl, by first | rfl | trivial⟩
  · rw [if_neg h0]
    go_enter Tryz.func67, Tryz.ntmps67
    go_wp2
    go_loopw [5] (fun i wr => ∃ k : Nat, k ≤ ds.length ∧ i = .int .i64 k ∧ wr = w) (fun i _ => ds.length - (RowKit.intOf i).toNat)
    case atStart => exact ⟨0, Nat.zero_le _, rfl, rfl⟩
    case round =>
      obtain ⟨k, hk, rfl, rfl⟩ := hrel
      by_cases hlt : k < ds.length
      · go_wp2
        go_roundw
        case rel => exact ⟨k + 1, by omega, by go_num, by first | rfl | trivial⟩
        case measure => simp [RowKit.intOf]; omega
      · go_wp2
        go_ret
        first | exact ⟨rfl, rfl⟩ | exact ⟨rfl, trivial⟩ | rfl
end
end Go.Proofs.YtenopnfclbegbaaGreat.G
