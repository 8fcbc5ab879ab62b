/-
  The reference's Set.
-/
import Derived.Test.YtmoimijclafgcaaFat
namespace Go.Proofs.Ytmoimijclafgcaa.G
open Go.RowKit Go.Shelf
attribute [local go_sem] Oper.semAt_some

/-- a node written at a place -/
def putn (w : World) (g o : Nat) (n : T.Nd) (s : Value) : World := (((((((((((w.setCell ⟨g, o, none⟩ (.int .i64 n.no)).setCell ⟨g, o + 1, none⟩ (.int .i64 n.dev)).setCell ⟨g, o + 2, none⟩ (.int .i64 n.kind)).setCell ⟨g, o + 3, none⟩ (.int .i64 n.mode)).setCell ⟨g, o + 4, none⟩ (.int .i64 n.uid)).setCell ⟨g, o + 5, none⟩ (.int .i64 n.gid)).setCell ⟨g, o + 6, none⟩ (.int .i64 n.mt)).setCell ⟨g, o + 7, none⟩ (.int .i64 n.ct)).setCell ⟨g, o + 8, none⟩ (.int .i64 n.links)).setCell ⟨g, o + 9, none⟩ (.int .i64 n.up)).setCell ⟨g, o + 10, none⟩ (.string n.data)).setCell ⟨g, o + 11, none⟩ s
theorem flat_setn : ∀ (l : T.Row) (i : Nat) (p : T.Nd × Value) (n : T.Nd) (s : Value), l[i]? = some p →
    T.flat (l.set i (n, s)) = ((((((((((((T.flat l).set (i * 12) (.int .i64 n.no)).set (i * 12 + 1) (.int .i64 n.dev)).set (i * 12 + 2) (.int .i64 n.kind)).set (i * 12 + 3) (.int .i64 n.mode)).set (i * 12 + 4) (.int .i64 n.uid)).set (i * 12 + 5) (.int .i64 n.gid)).set (i * 12 + 6) (.int .i64 n.mt)).set (i * 12 + 7) (.int .i64 n.ct)).set (i * 12 + 8) (.int .i64 n.links)).set (i * 12 + 9) (.int .i64 n.up)).set (i * 12 + 10) (.string n.data)).set (i * 12 + 11) s
  | [], i, p, n, s, h => by simp at h
  | y :: ls, 0, p, n, s, h => by
    simp [T.flat, T.Nd.cs]
  | y :: ls, i + 1, p, n, s, h => by
    have h' : ls[i]? = some p := by simpa using h
    have e := flat_setn ls i p n s h'
    simp only [T.flat, List.set_cons_succ, List.flatMap_cons] at e ⊢
    rw [e]
    have c : ∀ (l : List Value) (j : Nat) (v : Value), (y.1.cs y.2 ++ l).set ((i + 1) * 12 + j) v = y.1.cs y.2 ++ l.set (i * 12 + j) v := fun l j v => by
      rw [List.set_append_right _ _ (by rw [T.cs_len]; omega), T.cs_len, show (i + 1) * 12 + j - 12 = i * 12 + j by omega]
    have c0 : ∀ (l : List Value) (v : Value), (y.1.cs y.2 ++ l).set ((i + 1) * 12) v = y.1.cs y.2 ++ l.set (i * 12) v := fun l v => c l 0 v
    rw [c0, c, c, c, c, c, c, c, c, c, c, c]
theorem row_frozen {B g cap : Nat} {l : T.Row} {w : World} (h : T.RowOwn B (.slice (some ⟨g, 0, none⟩) l.length cap) l w) (j : Nat) : w.frozen? ⟨g, j, none⟩ = false := World.ownsRow.frozenAt h j
theorem row_putn {B g cap i : Nat} {l : T.Row} {w : World} {p : T.Nd × Value} (h : T.RowOwn B (.slice (some ⟨g, 0, none⟩) l.length cap) l w) (hi : l[i]? = some p) (n : T.Nd) (s : Value) :
    T.RowOwn B (.slice (some ⟨g, 0, none⟩) l.length cap) (l.set i (n, s)) (putn w g (i * 12) n s) ∧ w.grownBy (putn w g (i * 12) n s) (some g) := by
  unfold T.RowOwn
  rw [flat_setn l i p n s hi, List.length_set]
  obtain ⟨h0, g0⟩ := World.ownsRow.stored h (i * 12) (.int .i64 n.no)
  obtain ⟨h1, g1⟩ := World.ownsRow.stored h0 (i * 12 + 1) (.int .i64 n.dev)
  obtain ⟨h2, g2⟩ := World.ownsRow.stored h1 (i * 12 + 2) (.int .i64 n.kind)
  obtain ⟨h3, g3⟩ := World.ownsRow.stored h2 (i * 12 + 3) (.int .i64 n.mode)
  obtain ⟨h4, g4⟩ := World.ownsRow.stored h3 (i * 12 + 4) (.int .i64 n.uid)
  obtain ⟨h5, g5⟩ := World.ownsRow.stored h4 (i * 12 + 5) (.int .i64 n.gid)
  obtain ⟨h6, g6⟩ := World.ownsRow.stored h5 (i * 12 + 6) (.int .i64 n.mt)
  obtain ⟨h7, g7⟩ := World.ownsRow.stored h6 (i * 12 + 7) (.int .i64 n.ct)
  obtain ⟨h8, g8⟩ := World.ownsRow.stored h7 (i * 12 + 8) (.int .i64 n.links)
  obtain ⟨h9, g9⟩ := World.ownsRow.stored h8 (i * 12 + 9) (.int .i64 n.up)
  obtain ⟨h10, g10⟩ := World.ownsRow.stored h9 (i * 12 + 10) (.string n.data)
  obtain ⟨h11, g11⟩ := World.ownsRow.stored h10 (i * 12 + 11) s
  exact ⟨h11, grown_trans (grown_trans (grown_trans (grown_trans (grown_trans (grown_trans (grown_trans (grown_trans (grown_trans (grown_trans (grown_trans g0 g1) g2) g3) g4) g5) g6) g7) g8) g9) g10) g11⟩
theorem set_repl {l : T.Row} {i : Nat} {p : T.Nd × Value} {n : T.Nd} {s : Value} (hr : T.Rise l) (hi : l[i]? = some p) (e : p.1.no = n.no) : l.set i (n, s) = T.repl l (n, s) := by
  refine List.ext_getElem? fun j => ?_
  unfold T.repl
  rw [List.getElem?_set, List.getElem?_map]
  have hil := (List.getElem?_eq_some_iff.1 hi).1
  split
  · rename_i hj
    subst hj
    rw [hi]
    simp [e]
  · rename_i hj
    cases hq : l[j]? with
    | none => rfl
    | some q =>
      have hne : q.1.no ≠ n.no := fun e2 => by
        have h1 := T.look_at hr hi
        have h2 := T.look_at hr hq
        obtain ⟨hjl, hjq⟩ := List.getElem?_eq_some_iff.1 hq
        obtain ⟨_, hip⟩ := List.getElem?_eq_some_iff.1 hi
        rcases Nat.lt_or_gt_of_ne hj with hlt | hlt
        · have := List.pairwise_iff_getElem.1 hr i j hil hjl hlt
          rw [hip, hjq] at this; omega
        · have := List.pairwise_iff_getElem.1 hr j i hjl hil hlt
          rw [hip, hjq] at this; omega
      simp [hne]
theorem rise_of {l : T.Row} {n : List T.Nd} (h : l.map Prod.fst = n) (hr : n.Pairwise fun p q => p.no < q.no) : T.Rise l := by
  rw [← h, List.pairwise_map] at hr
  exact hr
section
variable {B F : Nat} {nv dv : Value} {st : St} {w w' : World}
theorem fS_row {k : Nat} (h : nv.ownBlock = some k) : fS F nv dv k := .inr (.inl h)
theorem fS_dev {k : Nat} (h : dv.ownBlock = some k) : fS F nv dv k := .inr (.inr h)
/-- the reference's nodes turn, in their place -/
theorem Fs.noded (h : Fs B F nv dv st w) {l : T.Row} (hR : T.RowOwn B nv l w') (hO : ∀ p ∈ l, E.Own B p.2 p.1.es w') (hT : Turn (fun b => nv.ownBlock = some b) w w') : Fs B F nv dv ⟨st.last, l.map Prod.fst, st.d⟩ w' := by
  obtain ⟨l0, h1, h2, h3⟩ := h.nodes
  refine ⟨h.bf, ?_, ⟨l, rfl, hR, hO⟩, h.devs.same fun g hg => ?_⟩
  · refine (hT.block F h.ltF fun e => ?_).trans h.head
    obtain ⟨_, cur, hc⟩ := row_block h2 e
    exact ne_type h.head hc (by decide) rfl
  · obtain ⟨_, cur, hc⟩ := h.devs.block hg
    refine hT.block g (h.devs.lt hg) fun e => ?_
    obtain ⟨_, cur', hc'⟩ := row_block h2 e
    exact ne_type hc hc' (by decide) rfl
theorem Fs.entRow (h : Fs B F nv dv st w) (hT : Turn (fun b => nv.ownBlock = some b) w w') : T.EntKept w w' := h.entKept (hT.mono fun _ e => fS_row e)
set_option maxRecDepth 100000 in
set_option maxHeartbeats 8000000 in
theorem refSet_any (h : Fs B F nv dv st w) (hr : st.n.Pairwise fun p q => p.no < q.no) (n : T.Nd) (s : Value) (hS : E.Own B s n.es w) (hl : st.n.length ≤ 1000000) :
    Calls Try.prog 36 #[.pointer (some ⟨F, 0, none⟩), n.v s] w fun e w' =>
    e = .returned (.tuple #[]) ∧ Fs B F nv dv ⟨st.last, setN st.n n, st.d⟩ w' ∧ Turn (fS F nv dv) w w' := by
  obtain ⟨l, h1, h2, h3⟩ := h.nodes
  have hll : l.length = st.n.length := by rw [← h1, List.length_map]
  have hb1 : Below w.heap.size w (w.alloc (.cells #[.int .i64 n.no, .int .i64 n.dev, .int .i64 n.kind, .int .i64 n.mode, .int .i64 n.uid, .int .i64 n.gid, .int .i64 n.mt, .int .i64 n.ct, .int .i64 n.links, .int .i64 n.up, .string n.data, s] 71)) := (Below.refl _ _).alloc (Nat.le_refl _) _
  have B1 := T.BoxN.new n s w
  have hF := (h.below hb1).facts.1
  have c1 := At_row hF (h2.below hb1) n.no (by omega)
  have HR := Lib.hid (h2.below hb1)
  have HE := Lib.hid (fun p (hp : p ∈ l) => T.own_kept (h3 p hp) (T.EntKept.below hb1))
  have HS := Lib.hid (T.own_kept hS (T.EntKept.below hb1))
  have H1 := Lib.hid h1
  have HI := Lib.hid (rise_of h1 hr)
  have H := Lib.hid (h.below hb1)
  obtain ⟨oa, cap, rfl, _⟩ := h2.sees
  obtain ⟨os, cs, rfl⟩ := T.own_slice hS
  clear h h2 h3 hll hl h1 hr hS
  obtain ⟨no, dev, kind, mode, uid, gid, mt, ct, links, up, data, es⟩ := n
  dsimp only [T.Nd.v] at *
  go_enter Try.func36, Try.ntmps36
  go_upto_region 1 with fail
  generalize w.alloc (.cells #[.int .i64 no, .int .i64 dev, .int .i64 kind, .int .i64 mode, .int .i64 uid, .int .i64 gid, .int .i64 mt, .int .i64 ct, .int .i64 links, .int .i64 up, .string data, .slice os es.length cs] 71) = W1 at *
  obtain ⟨b0, hbd⟩ : ∃ b, w.heap.size = b := ⟨_, rfl⟩
  rw [hbd] at B1 ⊢
  clear hbd
  obtain ⟨a0, a1, a2, a3, a4, a5, a6, a7, a8, a9, a10, a11⟩ := B1.facts
  dsimp only at a0 a1 a2 a3 a4 a5 a6 a7 a8 a9 a10 a11
  go_upto_region 2 with (go_at_call 67; refine c1.mono ?_; rintro e w1 ⟨⟨z, rfl, hz⟩, rfl⟩)
  rcases hz with ⟨hz0, hn⟩ | ⟨i, p, rfl, hi, hn⟩
  · have hz1 : ¬ (0 ≤ z) := by omega
    have HN := Lib.hid hn
    clear hz0 hn
    go_wp2
    refine bodyPost_end (by simp [results, Try.results36]; rfl) rfl ?_
    have hg := gets_row H1.out (k := no)
    rw [HN.out] at hg
    rw [show setN st.n (⟨no, dev, kind, mode, uid, gid, mt, ct, links, up, data, es⟩ : T.Nd) = st.n from setN_none (by show (get st.n no).isSome = false; rw [hg]; rfl)]
    exact ⟨rfl, H.out, Turn.of_below hb1⟩
  · have hil : i < l.length := (List.getElem?_eq_some_iff.1 hi).1
    have hi0 : (0 : Int) ≤ (i : Int) := by omega
    have hi1 : (i : Int) < l.length := by omega
    have hR := HR.out
    obtain ⟨g, cap', he, hat⟩ := row_at hR hi
    cases he
    have f0 := row_frozen hR (i * 12)
    have f1 := row_frozen hR (i * 12 + 1)
    have f2 := row_frozen hR (i * 12 + 2)
    have f3 := row_frozen hR (i * 12 + 3)
    have f4 := row_frozen hR (i * 12 + 4)
    have f5 := row_frozen hR (i * 12 + 5)
    have f6 := row_frozen hR (i * 12 + 6)
    have f7 := row_frozen hR (i * 12 + 7)
    have f8 := row_frozen hR (i * 12 + 8)
    have f9 := row_frozen hR (i * 12 + 9)
    have f10 := row_frozen hR (i * 12 + 10)
    have f11 := row_frozen hR (i * 12 + 11)
    obtain ⟨q0, q1, q2, q3, q4, q5, q6, q7, q8, q9, q10, q11⟩ := hat.facts
    have HX := Lib.hid hi
    have HN := Lib.hid hn
    have hg : g < W1.heap.size := hat.lt
    have hb := B1.lt
    clear hR hi hn hat
    go_wp2
    go_region
    refine bodyPost_end (by simp [results, Try.results36]; rfl) rfl ?_
    obtain ⟨hR2, hgr⟩ := row_putn HR.out HX.out (⟨no, dev, kind, mode, uid, gid, mt, ct, links, up, data, es⟩ : T.Nd) (.slice os es.length cs)
    obtain ⟨_, hpn⟩ := T.look_some HN.out
    rw [set_repl HI.out HX.out hpn] at hR2
    have ht : Turn (fun b => (Value.slice (some ⟨g, 0, none⟩) l.length cap).ownBlock = some b) W1 _ := Turn.of_grown hgr rfl
    have hk := H.out.entRow ht
    have hF := H.out.noded (by simpa [T.length_repl] using hR2) (fun q hq => by
      rcases T.mem_repl hq with rfl | hq
      · exact T.own_kept HS.out hk
      · exact T.own_kept (HE.out q hq) hk) ht
    rw [fst_repl, H1.out] at hF
    exact ⟨rfl, hF.drew, (Turn.ahead hb1 (ht.mono fun _ e => fS_row e)).next ((Below.refl _ _).drew)⟩
end
end Go.Proofs.Ytmoimijclafgcaa.G
