/-
  A node whose names lie where the caller has them: the reference's Set, Touch and Get.
-/
import Derived.Test.YtenopnfclbegbaaRtouch
import Derived.BigRegion
namespace Go.Proofs.Ytenopnfclbegbaa.BR
open Go.RowKit Go.Shelf G
attribute [local go_sem] Oper.semAt_some

theorem look_repl {l : T.Row} {q : T.Nd × Value} (h : (T.look l q.1.no).isSome = true) : T.look (T.repl l q) q.1.no = some q := by
  induction l with
  | nil => cases h
  | cons x r ih =>
    unfold T.look T.repl at *
    by_cases e : x.1.no = q.1.no
    · rw [List.map_cons, if_pos e, List.find?_cons_of_pos (by simp)]
    · rw [List.find?_cons_of_neg (by simpa using e)] at h
      rw [List.map_cons, if_neg e, List.find?_cons_of_neg (by simpa using e)]
      exact ih h
/-- the reference's nodes, one of which is told -/
def Loose (B F : Nat) (nv : Value) (st : St) (n : T.Nd) (s : Value) (w : World) : Prop :=
  ∃ l, l.length = st.n.length ∧ T.RowOwn B nv l w ∧ T.look l n.no = some (n, s) ∧ w.cell? ⟨F, 0, none⟩ = some nv
theorem Loose.below {B F : Nat} {nv : Value} {st : St} {n : T.Nd} {s : Value} {w w' : World} (h : Loose B F nv st n s w) (hb : Below w.heap.size w w') : Loose B F nv st n s w' := by
  obtain ⟨l, h1, h2, h3, h4⟩ := h
  exact ⟨l, h1, h2.below hb, h3, (hb.cell (p := ⟨F, 0, none⟩) (World.block_lt_of_cell? _ _ h4)).trans h4⟩
section
variable {B F : Nat} {ex : Ext} {nv dv : Value} {st : St} {w w' : World}
theorem head_row (h : Fs ex B F nv dv st w) (hT : Turn (fun b => nv.ownBlock = some b) w w') : w'.cell? ⟨F, 0, none⟩ = some nv := by
  obtain ⟨l0, h1, h2, h3⟩ := h.nodes
  have hb := (hT.block F h.ltF fun e => by
    obtain ⟨_, cur, hc⟩ := row_block h2 e
    exact ne_type h.head hc (by decide) rfl).trans h.head
  rw [Lib.cell_of_heap hb]; rfl
set_option maxRecDepth 100000 in
set_option maxHeartbeats 8000000 in
theorem refSet_row (h : Fs ex B F nv dv st w) (hr : st.n.Pairwise fun p q => p.no < q.no) (n : T.Nd) (os : Option Addr) (cs : Nat) (hsome : (get st.n n.no).isSome = true) (hl : st.n.length ≤ 1000000) :
    Calls Try.prog 24 #[.pointer (some ⟨F, 0, none⟩), n.v (.slice os n.es.length cs)] w fun e w' =>
    e = .returned (.tuple #[]) ∧ Loose B F nv st n (.slice os n.es.length cs) w' ∧ Turn (fS F nv dv) w w' := by
  obtain ⟨l, h1, h2, h3⟩ := h.nodes
  have hll : l.length = st.n.length := by rw [← h1, List.length_map]
  have hb1 : Below w.heap.size w (w.alloc (.cells #[.int .i64 n.no, .int .i64 n.dev, .int .i64 n.kind, .int .i64 n.mode, .int .i64 n.uid, .int .i64 n.gid, .int .i64 n.mt, .int .i64 n.ct, .int .i64 n.links, .int .i64 n.up, .string n.data, .slice os n.es.length cs] 38)) := (Below.refl _ _).alloc (Nat.le_refl _) _
  have B1 := T.BoxN.new n (.slice os n.es.length cs) w
  have hF := (h.below hb1).facts.1
  have c1 := At_row hF (h2.below hb1) n.no (by omega)
  have HR := Lib.hid (h2.below hb1)
  have HSO := Lib.hid hsome
  have H1 := Lib.hid h1
  have HI := Lib.hid (rise_of h1 hr)
  have H := Lib.hid (h.below hb1)
  obtain ⟨oa, cap, rfl, _⟩ := h2.sees
  clear h h2 h3 hll hl h1 hr hsome
  obtain ⟨no, dev, kind, mode, uid, gid, mt, ct, links, up, data, es⟩ := n
  dsimp only [T.Nd.v] at *
  go_enter Try.func24, Try.ntmps24
  go_upto_region 1 with fail
  generalize w.alloc (.cells #[.int .i64 no, .int .i64 dev, .int .i64 kind, .int .i64 mode, .int .i64 uid, .int .i64 gid, .int .i64 mt, .int .i64 ct, .int .i64 links, .int .i64 up, .string data, .slice os es.length cs] 38) = W1 at *
  obtain ⟨b0, hbd⟩ : ∃ b, w.heap.size = b := ⟨_, rfl⟩
  rw [hbd] at B1 ⊢
  clear hbd
  obtain ⟨a0, a1, a2, a3, a4, a5, a6, a7, a8, a9, a10, a11⟩ := B1.facts
  dsimp only at a0 a1 a2 a3 a4 a5 a6 a7 a8 a9 a10 a11
  go_upto_region 2 with (go_at_call 21; refine c1.mono ?_; rintro e w1 ⟨⟨z, rfl, hz⟩, rfl⟩)
  rcases hz with ⟨hz0, hn⟩ | ⟨i, p, rfl, hi, hn⟩
  · have hg := gets_row H1.out (k := no)
    rw [hn] at hg
    have h9 := HSO.out
    rw [hg] at h9
    cases h9
  · have hil : i < l.length := (List.getElem?_eq_some_iff.1 hi).1
    have hi0 : (0 : Int) ≤ (i : Int) := by omega
    have hi1 : (i : Int) < l.length := by omega
    have hR := HR.out
    obtain ⟨g, cap', he, hat⟩ := row_at hR hi
    cases he
    have f0 := row_frozen hR (i * 12)
    have f1 := row_frozen hR (i * 12 + 1)
    have f2 := row_frozen hR (i * 12 + 2)
    have f3 := row_frozen hR (i * 12 + 3)
    have f4 := row_frozen hR (i * 12 + 4)
    have f5 := row_frozen hR (i * 12 + 5)
    have f6 := row_frozen hR (i * 12 + 6)
    have f7 := row_frozen hR (i * 12 + 7)
    have f8 := row_frozen hR (i * 12 + 8)
    have f9 := row_frozen hR (i * 12 + 9)
    have f10 := row_frozen hR (i * 12 + 10)
    have f11 := row_frozen hR (i * 12 + 11)
    obtain ⟨q0, q1, q2, q3, q4, q5, q6, q7, q8, q9, q10, q11⟩ := hat.facts
    have HX := Lib.hid hi
    have HN := Lib.hid hn
    have hg : g < W1.heap.size := hat.lt
    have hb := B1.lt
    clear hR hi hn hat
    go_wp2
    go_region
    refine bodyPost_end (by simp [results, Try.results24]; rfl) rfl ?_
    obtain ⟨hR2, hgr⟩ := row_putn HR.out HX.out (⟨no, dev, kind, mode, uid, gid, mt, ct, links, up, data, es⟩ : T.Nd) (.slice os es.length cs)
    obtain ⟨_, hpn⟩ := T.look_some HN.out
    rw [set_repl HI.out HX.out hpn] at hR2
    have ht : Turn (fun b => (Value.slice (some ⟨g, 0, none⟩) l.length cap).ownBlock = some b) W1 _ := Turn.of_grown hgr rfl
    have hlook := look_repl (l := l) (q := ((⟨no, dev, kind, mode, uid, gid, mt, ct, links, up, data, es⟩ : T.Nd), .slice os es.length cs)) (by show (T.look l no).isSome = true; rw [HN.out]; rfl)
    have hc0 := head_row H.out ht
    refine ⟨rfl, Loose.below ⟨_, ?_, (by simpa [T.length_repl] using hR2), hlook, hc0⟩ ((Below.refl _ _).drew), (Turn.ahead hb1 (ht.mono fun _ e => fS_row e)).next ((Below.refl _ _).drew)⟩
    rw [T.length_repl, ← H1.out, List.length_map]
set_option maxRecDepth 100000 in
set_option maxHeartbeats 8000000 in
theorem refGet_row {n : T.Nd} {os : Option Addr} {cs : Nat} (h : Loose B F nv st n (.slice os n.es.length cs) w) (hl : st.n.length ≤ 1000000) : Calls Try.prog 8 #[.pointer (some ⟨F, 0, none⟩), .int .i64 n.no] w fun e w' =>
    e = .returned (n.v (.slice os n.es.length cs)) ∧ Below w.heap.size w w' := by
  obtain ⟨l, hll, h2, hlk, hc⟩ := h
  have hb1 : Below w.heap.size w (w.alloc (.cells #[.int .i64 0, .int .i64 0, .int .i64 0, .int .i64 0, .int .i64 0, .int .i64 0, .int .i64 0, .int .i64 0, .int .i64 0, .int .i64 0, .string ⟨#[]⟩, .slice none 0 0] 38)) := (Below.refl _ _).alloc (Nat.le_refl _) _
  have B1 := T.BoxN.new T.Nd.zero (.slice none 0 0) w
  dsimp only [T.Nd.zero] at B1
  have hF := (hb1.cell (p := ⟨F, 0, none⟩) (World.block_lt_of_cell? _ _ hc)).trans hc
  have c1 := At_row hF (h2.below hb1) n.no (by omega)
  have HR := Lib.hid (h2.below hb1)
  have HK := Lib.hid hlk
  obtain ⟨oa, cap, rfl, _⟩ := h2.sees
  clear h2 hll hl hlk hc
  go_enter Try.func8, Try.ntmps8
  go_upto_region 1 with fail
  generalize w.alloc (.cells #[.int .i64 0, .int .i64 0, .int .i64 0, .int .i64 0, .int .i64 0, .int .i64 0, .int .i64 0, .int .i64 0, .int .i64 0, .int .i64 0, .string ⟨#[]⟩, .slice none 0 0] 38) = W1 at *
  obtain ⟨b0, hbd⟩ : ∃ b, w.heap.size = b := ⟨_, rfl⟩
  rw [hbd] at B1 hb1 ⊢
  have HB := Lib.hid hbd
  clear hbd
  go_upto_region 2 with (go_at_call 21; refine c1.mono ?_; rintro e w1 ⟨⟨z, rfl, hz⟩, rfl⟩)
  obtain ⟨f0, f1, f2, f3, f4, f5, f6, f7, f8, f9, f10, f11⟩ := B1.open
  obtain ⟨a0, a1, a2, a3, a4, a5, a6, a7, a8, a9, a10, a11⟩ := B1.facts
  dsimp only at a0 a1 a2 a3 a4 a5 a6 a7 a8 a9 a10 a11
  rcases hz with ⟨hz0, hn⟩ | ⟨i, p, rfl, hi, hn⟩
  · rw [HK.out] at hn; cases hn
  · obtain rfl : p = (n, .slice os n.es.length cs) := by have := hn.symm.trans HK.out; cases this; rfl
    have hil : i < l.length := (List.getElem?_eq_some_iff.1 hi).1
    have hi0 : ¬ (i : Int) < 0 := by omega
    have hi1 : (i : Int) < l.length := by omega
    obtain ⟨g, cap', he, hat⟩ := row_at HR.out hi
    cases he
    obtain ⟨no, dev, kind, mode, uid, gid, mt, ct, links, up, data, es⟩ := n
    obtain ⟨q0, q1, q2, q3, q4, q5, q6, q7, q8, q9, q10, q11⟩ := hat.facts
    dsimp only at q0 q1 q2 q3 q4 q5 q6 q7 q8 q9 q10 q11
    have HI := Lib.hid hi
    clear hat hi hn HK
    go_wp2
    have D3 := B1.fill ⟨no, dev, kind, mode, uid, gid, mt, ct, links, up, data, es⟩ (.slice os es.length cs)
    have hb4 := hb1.trans (T.below_fill (Nat.le_refl b0) W1 ⟨no, dev, kind, mode, uid, gid, mt, ct, links, up, data, es⟩ (.slice os es.length cs))
    unfold T.fill at D3 hb4
    dsimp only at D3 hb4
    generalize World.setCell _ _ _ = W4 at D3 hb4 ⊢
    obtain ⟨g0, g1, g2, g3, g4, g5, g6, g7, g8, g9, g10, g11⟩ := D3.facts
    refine bodyPost_ret (by simp [results, Try.results8, go_sem, g0, g1, g2, g3, g4, g5, g6, g7, g8, g9, g10, g11]; rfl) rfl ?_
    exact ⟨rfl, HB.out ▸ hb4⟩
set_option maxRecDepth 100000 in
set_option maxHeartbeats 16000000 in
theorem refTouch_row (hI : Inv st) (hF : Fs ex B F nv dv st w) (hl : st.n.length ≤ 1000000) (k : Int) (hk : (get st.n k).isSome = true) (es : List E.Ent) (os : Option Addr) (cs : Nat) :
    Calls Try.prog 10 #[.pointer (some ⟨F, 0, none⟩), .int .i64 k, .slice os es.length cs] w fun e w' =>
      e = .returned (.tuple #[]) ∧ Loose B F nv st (touched (gets st.n k) es ex.now) (.slice os es.length cs) w' ∧ Turn (fS F nv dv) w w' := by
  have cG := refGet_any hF k hl
  have hno : (gets st.n k).no = k := by
    obtain ⟨x, hx⟩ := Option.isSome_iff_exists.1 hk
    rw [gets_some hx]; exact (get_some hx).2
  generalize gets st.n k = nd at *
  obtain ⟨no, dev, kind, mode, uid, gid, mt, ct, links, up, data, ens⟩ := nd
  dsimp only at hno
  subst hno
  dsimp only [T.Nd.v, touched] at cG ⊢
  go_enter Try.func10, Try.ntmps10
  go_upto_region 1 with (go_at_call 8; refine cG.mono ?_; rintro e W2 ⟨u, rfl, hO2, hb2⟩; obtain ⟨ou, cu, rfl⟩ := T.own_slice hO2; have N2 := T.BoxN.new ⟨no, dev, kind, mode, uid, gid, mt, ct, links, up, data, ens⟩ (.slice ou ens.length cu) W2)
  have hal : Below W2.heap.size W2 (W2.alloc (.cells #[.int .i64 no, .int .i64 dev, .int .i64 kind, .int .i64 mode, .int .i64 uid, .int .i64 gid, .int .i64 mt, .int .i64 ct, .int .i64 links, .int .i64 up, .string data, .slice ou ens.length cu] 38)) := (Below.refl _ _).alloc (Nat.le_refl _) _
  have hb3 := below_two hb2 hal
  have hF3 := hF.below hb3
  have hnb : ∀ g, nv.ownBlock = some g → g ≠ W2.heap.size := fun g hg => by have := Fs.nvlt hF g hg; have := hb2.size; omega
  have hbs : w.heap.size ≤ W2.heap.size := hb2.size
  generalize W2.heap.size = b2 at *
  generalize W2.alloc (.cells #[.int .i64 no, .int .i64 dev, .int .i64 kind, .int .i64 mode, .int .i64 uid, .int .i64 gid, .int .i64 mt, .int .i64 ct, .int .i64 links, .int .i64 up, .string data, .slice ou ens.length cu] 38) = W3 at *
  clear hal hb2 hO2 cG hF
  obtain ⟨a0, a1, a2, a3, a4, a5, a6, a7, a8, a9, a10, a11⟩ := N2.facts
  obtain ⟨f0, f1, f2, f3, f4, f5, f6, f7, f8, f9, f10, f11⟩ := N2.open
  dsimp only at a0 a1 a2 a3 a4 a5 a6 a7 a8 a9 a10 a11
  go_upto_region 2 with fail
  have N3 := box_es N2 es (.slice os es.length cs)
  have hF4 := hF3.boxed N2 hnb 11 (.slice os es.length cs)
  have hb4 := hb3.setCell (p := ⟨b2, 11, none⟩) hbs (.slice os es.length cs)
  generalize W3.setCell ⟨b2, 11, none⟩ (.slice os es.length cs) = W4 at *
  clear a0 a1 a2 a3 a4 a5 a6 a7 a8 a9 a10 a11 f0 f1 f2 f3 f4 f5 f6 f7 f8 f9 f10 f11 N2 hF3 hb3
  obtain ⟨a0, a1, a2, a3, a4, a5, a6, a7, a8, a9, a10, a11⟩ := N3.facts
  obtain ⟨f0, f1, f2, f3, f4, f5, f6, f7, f8, f9, f10, f11⟩ := N3.open
  dsimp only at a0 a1 a2 a3 a4 a5 a6 a7 a8 a9 a10 a11
  have x3 := Fs.now hF4
  go_upto_region 3 with fail
  have N4 := box_mt N3 ex.now
  have hF5 := hF4.boxed N3 hnb 6 (.int .i64 ex.now)
  have hb5 := hb4.setCell (p := ⟨b2, 6, none⟩) hbs (.int .i64 ex.now)
  generalize W4.setCell ⟨b2, 6, none⟩ (.int .i64 ex.now) = W5 at *
  clear a0 a1 a2 a3 a4 a5 a6 a7 a8 a9 a10 a11 f0 f1 f2 f3 f4 f5 f6 f7 f8 f9 f10 f11 N3 hF4 hb4 x3
  obtain ⟨a0, a1, a2, a3, a4, a5, a6, a7, a8, a9, a10, a11⟩ := N4.facts
  obtain ⟨f0, f1, f2, f3, f4, f5, f6, f7, f8, f9, f10, f11⟩ := N4.open
  dsimp only at a0 a1 a2 a3 a4 a5 a6 a7 a8 a9 a10 a11
  have x3 := Fs.now hF5
  go_upto_region 4 with fail
  have N5 := box_ct N4 ex.now
  have hF6 := hF5.boxed N4 hnb 7 (.int .i64 ex.now)
  have hb6 := hb5.setCell (p := ⟨b2, 7, none⟩) hbs (.int .i64 ex.now)
  generalize W5.setCell ⟨b2, 7, none⟩ (.int .i64 ex.now) = W6 at *
  clear a0 a1 a2 a3 a4 a5 a6 a7 a8 a9 a10 a11 f0 f1 f2 f3 f4 f5 f6 f7 f8 f9 f10 f11 N4 hF5 hb5 x3
  obtain ⟨a0, a1, a2, a3, a4, a5, a6, a7, a8, a9, a10, a11⟩ := N5.facts
  dsimp only at a0 a1 a2 a3 a4 a5 a6 a7 a8 a9 a10 a11
  have cS := refSet_row hF6 hI.rise ⟨no, dev, kind, mode, uid, gid, ex.now, ex.now, links, up, data, es⟩ os cs hk hl
  dsimp only [T.Nd.v] at cS
  go_wp2_with (go_at_call 24; refine cS.mono ?_; rintro e W7 ⟨rfl, hL7, ht7⟩)
  refine bodyPost_end (by simp [results, Try.results10]; rfl) rfl ?_
  exact ⟨rfl, hL7, Turn.ahead hb6 ht7⟩
end
end Go.Proofs.Ytenopnfclbegbaa.BR
