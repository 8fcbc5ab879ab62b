/-
  A node's box, a field written; the reference's Touch.
-/
import Derived.Test.YtenopnfclbegbaaGreatBmath
import Derived.Test.YtenopnfclbegbaaGreatCred
import Derived.Test.YtenopnfclbegbaaGreatLnode
import Derived.Deep.RegionHeld3
namespace Go.Proofs.YtenopnfclbegbaaGreat.BR
open Go.RowKit Go.Shelf G
attribute [local go_sem] Oper.semAt_some

section
variable {b : Nat} {n : T.Nd} {s : Value} {w : World}
theorem box_dev (h : T.BoxN b n s w) (x : Int) : T.BoxN b { n with dev := x } s (w.setCell ⟨b, 1, none⟩ (.int .i64 x)) := by
  unfold T.BoxN at *
  simp [World.setCell, Array.getElem?_modify, h]
theorem box_uid (h : T.BoxN b n s w) (x : Int) : T.BoxN b { n with uid := x } s (w.setCell ⟨b, 4, none⟩ (.int .i64 x)) := by
  unfold T.BoxN at *
  simp [World.setCell, Array.getElem?_modify, h]
theorem box_gid (h : T.BoxN b n s w) (x : Int) : T.BoxN b { n with gid := x } s (w.setCell ⟨b, 5, none⟩ (.int .i64 x)) := by
  unfold T.BoxN at *
  simp [World.setCell, Array.getElem?_modify, h]
theorem box_mt (h : T.BoxN b n s w) (x : Int) : T.BoxN b { n with mt := x } s (w.setCell ⟨b, 6, none⟩ (.int .i64 x)) := by
  unfold T.BoxN at *
  simp [World.setCell, Array.getElem?_modify, h]
theorem box_ct (h : T.BoxN b n s w) (x : Int) : T.BoxN b { n with ct := x } s (w.setCell ⟨b, 7, none⟩ (.int .i64 x)) := by
  unfold T.BoxN at *
  simp [World.setCell, Array.getElem?_modify, h]
theorem box_links (h : T.BoxN b n s w) (x : Int) : T.BoxN b { n with links := x } s (w.setCell ⟨b, 8, none⟩ (.int .i64 x)) := by
  unfold T.BoxN at *
  simp [World.setCell, Array.getElem?_modify, h]
theorem box_es (h : T.BoxN b n s w) (es : List E.Ent) (u : Value) : T.BoxN b { n with es := es } u (w.setCell ⟨b, 11, none⟩ u) := by
  unfold T.BoxN at *
  simp [World.setCell, Array.getElem?_modify, h]
end
section
variable {B F : Nat} {ex : Ext} {nv dv : Value} {st : St} {w w' : World}
theorem Fs.now (h : Fs ex B F nv dv st w) : w.cell? ⟨F, 3, none⟩ = some (.int .i64 ex.now) := by rw [Lib.cell_of_heap h.head]; rfl
theorem Fs.nvlt (h : Fs ex B F nv dv st w) : ∀ g, nv.ownBlock = some g → g < w.heap.size := fun _ hg => h.lt (.inr (.inl hg))
set_option maxRecDepth 100000 in
set_option maxHeartbeats 16000000 in
theorem refTouch_any (hI : Inv st) (hF : Fs ex B F nv dv st w) (hl : st.n.length ≤ 1000000) (k : Int) {s : Value} {es : List E.Ent} (hS : E.Own B s es w) :
    Calls Tryz.prog 54 #[.pointer (some ⟨F, 0, none⟩), .int .i64 k, s] w fun e w' =>
      e = .returned (.tuple #[]) ∧ Fs ex B F nv dv (touch st k es ex.now) w' ∧ Turn (fS F nv dv) w w' := by
  have cG := refGet_any hF k hl
  obtain ⟨os, cs, rfl⟩ := T.own_slice hS
  have htd : touch st k es ex.now = ⟨st.last, setN st.n (touched (gets st.n k) es ex.now), st.d⟩ := rfl
  rw [htd]
  clear htd
  generalize gets st.n k = nd at *
  obtain ⟨no, dev, kind, mode, uid, gid, mt, ct, links, up, data, ens⟩ := nd
  dsimp only [T.Nd.v, touched] at cG ⊢
  go_enter Tryz.func54, Tryz.ntmps54
  go_upto_region 1 with (go_at_call 12; refine cG.mono ?_; rintro e W2 ⟨u, rfl, hO2, hb2⟩; obtain ⟨ou, cu, rfl⟩ := T.own_slice hO2; have N2 := T.BoxN.new ⟨no, dev, kind, mode, uid, gid, mt, ct, links, up, data, ens⟩ (.slice ou ens.length cu) W2)
  have hal : Below W2.heap.size W2 (W2.alloc (.cells #[.int .i64 no, .int .i64 dev, .int .i64 kind, .int .i64 mode, .int .i64 uid, .int .i64 gid, .int .i64 mt, .int .i64 ct, .int .i64 links, .int .i64 up, .string data, .slice ou ens.length cu] 48)) := (Below.refl _ _).alloc (Nat.le_refl _) _
  have hb3 := below_two hb2 hal
  have hS3 := hS.below hb3
  have hF3 := hF.below hb3
  have hnb : ∀ g, nv.ownBlock = some g → g ≠ W2.heap.size := fun g hg => by have := Fs.nvlt hF g hg; have := hb2.size; omega
  have hbs : w.heap.size ≤ W2.heap.size := hb2.size
  generalize W2.heap.size = b2 at *
  generalize W2.alloc (.cells #[.int .i64 no, .int .i64 dev, .int .i64 kind, .int .i64 mode, .int .i64 uid, .int .i64 gid, .int .i64 mt, .int .i64 ct, .int .i64 links, .int .i64 up, .string data, .slice ou ens.length cu] 48) = W3 at *
  clear hal hb2 hO2 cG hS hF
  obtain ⟨a0, a1, a2, a3, a4, a5, a6, a7, a8, a9, a10, a11⟩ := N2.facts
  obtain ⟨f0, f1, f2, f3, f4, f5, f6, f7, f8, f9, f10, f11⟩ := N2.open
  dsimp only at a0 a1 a2 a3 a4 a5 a6 a7 a8 a9 a10 a11
  go_upto_region 2 with fail
  have N3 := box_es N2 es (.slice os es.length cs)
  have hF4 := hF3.boxed N2 hnb 11 (.slice os es.length cs)
  have hS4 := T.own_kept hS3 (T.entKept_set N2 (by decide) 11 (.slice os es.length cs))
  have hb4 := hb3.setCell (p := ⟨b2, 11, none⟩) hbs (.slice os es.length cs)
  generalize W3.setCell ⟨b2, 11, none⟩ (.slice os es.length cs) = W4 at *
  clear a0 a1 a2 a3 a4 a5 a6 a7 a8 a9 a10 a11 f0 f1 f2 f3 f4 f5 f6 f7 f8 f9 f10 f11 N2 hF3 hS3 hb3
  obtain ⟨a0, a1, a2, a3, a4, a5, a6, a7, a8, a9, a10, a11⟩ := N3.facts
  obtain ⟨f0, f1, f2, f3, f4, f5, f6, f7, f8, f9, f10, f11⟩ := N3.open
  dsimp only at a0 a1 a2 a3 a4 a5 a6 a7 a8 a9 a10 a11
  have x3 := Fs.now hF4
  go_upto_region 3 with fail
  have N4 := box_mt N3 ex.now
  have hF5 := hF4.boxed N3 hnb 6 (.int .i64 ex.now)
  have hS5 := T.own_kept hS4 (T.entKept_set N3 (by decide) 6 (.int .i64 ex.now))
  have hb5 := hb4.setCell (p := ⟨b2, 6, none⟩) hbs (.int .i64 ex.now)
  generalize W4.setCell ⟨b2, 6, none⟩ (.int .i64 ex.now) = W5 at *
  clear a0 a1 a2 a3 a4 a5 a6 a7 a8 a9 a10 a11 f0 f1 f2 f3 f4 f5 f6 f7 f8 f9 f10 f11 N3 hF4 hS4 hb4 x3
  obtain ⟨a0, a1, a2, a3, a4, a5, a6, a7, a8, a9, a10, a11⟩ := N4.facts
  obtain ⟨f0, f1, f2, f3, f4, f5, f6, f7, f8, f9, f10, f11⟩ := N4.open
  dsimp only at a0 a1 a2 a3 a4 a5 a6 a7 a8 a9 a10 a11
  have x3 := Fs.now hF5
  go_upto_region 4 with fail
  have N5 := box_ct N4 ex.now
  have hF6 := hF5.boxed N4 hnb 7 (.int .i64 ex.now)
  have hS6 := T.own_kept hS5 (T.entKept_set N4 (by decide) 7 (.int .i64 ex.now))
  have hb6 := hb5.setCell (p := ⟨b2, 7, none⟩) hbs (.int .i64 ex.now)
  generalize W5.setCell ⟨b2, 7, none⟩ (.int .i64 ex.now) = W6 at *
  clear a0 a1 a2 a3 a4 a5 a6 a7 a8 a9 a10 a11 f0 f1 f2 f3 f4 f5 f6 f7 f8 f9 f10 f11 N4 hF5 hS5 hb5 x3
  obtain ⟨a0, a1, a2, a3, a4, a5, a6, a7, a8, a9, a10, a11⟩ := N5.facts
  dsimp only at a0 a1 a2 a3 a4 a5 a6 a7 a8 a9 a10 a11
  have cS := refSet_any hF6 hI.rise ⟨no, dev, kind, mode, uid, gid, ex.now, ex.now, links, up, data, es⟩ (.slice os es.length cs) hS6 hl
  dsimp only [T.Nd.v] at cS
  go_wp2_with (go_at_call 51; refine cS.mono ?_; rintro e W7 ⟨rfl, hF7, ht7⟩)
  refine bodyPost_end (by simp [results, Tryz.results54]; rfl) rfl ?_
  exact ⟨rfl, hF7, Turn.ahead hb6 ht7⟩
end
end Go.Proofs.YtenopnfclbegbaaGreat.BR
