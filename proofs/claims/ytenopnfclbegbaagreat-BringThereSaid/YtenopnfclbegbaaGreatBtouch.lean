/-
  Package bring: Touch, holds, fineMode.
-/
import Derived.Test.YtenopnfclbegbaaGreatBprog
import Derived.Test.YtenopnfclbegbaaGreatRtouch
import Derived.Test.YtenopnfclbegbaaGreatEfind
import Derived.Deep.RegionHeld3
namespace Go.Proofs.YtenopnfclbegbaaGreat.BR
open Go.RowKit Go.Shelf G
open P (CrBox onlyIf)
attribute [local go_sem] Oper.semAt_some

theorem fits_of {ls : List E.Ent} (h : ls.length ≤ 200000) : T.Fits ls := by unfold T.Fits; omega
section
variable {B X A M : Nat} {mv : Value} {st : St} {w : World}
set_option maxRecDepth 100000 in
set_option maxHeartbeats 16000000 in
theorem Touch_any (h : Wd B X A M mv st w) (k t : Int) (hk : T.Wf k) (hd : kindE st k = 0) (hno : (gets st.n k).no = k) {s : Value} {es : List E.Ent} (hS : E.Sees s es w) (hl : T.Fits es) (hlen : st.n.length < 1000000) :
    Calls Tryz.prog 39 #[.pointer (some ⟨X, 0, none⟩), .int .i64 k, .int .i64 t, s] w fun e w' =>
      e = .returned (.tuple #[]) ∧ Wd B X A M mv (touch st k es t) w' ∧ Turn (wS X A M mv) w w' := by
  have cD := directory_any h k hk
  rw [hd, P.only_ok] at cD
  obtain ⟨os, cs, rfl⟩ : ∃ os cs, s = .slice os es.length cs := by obtain ⟨oa, c, rfl, _⟩ := hS; exact ⟨_, _, rfl⟩
  have htd : touch st k es t = ⟨st.last, setN st.n (touched (gets st.n k) es t), st.d⟩ := rfl
  rw [htd]
  clear htd
  generalize gets st.n k = nd at *
  obtain ⟨no, dev, kind, mode, uid, gid, mt, ct, links, up, data, ens⟩ := nd
  dsimp only at hno
  subst hno
  dsimp only [T.Nd.v, touched] at cD ⊢
  go_enter Tryz.func39, Tryz.ntmps39
  go_upto_region 1 with (go_at_call 55; refine cD.mono ?_; rintro e W2 ⟨u, rfl, hO2, hb2⟩; obtain ⟨ou, cu, rfl⟩ := T.own_slice hO2; have N2 := T.BoxN.new ⟨no, dev, kind, mode, uid, gid, mt, ct, links, up, data, ens⟩ (.slice ou ens.length cu) W2)
  have hal : Below W2.heap.size W2 (W2.alloc (.cells #[.int .i64 no, .int .i64 dev, .int .i64 kind, .int .i64 mode, .int .i64 uid, .int .i64 gid, .int .i64 mt, .int .i64 ct, .int .i64 links, .int .i64 up, .string data, .slice ou ens.length cu] 48)) := (Below.refl _ _).alloc (Nat.le_refl _) _
  have hb3 := below_two hb2 hal
  have hbs : w.heap.size ≤ W2.heap.size := hb2.size
  generalize W2.heap.size = b2 at *
  generalize W2.alloc (.cells #[.int .i64 no, .int .i64 dev, .int .i64 kind, .int .i64 mode, .int .i64 uid, .int .i64 gid, .int .i64 mt, .int .i64 ct, .int .i64 links, .int .i64 up, .string data, .slice ou ens.length cu] 48) = W3 at *
  clear hal hb2 hO2 cD
  obtain ⟨a0, a1, a2, a3, a4, a5, a6, a7, a8, a9, a10, a11⟩ := N2.facts
  obtain ⟨f0, f1, f2, f3, f4, f5, f6, f7, f8, f9, f10, f11⟩ := N2.open
  dsimp only at a0 a1 a2 a3 a4 a5 a6 a7 a8 a9 a10 a11
  go_upto_region 3 with fail
  have N5 := box_ct (box_mt (box_es N2 es (.slice os es.length cs)) t) t
  dsimp only at N5
  have hb5 := ((hb3.setCell (p := ⟨b2, 11, none⟩) hbs (.slice os es.length cs)).setCell (p := ⟨b2, 6, none⟩) hbs (.int .i64 t)).setCell (p := ⟨b2, 7, none⟩) hbs (.int .i64 t)
  generalize ((W3.setCell ⟨b2, 11, none⟩ (.slice os es.length cs)).setCell ⟨b2, 6, none⟩ (.int .i64 t)).setCell ⟨b2, 7, none⟩ (.int .i64 t) = W5 at *
  clear a0 a1 a2 a3 a4 a5 a6 a7 a8 a9 a10 a11 f0 f1 f2 f3 f4 f5 f6 f7 f8 f9 f10 f11 N2 hb3
  have hdr : Below W5.heap.size W5 W5.drew := (Below.refl _ _).drew
  have hb6 := below_two hb5 hdr
  have D10 := N5.below hdr
  have H10 := h.below hb6
  have cS := Set_st H10 ⟨no, dev, kind, mode, uid, gid, t, t, links, up, data, es⟩ (.slice os es.length cs) (hS.below hb6) hl hk hlen
  dsimp only [T.Nd.v] at cS
  have x0 := H10.head1
  clear h hS hl hd N5 hdr hb5
  go_region_held3 (fun w' => w'.cell? ⟨b2, 0, none⟩ = some (.int .i64 no) ∧ w'.cell? ⟨b2, 1, none⟩ = some (.int .i64 dev) ∧ w'.cell? ⟨b2, 2, none⟩ = some (.int .i64 kind) ∧ w'.cell? ⟨b2, 3, none⟩ = some (.int .i64 mode) ∧
      w'.cell? ⟨b2, 4, none⟩ = some (.int .i64 uid) ∧ w'.cell? ⟨b2, 5, none⟩ = some (.int .i64 gid) ∧ w'.cell? ⟨b2, 6, none⟩ = some (.int .i64 t) ∧ w'.cell? ⟨b2, 7, none⟩ = some (.int .i64 t) ∧
      w'.cell? ⟨b2, 8, none⟩ = some (.int .i64 links) ∧ w'.cell? ⟨b2, 9, none⟩ = some (.int .i64 up) ∧ w'.cell? ⟨b2, 10, none⟩ = some (.string data) ∧ w'.cell? ⟨b2, 11, none⟩ = some (.slice os es.length cs) ∧ w'.cell? ⟨X, 0, none⟩ = some (.pointer (some ⟨A, 0, none⟩)))
    (with_reducible first | exact and12 D11.facts H11.head1 | exact and12 D10.facts x0)
    (first | (go_at_call 38; refine cS.mono ?_; rintro e w11 ⟨rfl, H11, t11⟩; have D11 := box_turn D10 H10 t11.tab (fun _ e => e)))
  refine bodyPost_end (by simp [results, Tryz.results39]; rfl) rfl ?_
  exact ⟨rfl, H11, Turn.ahead hb6 t11.tab⟩
set_option maxRecDepth 100000 in
set_option maxHeartbeats 4000000 in
theorem holds_any (nd : T.Nd) {s : Value} {w : World} (hS : E.Sees s nd.es w) (hu : E.Up nd.es) (hl : nd.es.length ≤ 100000) (p : List UInt8) :
    Calls Tryz.prog 37 #[nd.v s, .string ⟨p.toArray⟩] w fun e w' => e = .returned (.bool (E.numOf nd.es p != 0)) ∧ Below w.heap.size w w' := by
  obtain ⟨no, dev, kind, mode, uid, gid, mt, ct, links, up, data, es⟩ := nd
  dsimp only [T.Nd.v] at *
  obtain ⟨os, cs, rfl⟩ : ∃ os cs, s = .slice os es.length cs := by obtain ⟨oa, c, rfl, _⟩ := hS; exact ⟨_, _, rfl⟩
  have hb1 : Below w.heap.size w (w.alloc (.cells #[.int .i64 no, .int .i64 dev, .int .i64 kind, .int .i64 mode, .int .i64 uid, .int .i64 gid, .int .i64 mt, .int .i64 ct, .int .i64 links, .int .i64 up, .string data, .slice os es.length cs] 48)) := (Below.refl _ _).alloc (Nat.le_refl _) _
  have cf := E.find_any (hS.below hb1) p hu hl
  rw [K.noOf_numOf] at cf
  have N1 := T.BoxN.new ⟨no, dev, kind, mode, uid, gid, mt, ct, links, up, data, es⟩ (.slice os es.length cs) w
  generalize E.numOf es p = z at *
  clear hS hu hl
  go_enter Tryz.func37, Tryz.ntmps37
  go_upto_region 1 with fail
  generalize w.alloc (.cells #[.int .i64 no, .int .i64 dev, .int .i64 kind, .int .i64 mode, .int .i64 uid, .int .i64 gid, .int .i64 mt, .int .i64 ct, .int .i64 links, .int .i64 up, .string data, .slice os es.length cs] 48) = W1 at *
  obtain ⟨a0, a1, a2, a3, a4, a5, a6, a7, a8, a9, a10, a11⟩ := N1.facts
  dsimp only at a0 a1 a2 a3 a4 a5 a6 a7 a8 a9 a10 a11
  by_cases hz : z = 0
  · subst hz
    go_wp2_with (go_at_call 74; refine cf.mono ?_; rintro e W5 ⟨rfl, hb5⟩)
    go_ret
    exact ⟨rfl, below_two hb1 hb5⟩
  · have hz' : (z == 0) = false := by simpa using hz
    have hz2 : (z != 0) = true := by simpa using hz
    go_wp2_with (go_at_call 74; refine cf.mono ?_; rintro e W5 ⟨rfl, hb5⟩)
    go_ret
    first | exact ⟨rfl, below_two hb1 hb5⟩ | exact ⟨by simp [hz2], below_two hb1 hb5⟩ | exact ⟨by simp [hz'], below_two hb1 hb5⟩
set_option maxRecDepth 100000 in
set_option maxHeartbeats 4000000 in
theorem fineMode_any (mode : Int) (w : World) : Calls Tryz.prog 32 #[.int .i64 mode] w fun e w' => e = .returned (.bool (modeOk mode)) ∧ w = w' := by
  by_cases h1 : 0 ≤ mode
  · by_cases h2 : mode ≤ 1023
    · rw [show modeOk mode = true by unfold modeOk; simp; omega]
      go_enter Tryz.func32, Tryz.ntmps32
      go_wp2
      go_ret
      exact ⟨rfl, rfl⟩
    · rw [show modeOk mode = false by unfold modeOk; simp; omega]
      go_enter Tryz.func32, Tryz.ntmps32
      go_wp2
      go_ret
      exact ⟨rfl, rfl⟩
  · rw [show modeOk mode = false by unfold modeOk; simp; omega]
    go_enter Tryz.func32, Tryz.ntmps32
    go_wp2
    go_ret
    exact ⟨rfl, rfl⟩
end
end Go.Proofs.YtenopnfclbegbaaGreat.BR
