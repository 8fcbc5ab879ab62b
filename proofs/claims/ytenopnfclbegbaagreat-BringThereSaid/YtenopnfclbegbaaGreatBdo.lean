/-
  The law's do: what an act does is the same in both worlds, told by the program's contracts.
-/
import Derived.Test.YtenopnfclbegbaaGreatBact
import Derived.Test.YtenopnfclbegbaaGreatRdfs
import Derived.Test.YtenopnfclbegbaaGreatRhard
import Derived.Deep.RegionHeld3
import Derived.BigQuiet
namespace Go.Proofs.YtenopnfclbegbaaGreat.BR
open Go.RowKit Go.Shelf G
attribute [local go_sem] Oper.semAt_some

/-- the program's contracts, at a world of this state -/
structure Brings (B X A M : Nat) (mv : Value) (st : St) : Prop where
  dir : ∀ W, Wd B X A M mv st W → B ≤ W.heap.size → ∀ (cu cg t k : Int) (p : List UInt8) (mode : Int), T.Wf k → p.length ≤ 300 → Calls Tryz.prog 13 #[.pointer (some ⟨X, 0, none⟩), .agg #[.int .i64 cu, .int .i64 cg], .int .i64 t, .int .i64 k, .string ⟨p.toArray⟩, .int .i64 mode] W fun e w' =>
    e = .returned (.tuple #[.int .i64 (dirSt st cu cg t k p mode).2.1, .int .i64 (dirSt st cu cg t k p mode).2.2]) ∧ Wd B X A M mv (dirSt st cu cg t k p mode).1 w' ∧ Turn (wS X A M mv) W w'
  file : ∀ W, Wd B X A M mv st W → B ≤ W.heap.size → ∀ (cu cg t k : Int) (p : List UInt8) (mode : Int) (x : ByteArray), T.Wf k → p.length ≤ 300 → x.size ≤ 2000 → Calls Tryz.prog 14 #[.pointer (some ⟨X, 0, none⟩), .agg #[.int .i64 cu, .int .i64 cg], .int .i64 t, .int .i64 k, .string ⟨p.toArray⟩, .int .i64 mode, .string x] W fun e w' =>
    e = .returned (.tuple #[.int .i64 (fileSt st cu cg t k p mode x).2.1, .int .i64 (fileSt st cu cg t k p mode x).2.2]) ∧ Wd B X A M mv (fileSt st cu cg t k p mode x).1 w' ∧ Turn (wS X A M mv) W w'
  sym : ∀ W, Wd B X A M mv st W → B ≤ W.heap.size → ∀ (cu cg t k : Int) (p : List UInt8) (x : ByteArray), T.Wf k → p.length ≤ 300 → x.size ≤ 2000 → Calls Tryz.prog 15 #[.pointer (some ⟨X, 0, none⟩), .agg #[.int .i64 cu, .int .i64 cg], .int .i64 t, .int .i64 k, .string ⟨p.toArray⟩, .string x] W fun e w' =>
    e = .returned (.tuple #[.int .i64 (symSt st cu cg t k p x).2.1, .int .i64 (symSt st cu cg t k p x).2.2]) ∧ Wd B X A M mv (symSt st cu cg t k p x).1 w' ∧ Turn (wS X A M mv) W w'
  hard : ∀ W, Wd B X A M mv st W → B ≤ W.heap.size → ∀ (cu cg t no k : Int) (p : List UInt8), T.Wf k → T.Wf no → p.length ≤ 300 → Calls Tryz.prog 20 #[.pointer (some ⟨X, 0, none⟩), .agg #[.int .i64 cu, .int .i64 cg], .int .i64 t, .int .i64 no, .int .i64 k, .string ⟨p.toArray⟩] W fun e w' =>
    e = .returned (.int .i64 (hardSt st cu cg t no k p).2) ∧ Wd B X A M mv (hardSt st cu cg t no k p).1 w' ∧ Turn (wS X A M mv) W w'
  place : ∀ W, Wd B X A M mv st W → B ≤ W.heap.size → ∀ (cu cg k : Int) (p : List UInt8), T.Wf k → p.length ≤ 300 → Calls Tryz.prog 28 #[.pointer (some ⟨X, 0, none⟩), .agg #[.int .i64 cu, .int .i64 cg], .int .i64 k, .string ⟨p.toArray⟩] W fun e w' =>
    ∃ u, e = .returned (.tuple #[(P.onlyIf (placeE st cu cg k p) (gets st.n k)).v u, .int .i64 (placeE st cu cg k p)]) ∧ E.Own W.heap.size u (P.onlyIf (placeE st cu cg k p) (gets st.n k)).es w' ∧ Below W.heap.size W w'
theorem act0 {st : St} {t : Int} {a : Ac} (h : a.kind = 0) : actSt st t a = (dirSt st a.cu a.cg t (place (st.last + 1) a.dir) a.name a.n).1 := by unfold actSt; rw [if_pos h]
theorem act1 {st : St} {t : Int} {a : Ac} (h : a.kind = 1) : actSt st t a = (fileSt st a.cu a.cg t (place (st.last + 1) a.dir) a.name a.n a.text).1 := by unfold actSt; rw [if_neg (by omega), if_pos h]
theorem act2 {st : St} {t : Int} {a : Ac} (h : a.kind = 2) : actSt st t a = (symSt st a.cu a.cg t (place (st.last + 1) a.dir) a.name a.text).1 := by unfold actSt; rw [if_neg (by omega), if_neg (by omega), if_pos h]
theorem act3 {st : St} {t : Int} {a : Ac} (h : a.kind = 3) : actSt st t a = (hardSt st a.cu a.cg t (place (st.last + 1) a.no) (place (st.last + 1) a.dir) a.name).1 := by unfold actSt; rw [if_neg (by omega), if_neg (by omega), if_neg (by omega), if_pos h]
theorem act4 {st : St} {t : Int} {a : Ac} (h0 : a.kind ≠ 0) (h1 : a.kind ≠ 1) (h2 : a.kind ≠ 2) (h3 : a.kind ≠ 3) : actSt st t a = st := by unfold actSt; rw [if_neg h0, if_neg h1, if_neg h2, if_neg h3]
section
variable {B X A M F : Nat} {ex : Ext} {mv nv dv : Value} {st : St} {w : World}
set_option maxRecDepth 100000 in
set_option maxHeartbeats 32000000 in
theorem do_any (hP : Brings B X A M mv st) (hI : Inv st) (hLk : Links st) (hW : Wd B X A M mv st w) (hF : Fs ex B F nv dv st w) (h1 : 1 ≤ st.last) (hlast : st.last ≤ 1000) (hB : B ≤ w.heap.size) (a : Ac) (hnm : a.name.length ≤ 300) (htx : a.text.size ≤ 2000) :
    Calls Tryz.prog 9 #[.pointer (some ⟨X, 0, none⟩), .pointer (some ⟨F, 0, none⟩), a.v] w fun e w' =>
      e = .returned (.bool true) ∧ ∃ nv', Wd B X A M mv (actSt st ex.now a) w' ∧ Fs ex B F nv' dv (actSt st ex.now a) w' ∧ Below B w w' := by
  have hlen : st.n.length < 800000 := by have := hI.len; omega
  have hb1 : Below w.heap.size w (w.alloc (.cells #[.int .i64 a.kind, .int .i64 a.cu, .int .i64 a.cg, .int .i64 a.dir, .int .i64 a.no, .int .i64 a.n, .string ⟨a.name.toArray⟩, .string a.text, .int .i64 a.tgt, .string a.asn] 42)) := (Below.refl _ _).alloc (Nat.le_refl _) _
  have D1 := BoxA.new a w
  have q0 := @act0 st ex.now a; have q1 := @act1 st ex.now a; have q2 := @act2 st ex.now a; have q3 := @act3 st ex.now a; have q4 := @act4 st ex.now a
  have hW1 := hW.below hb1
  have hF1 := hF.below hb1
  have hpd := place_range (last := st.last + 1) (dir := a.dir) (by omega)
  have hpn := place_range (last := st.last + 1) (dir := a.no) (by omega)
  have cn := fun m n => (near_any (hF1.below (E.below_drewN m)) (by omega) (by omega) n).mono fun _ _ h => (⟨h.1, h.2.symm⟩ : _ ∧ _)
  generalize actSt st ex.now a = sa at *
  obtain ⟨kind, cu, cg, dir, no, n, name, text, tgt, asn⟩ := a
  dsimp only at hb1 D1 q0 q1 q2 q3 q4 hpd hpn hnm htx
  dsimp only [Ac.v]
  have Q0 := Lib.hid q0; have Q1 := Lib.hid q1; have Q2 := Lib.hid q2; have Q3 := Lib.hid q3; have Q4 := Lib.hid q4
  clear q0 q1 q2 q3 q4 hW hF
  go_enter Tryz.func9, Tryz.ntmps9
  go_upto_region 1 with fail
  generalize w.alloc (.cells #[.int .i64 kind, .int .i64 cu, .int .i64 cg, .int .i64 dir, .int .i64 no, .int .i64 n, .string ⟨name.toArray⟩, .string text, .int .i64 tgt, .string asn] 42) = W1 at *
  obtain ⟨b0, hb0⟩ : ∃ b, w.heap.size = b := ⟨_, rfl⟩
  rw [hb0] at D1 hb1 hB ⊢
  obtain ⟨c0, c1, c2, c3, c4, c5, c6, c7, c8, c9⟩ := D1.facts
  dsimp only at c0 c1 c2 c3 c4 c5 c6 c7 c8 c9
  go_quiet ((go_at_call 11; exact Calls.quiet_of_same (cn _ _)))
  have hbq : Below W1.heap.size W1 (W1.drewN nq) := E.below_drewN nq
  have hW2 := hW1.below hbq
  have hF2 := hF1.below hbq
  have D2 := D1.below hbq
  have hb2 := hb1.trans (hbq.mono (by have := hb1.size; omega))
  generalize place (st.last + 1) dir = kd at *
  generalize place (st.last + 1) no = kn at *
  clear c0 c1 c2 c3 c4 c5 c6 c7 c8 c9 hW1 hF1 D1 hb1 hbq cn hb0
  generalize W1.drewN nq = W2 at *
  obtain ⟨c0, c1, c2, c3, c4, c5, c6, c7, c8, c9⟩ := D2.facts
  dsimp only at c0 c1 c2 c3 c4 c5 c6 c7 c8 c9
  have hwd : T.Wf kd := T.wf_of (by omega) (by omega)
  have hwn : T.Wf kn := T.wf_of (by omega) (by omega)
  have hBW : B ≤ W2.heap.size := by have := hb2.size; have := D2.lt; omega
  have hlg : ∀ k, 0 ≤ (gets st.n k).links := fun k => by
    cases e : get st.n k with
    | none => rw [gets_none e]; decide
    | some x => rw [gets_some e]; exact hLk x (get_some e).1
  have sat : ∀ W nv' st', BoxA b0 ⟨kind, cu, cg, dir, no, n, name, text, tgt, asn⟩ W → Fs ex B F nv' dv st' W → W.cell? ⟨b0, 1, none⟩ = some (.int .i64 cu) ∧ W.cell? ⟨b0, 2, none⟩ = some (.int .i64 cg) ∧ W.cell? ⟨b0, 5, none⟩ = some (.int .i64 n) ∧ W.cell? ⟨b0, 6, none⟩ = some (.string ⟨name.toArray⟩) ∧ W.cell? ⟨b0, 7, none⟩ = some (.string text) ∧ W.cell? ⟨F, 3, none⟩ = some (.int .i64 ex.now) := fun W nv' st' D hF' => by
    obtain ⟨_, d1, d2, _, _, d5, d6, d7, _, _⟩ := D.facts
    exact ⟨d1, d2, d5, d6, d7, Fs.now hF'⟩
  by_cases k0 : kind = 0
  · have qq := Q0.out k0
    clear Q0 Q1 Q2 Q3 Q4
    subst k0
    have hd2 := (Below.refl W2.heap.size W2).drew
    have hW2 := hW2.below hd2
    have hF2 := hF2.below hd2
    have D2 := D2.below hd2
    have hBW : B ≤ W2.drew.heap.size := Nat.le_trans hBW hd2.size
    have hbd : Below B w W2.drew := (hb2.mono hB).trans (hd2.mono (by have := hb2.size; have := D2.lt; omega))
    have cq := hP.dir W2.drew hW2 hBW cu cg ex.now kd name n hwd hnm
    go_wp2_with fail
    go_region_held3 (fun w' => w'.cell? ⟨b0, 1, none⟩ = some (.int .i64 cu) ∧ w'.cell? ⟨b0, 2, none⟩ = some (.int .i64 cg) ∧ w'.cell? ⟨b0, 5, none⟩ = some (.int .i64 n) ∧ w'.cell? ⟨b0, 6, none⟩ = some (.string ⟨name.toArray⟩) ∧ w'.cell? ⟨b0, 7, none⟩ = some (.string text) ∧ w'.cell? ⟨F, 3, none⟩ = some (.int .i64 ex.now)) (with_reducible first | exact sat _ _ _ D3 hF3 | exact sat _ _ _ D2 hF2)
      (first | (go_at_call 13; refine cq.mono ?_; rintro e w3 ⟨rfl, hW3, ht3⟩; have hF3 := hF2.beside hW2 ht3; have D3 := D2.turnW hW2 ht3; have hB3 := Nat.le_trans hBW ht3.size))
    have hbb3 : Below B w w3 := hbd.trans (hW2.ofTurn ht3 hBW)
    have cq2 := refDir_any hI hF3 hlen (by omega) hB3 cu cg kd name (by omega) n
    go_wp2_with (go_at_call 24; refine cq2.mono ?_; rintro e w4 ⟨rfl, ⟨nv4, hF4, ht4, -⟩⟩; have hW4 := hW3.beside hF3 ht4; have D4 := D3.turnF hF3 ht4)
    go_wp2
    go_ret
    rw [qq]
    exact ⟨by simp, nv4, hW4, hF4, hbb3.trans (hF3.ofTurn ht4 hB3)⟩
  by_cases k1 : kind = 1
  · have qq := Q1.out k1
    clear Q0 Q1 Q2 Q3 Q4
    subst k1
    have hd2 := (Below.refl W2.heap.size W2).drew
    have hW2 := hW2.below hd2
    have hF2 := hF2.below hd2
    have D2 := D2.below hd2
    have hBW : B ≤ W2.drew.heap.size := Nat.le_trans hBW hd2.size
    have hbd : Below B w W2.drew := (hb2.mono hB).trans (hd2.mono (by have := hb2.size; have := D2.lt; omega))
    have cq := hP.file W2.drew hW2 hBW cu cg ex.now kd name n text hwd hnm htx
    go_wp2_with fail
    go_region_held3 (fun w' => w'.cell? ⟨b0, 1, none⟩ = some (.int .i64 cu) ∧ w'.cell? ⟨b0, 2, none⟩ = some (.int .i64 cg) ∧ w'.cell? ⟨b0, 5, none⟩ = some (.int .i64 n) ∧ w'.cell? ⟨b0, 6, none⟩ = some (.string ⟨name.toArray⟩) ∧ w'.cell? ⟨b0, 7, none⟩ = some (.string text) ∧ w'.cell? ⟨F, 3, none⟩ = some (.int .i64 ex.now)) (with_reducible first | exact sat _ _ _ D3 hF3 | exact sat _ _ _ D2 hF2)
      (first | (go_at_call 14; refine cq.mono ?_; rintro e w3 ⟨rfl, hW3, ht3⟩; have hF3 := hF2.beside hW2 ht3; have D3 := D2.turnW hW2 ht3; have hB3 := Nat.le_trans hBW ht3.size))
    have hbb3 : Below B w w3 := hbd.trans (hW2.ofTurn ht3 hBW)
    have cq2 := refFile_any hI hF3 hlen (by omega) hB3 cu cg kd name (by omega) n text (by omega)
    go_wp2_with (go_at_call 25; refine cq2.mono ?_; rintro e w4 ⟨rfl, ⟨nv4, hF4, ht4, -⟩⟩; have hW4 := hW3.beside hF3 ht4; have D4 := D3.turnF hF3 ht4)
    go_wp2
    go_ret
    rw [qq]
    exact ⟨by simp, nv4, hW4, hF4, hbb3.trans (hF3.ofTurn ht4 hB3)⟩
  by_cases k2 : kind = 2
  · have qq := Q2.out k2
    clear Q0 Q1 Q2 Q3 Q4
    subst k2
    have hd2 := (Below.refl W2.heap.size W2).drew
    have hW2 := hW2.below hd2
    have hF2 := hF2.below hd2
    have D2 := D2.below hd2
    have hBW : B ≤ W2.drew.heap.size := Nat.le_trans hBW hd2.size
    have hbd : Below B w W2.drew := (hb2.mono hB).trans (hd2.mono (by have := hb2.size; have := D2.lt; omega))
    have cq := hP.sym W2.drew hW2 hBW cu cg ex.now kd name text hwd hnm htx
    go_wp2_with fail
    go_region_held3 (fun w' => w'.cell? ⟨b0, 1, none⟩ = some (.int .i64 cu) ∧ w'.cell? ⟨b0, 2, none⟩ = some (.int .i64 cg) ∧ w'.cell? ⟨b0, 5, none⟩ = some (.int .i64 n) ∧ w'.cell? ⟨b0, 6, none⟩ = some (.string ⟨name.toArray⟩) ∧ w'.cell? ⟨b0, 7, none⟩ = some (.string text) ∧ w'.cell? ⟨F, 3, none⟩ = some (.int .i64 ex.now)) (with_reducible first | exact sat _ _ _ D3 hF3 | exact sat _ _ _ D2 hF2)
      (first | (go_at_call 15; refine cq.mono ?_; rintro e w3 ⟨rfl, hW3, ht3⟩; have hF3 := hF2.beside hW2 ht3; have D3 := D2.turnW hW2 ht3; have hB3 := Nat.le_trans hBW ht3.size))
    have hbb3 : Below B w w3 := hbd.trans (hW2.ofTurn ht3 hBW)
    have cq2 := refSym_any hI hF3 hlen (by omega) hB3 cu cg kd name (by omega) text (by omega)
    go_wp2_with (go_at_call 26; refine cq2.mono ?_; rintro e w4 ⟨rfl, ⟨nv4, hF4, ht4, -⟩⟩; have hW4 := hW3.beside hF3 ht4; have D4 := D3.turnF hF3 ht4)
    go_wp2
    go_ret
    rw [qq]
    exact ⟨by simp, nv4, hW4, hF4, hbb3.trans (hF3.ofTurn ht4 hB3)⟩
  by_cases k3 : kind = 3
  · have qq := Q3.out k3
    clear Q0 Q1 Q2 Q3 Q4
    subst k3
    have hd2 := (Below.refl W2.heap.size W2).drew
    have hW2 := hW2.below hd2
    have hF2 := hF2.below hd2
    have D2 := D2.below hd2
    have hBW : B ≤ W2.drew.heap.size := Nat.le_trans hBW hd2.size
    have hbd : Below B w W2.drew := (hb2.mono hB).trans (hd2.mono (by have := hb2.size; have := D2.lt; omega))
    have cq := hP.hard W2.drew hW2 hBW cu cg ex.now kn kd name hwd hwn hnm
    go_wp2_with fail
    go_region_held3 (fun w' => w'.cell? ⟨b0, 1, none⟩ = some (.int .i64 cu) ∧ w'.cell? ⟨b0, 2, none⟩ = some (.int .i64 cg) ∧ w'.cell? ⟨b0, 5, none⟩ = some (.int .i64 n) ∧ w'.cell? ⟨b0, 6, none⟩ = some (.string ⟨name.toArray⟩) ∧ w'.cell? ⟨b0, 7, none⟩ = some (.string text) ∧ w'.cell? ⟨F, 3, none⟩ = some (.int .i64 ex.now)) (with_reducible first | exact sat _ _ _ D4 hF4 | exact sat _ _ _ D3 hF3 | exact sat _ _ _ D2 hF2)
      (first | (go_at_call 20; refine cq.mono ?_; rintro e w3 ⟨rfl, hW3, ht3⟩; have hF3 := hF2.beside hW2 ht3; have D3 := D2.turnW hW2 ht3; have hB3 := Nat.le_trans hBW ht3.size; have cq2 := refHard_any hI hF3 hlen hB3 cu cg kn kd name (by omega) (hlg kn)) | (go_at_call 27; refine cq2.mono ?_; rintro e w4 ⟨rfl, ⟨hF4, ht4⟩⟩; have hW4 := hW3.beside hF3 ht4; have D4 := D3.turnF hF3 ht4))
    have hbb3 : Below B w w3 := hbd.trans (hW2.ofTurn ht3 hBW)
    go_wp2
    go_ret
    rw [qq]
    exact ⟨by simp, nv, hW4, hF4, hbb3.trans (hF3.ofTurn ht4 hB3)⟩
  have qq := Q4.out k0 k1 k2 k3
  clear Q0 Q1 Q2 Q3 Q4
  have cr := fun W (hb : Below W2.heap.size W2 W) => refPlace_list hI (hF2.below hb) (by omega) cu cg kd name (by omega)
  have cq := hP.place W2 hW2 hBW cu cg kd name hwd hnm
  generalize P.onlyIf (placeE st cu cg kd name) (gets st.n kd) = pnd at *
  generalize placeE st cu cg kd name = pe at *
  obtain ⟨dno, ddev, dkind, dmode, duid, dgid, dmt, dct, dlinks, dup, ddata, des⟩ := pnd
  dsimp only [T.Nd.v] at cq cr
  go_upto_region 18 with (go_at_call 28; refine cq.mono ?_; rintro e w3 ⟨u3, rfl, hO3, hb3⟩; obtain ⟨o3, c3', rfl⟩ := T.own_slice hO3; have N3 := T.BoxN.new ⟨dno, ddev, dkind, dmode, duid, dgid, dmt, dct, dlinks, dup, ddata, des⟩ (.slice o3 des.length c3') w3)
  have hal : Below w3.heap.size w3 (w3.alloc (.cells #[.int .i64 dno, .int .i64 ddev, .int .i64 dkind, .int .i64 dmode, .int .i64 duid, .int .i64 dgid, .int .i64 dmt, .int .i64 dct, .int .i64 dlinks, .int .i64 dup, .string ddata, .slice o3 des.length c3'] 48)) := (Below.refl _ _).alloc (Nat.le_refl _) _
  have hb4 := below_two hb3 hal
  have hn3 : w3.heap.size < (w3.alloc (.cells #[.int .i64 dno, .int .i64 ddev, .int .i64 dkind, .int .i64 dmode, .int .i64 duid, .int .i64 dgid, .int .i64 dmt, .int .i64 dct, .int .i64 dlinks, .int .i64 dup, .string ddata, .slice o3 des.length c3'] 48)).heap.size := N3.lt
  generalize w3.heap.size = b3 at *
  generalize w3.alloc (.cells #[.int .i64 dno, .int .i64 ddev, .int .i64 dkind, .int .i64 dmode, .int .i64 duid, .int .i64 dgid, .int .i64 dmt, .int .i64 dct, .int .i64 dlinks, .int .i64 dup, .string ddata, .slice o3 des.length c3'] 48) = W4 at *
  have D4 := D2.below hb4
  clear c0 c1 c2 c3 c4 c5 c6 c7 c8 c9 D2 hal hO3 hb3 cq
  obtain ⟨c0, c1, c2, c3, c4, c5, c6, c7, c8, c9⟩ := D4.facts
  dsimp only at c0 c1 c2 c3 c4 c5 c6 c7 c8 c9
  have cr4 := cr W4 hb4
  clear cr
  go_upto_region 19 with (go_at_call 29; refine cr4.mono ?_; rintro e w5 ⟨u5, rfl, hO5, hb5⟩; obtain ⟨o5, c5', rfl⟩ := T.own_slice hO5; have M5 := T.BoxN.new ⟨dno, ddev, dkind, dmode, duid, dgid, dmt, dct, dlinks, dup, ddata, des⟩ (.slice o5 des.length c5') w5)
  have hal : Below w5.heap.size w5 (w5.alloc (.cells #[.int .i64 dno, .int .i64 ddev, .int .i64 dkind, .int .i64 dmode, .int .i64 duid, .int .i64 dgid, .int .i64 dmt, .int .i64 dct, .int .i64 dlinks, .int .i64 dup, .string ddata, .slice o5 des.length c5'] 48)) := (Below.refl _ _).alloc (Nat.le_refl _) _
  have hb6 := below_two hb4 (below_two hb5 hal)
  have N5 := (N3.below hb5).below hal
  have hW6 := hW2.below hb6
  have hF6 := hF2.below hb6
  have hbz : Below B w _ := (hb2.mono hB).trans (hb6.mono hBW)
  generalize w5.heap.size = b5 at *
  generalize w5.alloc (.cells #[.int .i64 dno, .int .i64 ddev, .int .i64 dkind, .int .i64 dmode, .int .i64 duid, .int .i64 dgid, .int .i64 dmt, .int .i64 dct, .int .i64 dlinks, .int .i64 dup, .string ddata, .slice o5 des.length c5'] 48) = W6 at *
  obtain ⟨g0, g1, g2, g3, g4, g5, g6, g7, g8, g9, g10, g11⟩ := N5.facts
  obtain ⟨a0, a1, a2, a3, a4, a5, a6, a7, a8, a9, a10, a11⟩ := M5.facts
  dsimp only at g0 g1 g2 g3 g4 g5 g6 g7 g8 g9 g10 g11 a0 a1 a2 a3 a4 a5 a6 a7 a8 a9 a10 a11
  clear hal hO5 hb5 N3 hb4 cr4
  go_wp2
  go_ret
  rw [qq]
  exact ⟨by simp, nv, hW6, hF6, hbz⟩
end
end Go.Proofs.YtenopnfclbegbaaGreat.BR
