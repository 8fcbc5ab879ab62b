/-
  The reference's Above, Within, Busy.
-/
import Derived.Test.YtenopnfclbegbaaGreatRthr
import Derived.Test.YtenopnfclbegbaaGreatWhere
import Derived.Deep.RegionWith
import Derived.BigQuiet
namespace Go.Proofs.YtenopnfclbegbaaGreat.G
open Go.RowKit Go.Shelf
attribute [local go_sem] Oper.semAt_some

/-- what the reference holds to lie above -/
def refUnder (st : St) (k : Int) : Option Int := if 1 < (gets st.n k).dev ∧ rootOf st.d (gets st.n k).dev = k then (mt (raw st.d) (gets st.n k).dev).map (·.cov) else none
def refAbove (st : St) (k : Int) : Int := if (gets st.n k).kind = 1 then (match refUnder st k with | some j => (gets st.n j).up | none => (gets st.n k).up) else 0
section
variable {B F : Nat} {ex : Ext} {nv dv : Value} {st : St} {w w' : World}
theorem refAbove_no {k : Int} (h : (gets st.n k).kind ≠ 1) : refAbove st k = 0 := by unfold refAbove; rw [if_neg h]
theorem refAbove_plain {k : Int} (h : (gets st.n k).kind = 1) (h1 : ¬ (1 < (gets st.n k).dev ∧ rootOf st.d (gets st.n k).dev = k)) : refAbove st k = (gets st.n k).up := by
  unfold refAbove refUnder; rw [if_pos h, if_neg h1]
theorem refAbove_root {k : Int} (h : (gets st.n k).kind = 1) (h1 : 1 < (gets st.n k).dev) (h2 : rootOf st.d (gets st.n k).dev = k) {m : Mt} (hm : mt (raw st.d) (gets st.n k).dev = some m) : refAbove st k = (gets st.n m.cov).up := by
  unfold refAbove refUnder; rw [if_pos h, if_pos ⟨h1, h2⟩, hm]; rfl
set_option maxRecDepth 100000 in
set_option maxHeartbeats 8000000 in
theorem refAbove_any (hI : Inv st) (h : Fs ex B F nv dv st w) (k : Int) (hlen : st.n.length < 900000) :
    Calls Tryz.prog 69 #[.pointer (some ⟨F, 0, none⟩), .int .i64 k] w fun e w' => e = .returned (.int .i64 (refAbove st k)) ∧ Below w.heap.size w w' := by
  obtain ⟨r, hr⟩ : ∃ r, refAbove st k = r := ⟨_, rfl⟩
  have hdl := hI.mounts
  have A1 := Lib.hid (@refAbove_no st k)
  have A2 := Lib.hid (@refAbove_plain st k)
  have A3 := Lib.hid (@refAbove_root st k)
  rw [hr] at A1 A2 A3 ⊢
  clear hr
  have c1 := refGet_any h k (by omega)
  have HH := Lib.hid h
  have cg := fun W (hb : Below w.heap.size w W) j => refGet_any (h.below hb) j (by omega)
  have cr := fun W (hb : Below w.heap.size w W) => refRoot_any (h.below hb) (gets st.n k).dev (by omega)
  have hdev : (gets st.n k).kind = 1 → ∃ m, mt (raw st.d) (gets st.n k).dev = some m := fun e => by
    cases hx : get st.n k with
    | none => rw [gets_none hx] at e; cases e
    | some y =>
      rw [gets_some hx]
      have := hI.devs y (get_some hx).1
      exact mt_in this.1 (by rw [length_raw]; exact this.2)
  have HDV := Lib.hid hdev
  clear h hI hdev
  generalize hnd : gets st.n k = nd at *
  clear hnd
  generalize hro : rootOf st.d nd.dev = ro at *
  clear hro
  obtain ⟨no, dev, kind, mode, uid, gid, mtm, ct', links, up, data, es⟩ := nd
  dsimp only [T.Nd.v] at *
  go_enter Tryz.func69, Tryz.ntmps69
  go_upto_region 2 with (go_at_call 12; refine c1.mono ?_; rintro e w3 ⟨u, rfl, hO, hb3⟩; obtain ⟨ou, cu, rfl⟩ := T.own_slice hO; have D3 := T.BoxN.new ⟨no, dev, kind, mode, uid, gid, mtm, ct', links, up, data, es⟩ (.slice ou es.length cu) w3)
  have hb4 : Below w.heap.size w (w3.alloc (.cells #[.int .i64 no, .int .i64 dev, .int .i64 kind, .int .i64 mode, .int .i64 uid, .int .i64 gid, .int .i64 mtm, .int .i64 ct', .int .i64 links, .int .i64 up, .string data, .slice ou es.length cu] 48)) := hb3.alloc hb3.size _
  have hlt : w.heap.size ≤ w3.heap.size := hb3.size
  generalize w3.alloc (.cells #[.int .i64 no, .int .i64 dev, .int .i64 kind, .int .i64 mode, .int .i64 uid, .int .i64 gid, .int .i64 mtm, .int .i64 ct', .int .i64 links, .int .i64 up, .string data, .slice ou es.length cu] 48) = W4 at D3 hb4 ⊢
  generalize w3.heap.size = b3 at D3 hlt ⊢
  clear hb3 hO c1
  have H4 := HH.out.below hb4
  have cr4 := cr W4 hb4
  obtain ⟨a0, a1, a2, a3, a4, a5, a6, a7, a8, a9, a10, a11⟩ := D3.facts
  dsimp only at a0 a1 a2 a3 a4 a5 a6 a7 a8 a9 a10 a11
  by_cases hk1 : kind = 1
  · subst hk1
    by_cases hd1 : 1 < dev
    · by_cases hro : ro = k
      · obtain ⟨m, hm⟩ := HDV.out rfl
        obtain rfl := A3.out rfl hd1 hro hm
        obtain ⟨h1, h2, h3⟩ := mt_some hm
        obtain ⟨i, hi⟩ : ∃ i, (dev - 1).toNat = i := ⟨_, rfl⟩
        rw [hi] at h3
        have hi2 : dev - 1 = (i : Int) := by omega
        rw [length_raw] at h2
        have hi3 : (i : Int) < st.d.length := by omega
        have hi4 : (0 : Int) ≤ (i : Int) := by omega
        have hi5 : i < st.d.length := by omega
        have hi6 : IntKind.i64.wrap (dev - 1) = (i : Int) := by rw [hi2]; exact wrap_id (by omega) (by omega)
        have hi7 : IntKind.i64.wrap (i : Int) = (i : Int) := wrap_id (by omega) (by omega)
        obtain ⟨g, cap, hdv, hat⟩ := H4.devs.at h3
        rw [length_raw] at hdv
        have q1 := hat.2.1
        subst hdv
        have x1 := H4.facts.2.1
        have cg4 := cg W4.drew (hb4.trans (((Below.refl W4.heap.size W4).drew).mono hb4.size)) m.cov
        subst hro
        clear cr cg A1 A2 A3 hm hi h1 h2 h3 HDV
        obtain ⟨n2, hn2⟩ : ∃ n2, gets st.n m.cov = n2 := ⟨_, rfl⟩
        rw [hn2] at cg4
        have HN2 := Lib.hid hn2
        clear hn2 hat
        obtain ⟨cv, hcv⟩ : ∃ c, m.cov = c := ⟨_, rfl⟩
        rw [hcv] at cg4 q1
        clear hcv
        obtain ⟨no2, dev2, kind2, mode2, uid2, gid2, mt2, ct2, links2, up2, data2, es2⟩ := n2
        dsimp only at cg4
        go_upto_region 5 with (go_at_call 60; refine cr4.mono ?_; rintro e w5 ⟨rfl, rfl⟩)
        have hdr : Below W4.heap.size W4 W4.drew := (Below.refl _ _).drew
        have D5 := D3.below hdr
        have hb5 := below_two hb4 hdr
        have y1 : W4.drew.cell? ⟨b3, 1, none⟩ = some (.int .i64 dev) := a1
        have y2 : W4.drew.cell? ⟨F, 1, none⟩ = some (.slice (some ⟨g, 0, none⟩) st.d.length cap) := x1
        have y3 : W4.drew.cell? ⟨g, i * 6 + 1, none⟩ = some (.int .i64 cv) := q1
        clear a0 a1 a2 a3 a4 a5 a6 a7 a8 a9 a10 a11 D3 hb4 H4
        have l1 := D5.lt
        go_region_with (go_at_call 12; refine cg4.mono ?_; rintro e w6 ⟨u6, rfl, hO6, hb6⟩; obtain ⟨ou6, cu6, rfl⟩ := T.own_slice hO6; have D6 := D5.below hb6; obtain ⟨p0, p1, p2, p3, p4, p5, p6, p7, p8, p9, p10, p11⟩ := D6.facts; obtain ⟨f0, f1, f2, f3, f4, f5, f6, f7, f8, f9, f10, f11⟩ := D6.open)
        all_goals
          have D7 := D6.fill ⟨no2, dev2, kind2, mode2, uid2, gid2, mt2, ct2, links2, up2, data2, es2⟩ (.slice ou6 es2.length cu6)
          have hb8 := (below_two hb5 hb6).trans (T.below_fill hlt w6 ⟨no2, dev2, kind2, mode2, uid2, gid2, mt2, ct2, links2, up2, data2, es2⟩ (.slice ou6 es2.length cu6))
          unfold T.fill at D7 hb8
          generalize World.setCell _ _ _ = W8 at D7 hb8 ⊢
          clear p0 p1 p2 p3 p4 p5 p6 p7 p8 p9 p10 p11 f0 f1 f2 f3 f4 f5 f6 f7 f8 f9 f10 f11
          obtain ⟨_, _, _, _, _, _, _, _, _, q9, _, _⟩ := D7.facts
          go_wp2
          go_ret
          exact ⟨by rw [HN2.out]; rfl, hb8⟩
      · have hro' : (ro == k) = false := by simpa using hro
        obtain rfl := A2.out rfl (fun e => hro e.2)
        go_wp2_with (go_at_call 60; refine cr4.mono ?_; rintro e w5 ⟨rfl, rfl⟩)
        go_ret
        exact ⟨rfl, hb4⟩
    · obtain rfl := A2.out rfl (fun e => hd1 e.1)
      go_wp2
      go_ret
      exact ⟨rfl, hb4⟩
  · have hk1' : (kind == 1) = false := by simpa using hk1
    obtain rfl := A1.out hk1
    go_wp2
    go_ret
    exact ⟨rfl, hb4⟩
end
end Go.Proofs.YtenopnfclbegbaaGreat.G
/-
  The reference's Within, Busy.
-/
namespace Go.Proofs.YtenopnfclbegbaaGreat.G
open Go.RowKit Go.Shelf
attribute [local go_sem] Oper.semAt_some

def refWithin (st : St) : Nat → Int → Int → Bool
  | 0, _, _ => false
  | f + 1, x, base => if x = 0 then false else if x = base then true else refWithin st f (refAbove st x) base
def refBusy (st : St) (no : Int) : Bool := ((raw st.d).drop 1).any fun m => refWithin st (st.n.length + 1) m.cov no
section
variable {B F : Nat} {ex : Ext} {nv dv : Value} {st : St} {w w' : World}
theorem Fs.nlen (h : Fs ex B F nv dv st w) : ∃ oa cap, nv = .slice oa st.n.length cap := by
  obtain ⟨l, h1, h2, _⟩ := h.nodes
  obtain ⟨oa, cap, e, _⟩ := h2.sees
  exact ⟨oa, cap, by rw [e, ← h1, List.length_map]⟩
set_option maxRecDepth 100000 in
set_option maxHeartbeats 4000000 in
theorem refWithin_any (hI : Inv st) (h : Fs ex B F nv dv st w) (no base : Int) (hlen : st.n.length < 900000) :
    Calls Tryz.prog 98 #[.pointer (some ⟨F, 0, none⟩), .int .i64 no, .int .i64 base] w fun e w' => e = .returned (.bool (refWithin st (st.n.length + 1) no base)) ∧ Below w.heap.size w w' := by
  obtain ⟨oa, cap, rfl⟩ := h.nlen
  have ca := fun W (hb : Below w.heap.size w W) x => refAbove_any hI (h.below hb) x hlen
  have x0 := h.facts.1
  have hFl := h.ltF
  obtain ⟨z, hz⟩ : ∃ z, refWithin st (st.n.length + 1) no base = z := ⟨_, rfl⟩
  rw [hz]
  have HZ := Lib.hid hz
  clear h hI hz
  go_enter Tryz.func98, Tryz.ntmps98
  go_wp2
  go_loopw [1, 7] (fun x i wr => ∃ (k : Nat) (y : Int), k ≤ st.n.length + 1 ∧ x = .int .i64 y ∧ i = .int .i64 k ∧ refWithin st (st.n.length + 1 - k) y base = z ∧ Below w.heap.size w wr) (fun _ i _ => st.n.length + 1 - (RowKit.intOf i).toNat)
  case atStart => exact ⟨0, no, Nat.zero_le _, rfl, rfl, HZ.out, Below.refl _ _⟩
  case round =>
    obtain ⟨k, y, hk, rfl, rfl, hr, hb⟩ := hrel
    have x0' := (hb.cell (p := ⟨F, 0, none⟩) hFl).trans x0
    by_cases hlt : k ≤ st.n.length
    · have hlt' : (k : Int) ≤ st.n.length := by omega
      rw [show st.n.length + 1 - k = (st.n.length - k) + 1 by omega, refWithin] at hr
      by_cases hy0 : y = 0
      · rw [if_pos hy0] at hr
        subst hr hy0
        go_wp2
        go_ret
        exact ⟨rfl, hb⟩
      · rw [if_neg hy0] at hr
        have hy0' : (y == 0) = false := by simpa using hy0
        by_cases hyb : y = base
        · rw [if_pos hyb] at hr
          subst hr hyb
          go_wp2
          go_ret
          exact ⟨rfl, hb⟩
        · rw [if_neg hyb] at hr
          have hyb' : (y == base) = false := by simpa using hyb
          have HR := Lib.hid hr
          have ca1 := ca wr hb y
          clear hr
          go_wp2_with (go_at_call 69; refine ca1.mono ?_; rintro e w3 ⟨rfl, hb3⟩)
          go_roundw
          case rel => exact ⟨k + 1, _, by omega, rfl, by go_num, by rw [show st.n.length + 1 - (k + 1) = st.n.length - k by omega]; exact HR.out, hb.trans (hb3.mono hb.size)⟩
          case measure => simp [RowKit.intOf]; omega
    · have hlt' : ¬ (k : Int) ≤ st.n.length := by omega
      rw [show st.n.length + 1 - k = 0 by omega] at hr
      have hr' : false = z := hr
      subst hr'
      clear hr
      go_wp2
      go_ret
      exact ⟨rfl, hb⟩
set_option maxRecDepth 100000 in
set_option maxHeartbeats 4000000 in
theorem refBusy_any (hI : Inv st) (h : Fs ex B F nv dv st w) (no : Int) (hlen : st.n.length < 900000) :
    Calls Tryz.prog 71 #[.pointer (some ⟨F, 0, none⟩), .int .i64 no] w fun e w' => e = .returned (.bool (refBusy st no)) ∧ Below w.heap.size w w' := by
  have cw := fun W (hb : Below w.heap.size w W) x => refWithin_any hI (h.below hb) x no hlen
  have hdl := hI.mounts
  have x1 := h.facts.2.1
  have hFl := h.ltF
  have HD := Lib.hid h.devs
  obtain ⟨oa, cap, rfl⟩ := h.devs.slice
  have hl : (raw st.d).length ≤ 8 := by rw [length_raw]; exact hdl
  obtain ⟨z, hz⟩ : ∃ z, refBusy st no = z := ⟨_, rfl⟩
  rw [hz]
  unfold refBusy at hz
  have HZ := Lib.hid hz
  clear h hI hz hdl
  generalize raw st.d = ds at *
  generalize refWithin st (st.n.length + 1) = rw' at *
  go_enter Tryz.func71, Tryz.ntmps71
  go_wp2
  go_loopw [5] (fun i wr => ∃ k : Nat, 1 ≤ k ∧ i = .int .i64 k ∧ (∀ y ∈ (ds.drop 1).take (k - 1), rw' y.cov no = false) ∧ Below w.heap.size w wr) (fun i _ => 8 - (RowKit.intOf i).toNat)
  case atStart => exact ⟨1, Nat.le_refl _, rfl, fun y hy => by simp at hy, Below.refl _ _⟩
  case round =>
    obtain ⟨k, hk, rfl, hno, hb⟩ := hrel
    have x1' := (hb.cell (p := ⟨F, 1, none⟩) hFl).trans x1
    have HB := Lib.hid hno
    clear hno
    by_cases hlt : k < ds.length
    · have hlt' : (k : Int) < ds.length := by omega
      obtain ⟨x, hx⟩ : ∃ x, ds[k]? = some x := ⟨_, List.getElem?_eq_getElem hlt⟩
      obtain ⟨g, cap', he, hat⟩ := HD.out.at hx
      cases he
      obtain ⟨c0, c1, c2, c3, c4, c5⟩ := hat.below hb
      have hx' : (ds.drop 1)[k - 1]? = some x := by rw [List.getElem?_drop, show 1 + (k - 1) = k by omega]; exact hx
      have hstep : Hid (rw' x.cov no = false → ∀ y ∈ (ds.drop 1).take (k + 1 - 1), rw' y.cov no = false) := Lib.hid fun e y hy => by
        rw [show k + 1 - 1 = k - 1 + 1 by omega, List.take_add_one, hx'] at hy
        rcases List.mem_append.1 hy with hy | hy
        · exact HB.out y hy
        · simp at hy; subst hy; exact e
      have hlast : Hid (rw' x.cov no = true → z = true) := Lib.hid fun e => by
        rw [← HZ.out]; exact List.any_eq_true.2 ⟨x, List.mem_of_getElem? hx', e⟩
      have cw1 := cw wr hb x.cov
      clear hx hx' hat
      generalize rw' x.cov no = bx at *
      cases bx with
      | true =>
        obtain rfl := hlast.out rfl
        clear hstep hlast
        go_wp2_with (go_at_call 98; refine cw1.mono ?_; rintro e w3 ⟨rfl, hb3⟩)
        go_ret
        exact ⟨rfl, hb.trans (hb3.mono hb.size)⟩
      | false =>
        have HS := Lib.hid (hstep.out rfl)
        clear hstep hlast
        go_wp2_with (go_at_call 98; refine cw1.mono ?_; rintro e w3 ⟨rfl, hb3⟩)
        go_roundw
        case rel => exact ⟨k + 1, by omega, by go_num, HS.out, hb.trans (hb3.mono hb.size)⟩
        case measure => simp [RowKit.intOf]; omega
    · have hlt' : ¬ (k : Int) < ds.length := by omega
      have hz : z = false := by
        rw [← HZ.out]
        refine List.any_eq_false.2 fun y hy => ?_
        rw [HB.out y (by rw [List.take_of_length_le (by rw [List.length_drop]; omega)]; exact hy)]
        simp
      have HZ2 := Lib.hid hz
      clear hz
      go_wp2
      go_ret
      exact ⟨by rw [HZ2.out]; rfl, hb⟩
end
end Go.Proofs.YtenopnfclbegbaaGreat.G
/-
  The reference's Where.
-/
namespace Go.Proofs.YtenopnfclbegbaaGreat.G
open Go.RowKit Go.Shelf
attribute [local go_sem] Oper.semAt_some

def refChild (st : St) (x : Int) : Int := (refUnder st x).getD x
/-- the name that the reference finds; none: the empty one -/
def refName (st : St) (x : Int) : List UInt8 := (E.nameOf (gets st.n (refAbove st x)).es (refChild st x)).getD []
def refWhere (st : St) : Nat → List UInt8 → Int → Option (List UInt8)
  | 0, _, _ => none
  | f + 1, s, x => if x = 1 then some (if s = [] then [47] else s) else if refName st x = [] then none else refWhere st f (47 :: refName st x ++ s) (refAbove st x)
theorem nameOf_cons (x : E.Ent) (r : List E.Ent) (no : Int) : E.nameOf (x :: r) no = if x.no = no then some x.name else E.nameOf r no := by
  unfold E.nameOf
  rw [List.find?_cons]
  by_cases h : x.no = no <;> simp [h]
theorem nameOf_len {ls : List E.Ent} (h : ∀ e ∈ ls, e.name.length ≤ 255) (no : Int) : ((E.nameOf ls no).getD []).length ≤ 255 := by
  unfold E.nameOf
  cases e : ls.find? fun x => decide (x.no = no) with
  | none => exact Nat.zero_le _
  | some x => exact h x (List.mem_of_find?_eq_some e)
theorem refChild_plain {st : St} {k : Int} (h1 : ¬ (1 < (gets st.n k).dev ∧ rootOf st.d (gets st.n k).dev = k)) : refChild st k = k := by
  unfold refChild refUnder; rw [if_neg h1]; rfl
theorem refChild_root {st : St} {k : Int} (h1 : 1 < (gets st.n k).dev) (h2 : rootOf st.d (gets st.n k).dev = k) {m : Mt} (hm : mt (raw st.d) (gets st.n k).dev = some m) : refChild st k = m.cov := by
  unfold refChild refUnder; rw [if_pos ⟨h1, h2⟩, hm]; rfl
theorem drop_cons {α : Type} {ls : List α} {k : Nat} {x : α} (h : ls[k]? = some x) : ls.drop k = x :: ls.drop (k + 1) := by
  obtain ⟨hk, he⟩ := List.getElem?_eq_some_iff.1 h
  rw [List.drop_eq_getElem_cons hk, he]
section
variable {B F : Nat} {ex : Ext} {nv dv : Value} {st : St} {w w' : World}
set_option maxRecDepth 100000 in
set_option maxHeartbeats 16000000 in
theorem refWhere_any (hI : Inv st) (h : Fs ex B F nv dv st w) (no : Int) (hlen : st.n.length < 900000) :
    Calls Tryz.prog 64 #[.pointer (some ⟨F, 0, none⟩), .int .i64 no] w fun e w' =>
      e = .returned (.tuple #[.string ⟨((refWhere st (st.n.length + 1) [] no).getD []).toArray⟩, .bool (refWhere st (st.n.length + 1) [] no).isSome]) ∧ Below w.heap.size w w' := by
  obtain ⟨oa, cap, rfl⟩ := h.nlen
  obtain ⟨od, cd, rfl⟩ := h.dlen
  have HH := Lib.hid h
  have hdl := hI.mounts
  have hd0 : 0 < st.d.length := by
    obtain ⟨q, hq⟩ := hI.top
    exact (List.getElem?_eq_some_iff.1 hq).1
  have ca := fun W (hb : Below w.heap.size w W) x => refAbove_any hI (h.below hb) x hlen
  have cg := fun W (hb : Below w.heap.size w W) x => refGet_any (h.below hb) x (by omega)
  have cr := fun W (hb : Below w.heap.size w W) x => refRoot_any (h.below hb) x (by omega)
  have hdev : ∀ k, 1 < (gets st.n k).dev → ∃ m, mt (raw st.d) (gets st.n k).dev = some m := fun k e => by
    cases hx : get st.n k with
    | none => rw [gets_none hx] at e; cases e
    | some y =>
      rw [gets_some hx]
      have := hI.devs y (get_some hx).1
      exact mt_in this.1 (by rw [length_raw]; exact this.2)
  have hnm : ∀ k, (∀ e ∈ (gets st.n k).es, e.name.length ≤ 255) ∧ (gets st.n k).es.length ≤ 100000 := fun k => by
    cases hx : get st.n k with
    | none => rw [gets_none hx]; exact ⟨fun e he => (by cases he), Nat.zero_le _⟩
    | some y => rw [gets_some hx]; exact ⟨fun e he => (hI.names y (get_some hx).1 e he).2, hI.few y (get_some hx).1⟩
  have HDV := Lib.hid hdev
  have HNM := Lib.hid hnm
  have x0 := h.facts.1
  have x1 := h.facts.2.1
  have hFl := h.ltF
  obtain ⟨z, hz⟩ : ∃ z, refWhere st (st.n.length + 1) [] no = z := ⟨_, rfl⟩
  rw [hz]
  have HZ := Lib.hid hz
  clear h hI hz hdev hnm
  go_enter Tryz.func64, Tryz.ntmps64
  go_wp2
  go_loopw [1, 6, 7] (fun x s i wr => ∃ (k : Nat) (y : Int) (t : List UInt8), k ≤ st.n.length + 1 ∧ x = .int .i64 y ∧ s = .string ⟨t.toArray⟩ ∧ i = .int .i64 k ∧ t.length ≤ 256 * k ∧ refWhere st (st.n.length + 1 - k) t y = z ∧ Below w.heap.size w wr) (fun _ _ i _ => st.n.length + 1 - (RowKit.intOf i).toNat)
  case atStart => exact ⟨0, no, [], Nat.zero_le _, rfl, rfl, rfl, Nat.zero_le _, HZ.out, Below.refl _ _⟩
  case round =>
    obtain ⟨k, y, t, hk, rfl, rfl, rfl, htl, hr, hb⟩ := hrel
    have x0' := (hb.cell (p := ⟨F, 0, none⟩) hFl).trans x0
    have x1' := (hb.cell (p := ⟨F, 1, none⟩) hFl).trans x1
    by_cases hlt : k ≤ st.n.length
    · have hlt' : (k : Int) ≤ st.n.length := by omega
      have hd0' : (0 : Int) < st.d.length := by omega
      rw [show st.n.length + 1 - k = (st.n.length - k) + 1 by omega, refWhere] at hr
      by_cases hy1 : y = 1
      · rw [if_pos hy1] at hr
        subst hr hy1
        cases t with
        | nil =>
          go_wp2
          go_ret2
          exact ⟨rfl, hb⟩
        | cons c r =>
          go_wp2
          go_ret2
          exact ⟨rfl, hb⟩
      · rw [if_neg hy1] at hr
        have hy1' : (y == 1) = false := by simpa using hy1
        have HR := Lib.hid hr
        have ca1 := ca wr hb y
        have hup := @refAbove_no st y
        clear hr hup
        go_upto_region 10 with (go_at_call 69; refine ca1.mono ?_; rintro e w3 ⟨rfl, hb3⟩)
        have hb4 := hb.trans (hb3.mono hb.size)
        have cg4 := cg w3 hb4 y
        have HC1 := Lib.hid (@refChild_plain st y)
        have HC2 := Lib.hid (@refChild_root st y)
        have HD2 := Lib.hid (HDV.out y)
        generalize hnd : gets st.n y = nd at *
        clear hnd
        obtain ⟨nno, dev, kind, mode, uid, gid, mtm, ct', links, up, data, es⟩ := nd
        dsimp only [T.Nd.v] at cg4 HC1 HC2 HD2
        clear ca1 hb3
        go_upto_region 11 with (go_at_call 12; refine cg4.mono ?_; rintro e w5 ⟨u, rfl, hO, hb5⟩; obtain ⟨ou, cu, rfl⟩ := T.own_slice hO; have D5 := T.BoxN.new ⟨nno, dev, kind, mode, uid, gid, mtm, ct', links, up, data, es⟩ (.slice ou es.length cu) w5)
        have hb6 : Below w.heap.size w (w5.alloc (.cells #[.int .i64 nno, .int .i64 dev, .int .i64 kind, .int .i64 mode, .int .i64 uid, .int .i64 gid, .int .i64 mtm, .int .i64 ct', .int .i64 links, .int .i64 up, .string data, .slice ou es.length cu] 48)) := (hb4.trans (hb5.mono hb4.size)).alloc (by have := hb4.size; have := hb5.size; omega) _
        generalize w5.alloc (.cells #[.int .i64 nno, .int .i64 dev, .int .i64 kind, .int .i64 mode, .int .i64 uid, .int .i64 gid, .int .i64 mtm, .int .i64 ct', .int .i64 links, .int .i64 up, .string data, .slice ou es.length cu] 48) = W6 at D5 hb6 ⊢
        generalize w5.heap.size = b5 at D5 ⊢
        clear cg4 hO hb5 hb4
        have a1 := D5.facts.2.1
        dsimp only at a1
        have y1 := (hb6.cell (p := ⟨F, 1, none⟩) hFl).trans x1
        have cr6 := cr W6 hb6 dev
        -- the child
        obtain ⟨ch, hch⟩ : ∃ c, refChild st y = c := ⟨_, rfl⟩
        have HCH := Lib.hid hch
        rw [hch] at HC1 HC2
        clear hch
        obtain ⟨bb, hbb⟩ : ∃ b, (decide (1 < dev) && decide (rootOf st.d dev = y)) = b := ⟨_, rfl⟩
        go_cut [53] (fun s53 wx => s53 = .bool bb ∧ wx = W6)
        case first =>
          by_cases hd1 : 1 < dev
          · have hd1' : (dev > 1) := hd1
            have hbb' : (rootOf st.d dev == y) = bb := by rw [← hbb, decide_eq_true hd1, Bool.true_and]; exact Bool.eq_iff_iff.2 (by simp)
            generalize rootOf st.d dev = ro at *
            clear HC1 HC2 hbb
            go_wp2_with (go_at_call 60; refine cr6.mono ?_; rintro e w7 ⟨rfl, rfl⟩)
            go_meet
            case rel => exact ⟨rfl, rfl⟩
          · have hbb' : false = bb := by rw [← hbb]; simp [hd1]
            have hd1' : ¬ (dev > 1) := hd1
            subst hbb'
            clear HC1 HC2 hbb
            go_wp2
            go_meet
            case rel => exact ⟨rfl, rfl⟩
        case rest =>
        obtain ⟨rfl, rfl⟩ := hcut
        go_step
        go_cut [9] (fun s9 wx => s9 = .int .i64 ch ∧ Below wc.heap.size wc wx)
        case first =>
          cases bb with
          | true =>
            obtain ⟨hd1, hro⟩ : 1 < dev ∧ rootOf st.d dev = y := by simpa using hbb
            obtain ⟨m, hm⟩ := HD2.out hd1
            obtain rfl := HC2.out hd1 hro hm
            obtain ⟨h1, h2, h3⟩ := mt_some hm
            obtain ⟨i, hi⟩ : ∃ i, (dev - 1).toNat = i := ⟨_, rfl⟩
            rw [hi] at h3
            have hi2 : dev - 1 = (i : Int) := by omega
            rw [length_raw] at h2
            have hi3 : (i : Int) < st.d.length := by omega
            have hi4 : (0 : Int) ≤ (i : Int) := by omega
            have hi5 : i < st.d.length := by omega
            have hi6 : IntKind.i64.wrap (dev - 1) = (i : Int) := by rw [hi2]; exact wrap_id (by omega) (by omega)
            have hi7 : IntKind.i64.wrap (i : Int) = (i : Int) := wrap_id (by omega) (by omega)
            obtain ⟨g, cap', hdv, hat⟩ := (HH.out.below hb6).devs.at h3
            rw [length_raw] at hdv
            have q1 := hat.2.1
            cases hdv
            clear hm h1 h2 h3 hi hat HC1 HC2 hbb hro cr6
            go_wp2
            go_quiet (fail)
            go_wp2_with fail
            go_meet
            case rel => exact ⟨rfl, E.below_drewN _⟩
          | false =>
            obtain rfl := HC1.out (fun e => by simp [e.1, e.2] at hbb)
            clear HC1 HC2 hbb
            go_wp2
            go_meet
            case rel => exact ⟨rfl, Below.refl _ _⟩
        case rest =>
          obtain ⟨rfl, hbc⟩ := hcut
          have hcut0 := HCH.out
          have x6 : Below w.heap.size w wc := hb6.trans (hbc.mono hb6.size)
          have cg6 := cg wc x6 (refAbove st y)
          have HN := Lib.hid (show (E.nameOf (gets st.n (refAbove st y)).es ch).getD [] = refName st y by unfold refName; rw [HCH.out])
          have HM := Lib.hid (HNM.out (refAbove st y))
          have hnl : (refName st y).length ≤ 255 := by unfold refName; exact nameOf_len (HNM.out _).1 _
          have hrl := fun (e : List UInt8) (h : e.length ≤ 255) => add_ll [47] e (by show 1 + e.length ≤ _; omega)
          have hrm := fun (e : List UInt8) (h : e.length ≤ 255) => add_ll (47 :: e) t (by show (e.length + 1) + t.length ≤ _; omega)
          generalize refName st y = nm at *
          generalize gets st.n (refAbove st y) = ng at *
          obtain ⟨gno, gdev, gkind, gmode, guid, ggid, gmtm, gct, glinks, gup, gdata, gs⟩ := ng
          dsimp only [T.Nd.v] at cg6 HN HM
          have hgs := HM.out.2
          clear HC1 HC2 HD2 D5 a1 y1 cr6 hbb hcut0 HCH hb6 hbc
          have hfd : ∀ (o : Option Addr) (c : Nat) (W : World), (Instr.field 48 (.agg #[.int .i64 gno, .int .i64 gdev, .int .i64 gkind, .int .i64 gmode, .int .i64 guid, .int .i64 ggid, .int .i64 gmtm, .int .i64 gct, .int .i64 glinks, .int .i64 gup, .string gdata, .slice o gs.length c]) 11).run Tryz.prog W = .ok (.slice o gs.length c) W := fun _ _ _ => by kernel_rfl
          go_upto_region 14 with (go_at_call 12; refine cg6.mono ?_; rintro e w7 ⟨u7, rfl, hO7, hb7⟩; obtain ⟨o7, c7, rfl, _, hcb⟩ := hO7.sees)
          have x7 : Below w.heap.size w w7 := x6.trans (hb7.mono x6.size)
          have HCB := Lib.hid hcb
          have hgi : (gs.length : Int) ≤ 100000 := by omega
          clear cg6 hO7 hb7 x6 hcb
          go_wp2
          go_loopw [12, 13] (fun b1 i wr2 => ∃ (j : Nat) (q : Int), j ≤ gs.length ∧ q = (j : Int) - 1 ∧ i = .int .i64 q ∧ b1 = .string ⟨((E.nameOf (gs.drop j) ch).getD []).toArray⟩ ∧ wr2 = w7) (fun _ i _ => (RowKit.intOf i + 1).toNat)
          case atStart => exact ⟨gs.length, _, Nat.le_refl _, rfl, by first | rfl | go_num, by rw [List.drop_length]; rfl, rfl⟩
          case round =>
            obtain ⟨j, q, hj, hq, rfl, rfl, rfl⟩ := hrel
            cases j with
            | succ t' =>
              obtain rfl : q = (t' : Int) := by omega
              obtain ⟨x, hx⟩ : ∃ x, gs[t']? = some x := ⟨_, List.getElem?_eq_getElem (by omega)⟩
              obtain ⟨g, o, rfl, h0, h1⟩ := HCB.out t' x hx
              have hti : (t' : Int) < (gs.length : Int) := by omega
              have ht0 : (0 : Int) ≤ (t' : Int) := by omega
              have HD := Lib.hid (drop_cons hx)
              have H2 := Lib.hid (nameOf_cons x (gs.drop (t' + 1)) ch)
              clear hx hq hrl hrm
              generalize E.nameOf (gs.drop (t' + 1)) ch = qq at H2
              by_cases hn2 : x.no = ch
              · have K2 := Lib.hid (H2.out.trans (by rw [if_pos hn2]))
                have hb2 : (x.no == ch) = true := by rw [hn2]; exact beq_self_eq_true _
                clear hn2
                go_wp2
                go_roundw
                case rel => exact ⟨t', (t' : Int) - 1, by omega, rfl, by first | rfl | go_num, by rw [HD.out, K2.out]; rfl, trivial⟩
                case measure => simp [RowKit.intOf]
              · have K2 := Lib.hid (H2.out.trans (by rw [if_neg hn2]))
                have hb2 : (x.no == ch) = false := by rw [beq_eq_false_iff_ne]; exact hn2
                clear hn2
                go_wp2
                go_roundw
                case rel => exact ⟨t', (t' : Int) - 1, by omega, rfl, by first | rfl | go_num, by rw [HD.out, K2.out], trivial⟩
                case measure => simp [RowKit.intOf]
            | zero =>
              have hzn : ¬ (0 : Int) ≤ q := by omega
              rw [List.drop_zero, HN.out]
              have hr := HR.out
              clear HCB HM HN hq
              cases nm with
              | nil =>
                rw [if_pos rfl] at hr
                subst hr
                go_wp2
                go_ret2
                exact ⟨rfl, x7⟩
              | cons c r =>
                rw [if_neg (by simp)] at hr
                have HR2 := Lib.hid hr
                have ha := hrl (c :: r) hnl
                have hbb := hrm (c :: r) hnl
                clear hr hrl hrm
                go_wp2
                go_roundw
                case rel => exact ⟨k + 1, _, 47 :: (c :: r) ++ t, by omega, rfl, rfl, by first | rfl | go_num, by simp only [List.length_append, List.length_cons] at hnl ⊢; omega, by rw [show st.n.length + 1 - (k + 1) = st.n.length - k by omega]; exact HR2.out, x7⟩
                case measure => simp [RowKit.intOf]; omega
    · have hlt' : ¬ (k : Int) ≤ st.n.length := by omega
      rw [show st.n.length + 1 - k = 0 by omega] at hr
      have hr' : none = z := hr
      subst hr'
      clear hr
      go_wp2
      go_ret2
      exact ⟨rfl, hb⟩
end
end Go.Proofs.YtenopnfclbegbaaGreat.G
