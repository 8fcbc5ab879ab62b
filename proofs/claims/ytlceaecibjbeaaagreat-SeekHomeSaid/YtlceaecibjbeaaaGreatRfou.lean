/-
  The reference's Above, Within, Busy.
-/
import Derived.Test.YtlceaecibjbeaaaGreatRthr
import Derived.Test.YtlceaecibjbeaaaGreatWhere
import Derived.Deep.RegionWith
import Derived.BigQuiet
namespace Go.Proofs.YtlceaecibjbeaaaGreat.G
open Go.RowKit Go.Shelf
attribute [local go_sem] Oper.semAt_some

/-- what the reference holds to lie above -/
def refUnder (st : St) (k : Int) : Option Int := if 1 < (gets st.n k).dev ∧ rootOf st.d (gets st.n k).dev = k then (mt (raw st.d) (gets st.n k).dev).map (·.cov) else none
def refAbove (st : St) (k : Int) : Int := if (gets st.n k).kind = 1 then (match refUnder st k with | some j => (gets st.n j).up | none => (gets st.n k).up) else 0
section
variable {B F : Nat} {nv dv : Value} {st : St} {w w' : World}
theorem refAbove_no {k : Int} (h : (gets st.n k).kind ≠ 1) : refAbove st k = 0 := by unfold refAbove; rw [if_neg h]
theorem refAbove_plain {k : Int} (h : (gets st.n k).kind = 1) (h1 : ¬ (1 < (gets st.n k).dev ∧ rootOf st.d (gets st.n k).dev = k)) : refAbove st k = (gets st.n k).up := by
  unfold refAbove refUnder; rw [if_pos h, if_neg h1]
theorem refAbove_root {k : Int} (h : (gets st.n k).kind = 1) (h1 : 1 < (gets st.n k).dev) (h2 : rootOf st.d (gets st.n k).dev = k) {m : Mt} (hm : mt (raw st.d) (gets st.n k).dev = some m) : refAbove st k = (gets st.n m.cov).up := by
  unfold refAbove refUnder; rw [if_pos h, if_pos ⟨h1, h2⟩, hm]; rfl
set_option maxRecDepth 100000 in
set_option maxHeartbeats 8000000 in
theorem refAbove_any (hI : Inv st) (h : Fs B F nv dv st w) (k : Int) (hlen : st.n.length < 900000) :
    Calls Tryz.prog 34 #[.pointer (some ⟨F, 0, none⟩), .int .i64 k] w fun e w' => e = .returned (.int .i64 (refAbove st k)) ∧ Below w.heap.size w w' := by
  obtain ⟨r, hr⟩ : ∃ r, refAbove st k = r := ⟨_, rfl⟩
  have hdl := hI.mounts
  have A1 := Lib.hid (@refAbove_no st k)
  have A2 := Lib.hid (@refAbove_plain st k)
  have A3 := Lib.hid (@refAbove_root st k)
  rw [hr] at A1 A2 A3 ⊢
  clear hr
  have c1 := refGet_any h k (by omega)
  have HH := Lib.hid h
  have cg := fun W (hb : Below w.heap.size w W) j => refGet_any (h.below hb) j (by omega)
  have cr := fun W (hb : Below w.heap.size w W) => refRoot_any (h.below hb) (gets st.n k).dev (by omega)
  have hdev : (gets st.n k).kind = 1 → ∃ m, mt (raw st.d) (gets st.n k).dev = some m := fun e => by
    cases hx : get st.n k with
    | none => rw [gets_none hx] at e; cases e
    | some y =>
      rw [gets_some hx]
      have := hI.devs y (get_some hx).1
      exact mt_in this.1 (by rw [length_raw]; exact this.2)
  have HDV := Lib.hid hdev
  clear h hI hdev
  generalize hnd : gets st.n k = nd at *
  clear hnd
  generalize hro : rootOf st.d nd.dev = ro at *
  clear hro
  obtain ⟨no, dev, kind, mode, uid, gid, mtm, ct', links, up, data, es⟩ := nd
  dsimp only [T.Nd.v] at *
  go_enter Tryz.func34, Tryz.ntmps34
  go_upto_region 2 with (go_at_call 32; refine c1.mono ?_; rintro e w3 ⟨u, rfl, hO, hb3⟩; obtain ⟨ou, cu, rfl⟩ := T.own_slice hO; have D3 := T.BoxN.new ⟨no, dev, kind, mode, uid, gid, mtm, ct', links, up, data, es⟩ (.slice ou es.length cu) w3)
  have hb4 : Below w.heap.size w (w3.alloc (.cells #[.int .i64 no, .int .i64 dev, .int .i64 kind, .int .i64 mode, .int .i64 uid, .int .i64 gid, .int .i64 mtm, .int .i64 ct', .int .i64 links, .int .i64 up, .string data, .slice ou es.length cu] 51)) := hb3.alloc hb3.size _
  have hlt : w.heap.size ≤ w3.heap.size := hb3.size
  generalize w3.alloc (.cells #[.int .i64 no, .int .i64 dev, .int .i64 kind, .int .i64 mode, .int .i64 uid, .int .i64 gid, .int .i64 mtm, .int .i64 ct', .int .i64 links, .int .i64 up, .string data, .slice ou es.length cu] 51) = W4 at D3 hb4 ⊢
  generalize w3.heap.size = b3 at D3 hlt ⊢
  clear hb3 hO c1
  have H4 := HH.out.below hb4
  have cr4 := cr W4 hb4
  obtain ⟨a0, a1, a2, a3, a4, a5, a6, a7, a8, a9, a10, a11⟩ := D3.facts
  dsimp only at a0 a1 a2 a3 a4 a5 a6 a7 a8 a9 a10 a11
  by_cases hk1 : kind = 1
  · subst hk1
    by_cases hd1 : 1 < dev
    · by_cases hro : ro = k
      · obtain ⟨m, hm⟩ := HDV.out rfl
        obtain rfl := A3.out rfl hd1 hro hm
        obtain ⟨h1, h2, h3⟩ := mt_some hm
        obtain ⟨i, hi⟩ : ∃ i, (dev - 1).toNat = i := ⟨_, rfl⟩
        rw [hi] at h3
        have hi2 : dev - 1 = (i : Int) := by omega
        rw [length_raw] at h2
        have hi3 : (i : Int) < st.d.length := by omega
        have hi4 : (0 : Int) ≤ (i : Int) := by omega
        have hi5 : i < st.d.length := by omega
        have hi6 : IntKind.i64.wrap (dev - 1) = (i : Int) := by rw [hi2]; exact wrap_id (by omega) (by omega)
        have hi7 : IntKind.i64.wrap (i : Int) = (i : Int) := wrap_id (by omega) (by omega)
        obtain ⟨g, cap, hdv, hat⟩ := H4.devs.at h3
        rw [length_raw] at hdv
        have q1 := hat.2.1
        subst hdv
        have x1 := H4.facts.2.1
        have cg4 := cg W4.drew (hb4.trans (((Below.refl W4.heap.size W4).drew).mono hb4.size)) m.cov
        subst hro
        clear cr cg A1 A2 A3 hm hi h1 h2 h3 HDV
        obtain ⟨n2, hn2⟩ : ∃ n2, gets st.n m.cov = n2 := ⟨_, rfl⟩
        rw [hn2] at cg4
        have HN2 := Lib.hid hn2
        clear hn2 hat
        obtain ⟨cv, hcv⟩ : ∃ c, m.cov = c := ⟨_, rfl⟩
        rw [hcv] at cg4 q1
        clear hcv
        obtain ⟨no2, dev2, kind2, mode2, uid2, gid2, mt2, ct2, links2, up2, data2, es2⟩ := n2
        dsimp only at cg4
        go_upto_region 5 with (go_at_call 72; refine cr4.mono ?_; rintro e w5 ⟨rfl, rfl⟩)
        have hdr : Below W4.heap.size W4 W4.drew := (Below.refl _ _).drew
        have D5 := D3.below hdr
        have hb5 := below_two hb4 hdr
        have y1 : W4.drew.cell? ⟨b3, 1, none⟩ = some (.int .i64 dev) := a1
        have y2 : W4.drew.cell? ⟨F, 1, none⟩ = some (.slice (some ⟨g, 0, none⟩) st.d.length cap) := x1
        have y3 : W4.drew.cell? ⟨g, i * 6 + 1, none⟩ = some (.int .i64 cv) := q1
        clear a0 a1 a2 a3 a4 a5 a6 a7 a8 a9 a10 a11 D3 hb4 H4
        have l1 := D5.lt
        go_region_with (go_at_call 32; refine cg4.mono ?_; rintro e w6 ⟨u6, rfl, hO6, hb6⟩; obtain ⟨ou6, cu6, rfl⟩ := T.own_slice hO6; have D6 := D5.below hb6; obtain ⟨p0, p1, p2, p3, p4, p5, p6, p7, p8, p9, p10, p11⟩ := D6.facts; obtain ⟨f0, f1, f2, f3, f4, f5, f6, f7, f8, f9, f10, f11⟩ := D6.open)
        all_goals
          have D7 := D6.fill ⟨no2, dev2, kind2, mode2, uid2, gid2, mt2, ct2, links2, up2, data2, es2⟩ (.slice ou6 es2.length cu6)
          have hb8 := (below_two hb5 hb6).trans (T.below_fill hlt w6 ⟨no2, dev2, kind2, mode2, uid2, gid2, mt2, ct2, links2, up2, data2, es2⟩ (.slice ou6 es2.length cu6))
          unfold T.fill at D7 hb8
          generalize World.setCell _ _ _ = W8 at D7 hb8 ⊢
          clear p0 p1 p2 p3 p4 p5 p6 p7 p8 p9 p10 p11 f0 f1 f2 f3 f4 f5 f6 f7 f8 f9 f10 f11
          obtain ⟨_, _, _, _, _, _, _, _, _, q9, _, _⟩ := D7.facts
          go_wp2
          go_ret
          exact ⟨by rw [HN2.out]; rfl, hb8⟩
      · have hro' : (ro == k) = false := by simpa using hro
        obtain rfl := A2.out rfl (fun e => hro e.2)
        go_wp2_with (go_at_call 72; refine cr4.mono ?_; rintro e w5 ⟨rfl, rfl⟩)
        go_ret
        exact ⟨rfl, hb4⟩
    · obtain rfl := A2.out rfl (fun e => hd1 e.1)
      go_wp2
      go_ret
      exact ⟨rfl, hb4⟩
  · have hk1' : (kind == 1) = false := by simpa using hk1
    obtain rfl := A1.out hk1
    go_wp2
    go_ret
    exact ⟨rfl, hb4⟩
end
end Go.Proofs.YtlceaecibjbeaaaGreat.G
/-
  The reference's Within, Busy.
-/
namespace Go.Proofs.YtlceaecibjbeaaaGreat.G
open Go.RowKit Go.Shelf
attribute [local go_sem] Oper.semAt_some

def refWithin (st : St) : Nat → Int → Int → Bool
  | 0, _, _ => false
  | f + 1, x, base => if x = 0 then false else if x = base then true else refWithin st f (refAbove st x) base
def refBusy (st : St) (no : Int) : Bool := ((raw st.d).drop 1).any fun m => refWithin st (st.n.length + 1) m.cov no
section
variable {B F : Nat} {nv dv : Value} {st : St} {w w' : World}
theorem Fs.nlen (h : Fs B F nv dv st w) : ∃ oa cap, nv = .slice oa st.n.length cap := by
  obtain ⟨l, h1, h2, _⟩ := h.nodes
  obtain ⟨oa, cap, e, _⟩ := h2.sees
  exact ⟨oa, cap, by rw [e, ← h1, List.length_map]⟩
end
end Go.Proofs.YtlceaecibjbeaaaGreat.G
/-
  The reference's Where.
-/
namespace Go.Proofs.YtlceaecibjbeaaaGreat.G
open Go.RowKit Go.Shelf
attribute [local go_sem] Oper.semAt_some

def refChild (st : St) (x : Int) : Int := (refUnder st x).getD x
/-- the name that the reference finds; none: the empty one -/
def refName (st : St) (x : Int) : List UInt8 := (E.nameOf (gets st.n (refAbove st x)).es (refChild st x)).getD []
def refWhere (st : St) : Nat → List UInt8 → Int → Option (List UInt8)
  | 0, _, _ => none
  | f + 1, s, x => if x = 1 then some (if s = [] then [47] else s) else if refName st x = [] then none else refWhere st f (47 :: refName st x ++ s) (refAbove st x)
theorem nameOf_cons (x : E.Ent) (r : List E.Ent) (no : Int) : E.nameOf (x :: r) no = if x.no = no then some x.name else E.nameOf r no := by
  unfold E.nameOf
  rw [List.find?_cons]
  by_cases h : x.no = no <;> simp [h]
theorem nameOf_len {ls : List E.Ent} (h : ∀ e ∈ ls, e.name.length ≤ 255) (no : Int) : ((E.nameOf ls no).getD []).length ≤ 255 := by
  unfold E.nameOf
  cases e : ls.find? fun x => decide (x.no = no) with
  | none => exact Nat.zero_le _
  | some x => exact h x (List.mem_of_find?_eq_some e)
theorem refChild_plain {st : St} {k : Int} (h1 : ¬ (1 < (gets st.n k).dev ∧ rootOf st.d (gets st.n k).dev = k)) : refChild st k = k := by
  unfold refChild refUnder; rw [if_neg h1]; rfl
theorem refChild_root {st : St} {k : Int} (h1 : 1 < (gets st.n k).dev) (h2 : rootOf st.d (gets st.n k).dev = k) {m : Mt} (hm : mt (raw st.d) (gets st.n k).dev = some m) : refChild st k = m.cov := by
  unfold refChild refUnder; rw [if_pos ⟨h1, h2⟩, hm]; rfl
theorem drop_cons {α : Type} {ls : List α} {k : Nat} {x : α} (h : ls[k]? = some x) : ls.drop k = x :: ls.drop (k + 1) := by
  obtain ⟨hk, he⟩ := List.getElem?_eq_some_iff.1 h
  rw [List.drop_eq_getElem_cons hk, he]
section
variable {B F : Nat} {nv dv : Value} {st : St} {w w' : World}
end
end Go.Proofs.YtlceaecibjbeaaaGreat.G
