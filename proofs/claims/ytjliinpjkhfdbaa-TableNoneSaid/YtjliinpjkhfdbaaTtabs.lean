/-
  A node, a slice of deeds, a slice of bytes as arguments.
-/
import Derived.Test.YtjliinpjkhfdbaaEtabs
import Derived.Test.YtjliinpjkhfdbaaTpmath
import Derived.Test.YtjliinpjkhfdbaaTonce
import Derived.SizedLaws
namespace Go.Proofs.Ytjliinpjkhfdbaa.T
open Go.ChangeShapes Go.WideShapes Go.ChangeAt Go.RowKit Go.Deep
open E (rows_at of_at cell_int cell_string cell_slice list_of cells3 cellsS drop_take_one ents_of)
set_option maxRecDepth 100000

theorem laidOut : laidOutB Try.prog = true := by kernel_rfl
theorem cellsN : Try.prog.cellsOf 29 = 12 := by kernel_rfl
theorem cellsD : Try.prog.cellsOf 31 = 13 := by kernel_rfl
theorem cellsL : Try.prog.cellsOf 27 = 1 := by kernel_rfl
theorem cellsB : Try.prog.cellsOf 5 = 1 := by kernel_rfl
theorem bytesE : Try.prog.bytesOf 54 = 24 := by kernel_rfl
theorem wf_lit {k : Int} (h : (Lit.int .i64 k).wf = true) : Wf k := h

section
variable {H : Type} {enc : TypeId × Value → H} {w : World} {base : Nat} {spare : Nat → Bool} {held : Bool} {fuel : Nat}
/-- a slice of entries: what lies there, and that it may be copied -/
theorem list_ents {cs : List Value} {x : DataW H × List MemPlace} (h : DataW.trod enc Try.prog w base spare held fuel 27 cs = some x) :
    ∃ (es : List E.Ent) (oa : Option Addr) (c : Nat), cs = [.slice oa es.length c] ∧ E.Sees (.slice oa es.length c) es w ∧ ((∀ m ∈ x.1.weights Try.prog 27, m ≤ reachBytes) → Fits es) := by
  rcases DataW.trod_slice Try.underlying27 h with ⟨rfl, hx⟩ | ⟨a, len, cap, elems, rest, n, _, rfl, hx, _, _, _, hlen, _⟩
  · exact ⟨[], none, 0, rfl, E.sees_none _ _ (Nat.zero_le _) _, fun _ => by unfold Fits; decide⟩
  · obtain ⟨es, hs, _⟩ := ents_of h
    obtain ⟨oa, c, e, _⟩ := id hs
    cases e
    refine ⟨es, _, _, rfl, hs, fun hw => ?_⟩
    have := hw ((elems.length + rest.length) * 24) (by
      rw [hx]
      simp only [DataW.weights, Try.underlying27, bytesE, List.length_map]
      exact List.mem_cons_self)
    unfold Fits
    unfold reachBytes at this
    omega
theorem twelve {cs : List Value} {u0 u1 u2 u3 u4 u5 u6 u7 u8 u9 u10 u11 : Value} (hl : cs.length = 12) (e0 : cs[0]? = some u0) (e1 : cs[1]? = some u1) (e2 : cs[2]? = some u2) (e3 : cs[3]? = some u3) (e4 : cs[4]? = some u4) (e5 : cs[5]? = some u5) (e6 : cs[6]? = some u6) (e7 : cs[7]? = some u7) (e8 : cs[8]? = some u8) (e9 : cs[9]? = some u9) (e10 : cs[10]? = some u10) (e11 : cs[11]? = some u11) : cs = [u0, u1, u2, u3, u4, u5, u6, u7, u8, u9, u10, u11] := by
  match cs, hl, e0, e1, e2, e3, e4, e5, e6, e7, e8, e9, e10, e11 with
  | [a0, a1, a2, a3, a4, a5, a6, a7, a8, a9, a10, a11], _, e0, e1, e2, e3, e4, e5, e6, e7, e8, e9, e10, e11 =>
    obtain rfl : a0 = u0 := Option.some.inj e0
    obtain rfl : a1 = u1 := Option.some.inj e1
    obtain rfl : a2 = u2 := Option.some.inj e2
    obtain rfl : a3 = u3 := Option.some.inj e3
    obtain rfl : a4 = u4 := Option.some.inj e4
    obtain rfl : a5 = u5 := Option.some.inj e5
    obtain rfl : a6 = u6 := Option.some.inj e6
    obtain rfl : a7 = u7 := Option.some.inj e7
    obtain rfl : a8 = u8 := Option.some.inj e8
    obtain rfl : a9 = u9 := Option.some.inj e9
    obtain rfl : a10 = u10 := Option.some.inj e10
    obtain rfl : a11 = u11 := Option.some.inj e11
    rfl
/-- a node, cell by cell -/
theorem node_of {cs : List Value} {x : DataW H × List MemPlace} (h : DataW.trod enc Try.prog w base spare held fuel 29 cs = some x) :
    ∃ (n : Nd) (s : Value), cs = n.cs s ∧ E.Sees s n.es w ∧ Wf n.no ∧ ((∀ m ∈ x.1.weights Try.prog 29, m ≤ reachBytes) → Fits n.es) := by
  obtain ⟨xs, n', _, hx, hcl, hxl, hf⟩ := DataW.trod_struct Try.underlying29 h
  rw [cellsN] at hcl
  have hxl2 : xs.length = 12 := hxl
  have f0 : DataW.trod enc Try.prog w base spare held n' 3 ((cs.drop 0).take (Try.prog.cellsOf 3)) = xs[0]? := hf 0 _ rfl
  have f1 : DataW.trod enc Try.prog w base spare held n' 3 ((cs.drop 1).take (Try.prog.cellsOf 3)) = xs[1]? := hf 1 _ rfl
  have f2 : DataW.trod enc Try.prog w base spare held n' 3 ((cs.drop 2).take (Try.prog.cellsOf 3)) = xs[2]? := hf 2 _ rfl
  have f3 : DataW.trod enc Try.prog w base spare held n' 3 ((cs.drop 3).take (Try.prog.cellsOf 3)) = xs[3]? := hf 3 _ rfl
  have f4 : DataW.trod enc Try.prog w base spare held n' 3 ((cs.drop 4).take (Try.prog.cellsOf 3)) = xs[4]? := hf 4 _ rfl
  have f5 : DataW.trod enc Try.prog w base spare held n' 3 ((cs.drop 5).take (Try.prog.cellsOf 3)) = xs[5]? := hf 5 _ rfl
  have f6 : DataW.trod enc Try.prog w base spare held n' 3 ((cs.drop 6).take (Try.prog.cellsOf 3)) = xs[6]? := hf 6 _ rfl
  have f7 : DataW.trod enc Try.prog w base spare held n' 3 ((cs.drop 7).take (Try.prog.cellsOf 3)) = xs[7]? := hf 7 _ rfl
  have f8 : DataW.trod enc Try.prog w base spare held n' 3 ((cs.drop 8).take (Try.prog.cellsOf 3)) = xs[8]? := hf 8 _ rfl
  have f9 : DataW.trod enc Try.prog w base spare held n' 3 ((cs.drop 9).take (Try.prog.cellsOf 3)) = xs[9]? := hf 9 _ rfl
  have f10 : DataW.trod enc Try.prog w base spare held n' 9 ((cs.drop 10).take (Try.prog.cellsOf 9)) = xs[10]? := hf 10 _ rfl
  have f11 : DataW.trod enc Try.prog w base spare held n' 27 ((cs.drop 11).take (Try.prog.cellsOf 27)) = xs[11]? := hf 11 _ rfl
  rw [cells3] at f0 f1 f2 f3 f4 f5 f6 f7 f8 f9
  rw [cellsS] at f10
  rw [cellsL] at f11
  have g11 : xs[11]? = some (xs[11]'(by omega)) := List.getElem?_eq_getElem (by omega)
  rw [List.getElem?_eq_getElem (by omega)] at f0 f1 f2 f3 f4 f5 f6 f7 f8 f9 f10 f11
  obtain ⟨z0, e0, _, hwf⟩ := DataW.trod_int Try.underlying3 f0
  obtain ⟨z1, e1, _, _⟩ := DataW.trod_int Try.underlying3 f1
  obtain ⟨z2, e2, _, _⟩ := DataW.trod_int Try.underlying3 f2
  obtain ⟨z3, e3, _, _⟩ := DataW.trod_int Try.underlying3 f3
  obtain ⟨z4, e4, _, _⟩ := DataW.trod_int Try.underlying3 f4
  obtain ⟨z5, e5, _, _⟩ := DataW.trod_int Try.underlying3 f5
  obtain ⟨z6, e6, _, _⟩ := DataW.trod_int Try.underlying3 f6
  obtain ⟨z7, e7, _, _⟩ := DataW.trod_int Try.underlying3 f7
  obtain ⟨z8, e8, _, _⟩ := DataW.trod_int Try.underlying3 f8
  obtain ⟨z9, e9, _, _⟩ := DataW.trod_int Try.underlying3 f9
  obtain ⟨z10, e10, _, _⟩ := DataW.trod_string Try.underlying9 f10
  obtain ⟨es, oa, c, e11, hs, hfit⟩ := list_ents f11
  have e0 := drop_take_one e0; have e1 := drop_take_one e1; have e2 := drop_take_one e2; have e3 := drop_take_one e3; have e4 := drop_take_one e4; have e5 := drop_take_one e5
  have e6 := drop_take_one e6; have e7 := drop_take_one e7; have e8 := drop_take_one e8; have e9 := drop_take_one e9; have e10 := drop_take_one e10; have e11 := drop_take_one e11
  refine ⟨⟨z0, z1, z2, z3, z4, z5, z6, z7, z8, z9, z10, es⟩, .slice oa es.length c, ?_, hs, wf_lit hwf, fun hw => hfit fun m hm => hw m ?_⟩
  · exact twelve hcl e0 e1 e2 e3 e4 e5 e6 e7 e8 e9 e10 e11
  · rw [hx]
    simp only [DataW.weights, Try.underlying29]
    refine DataW.weights_mem_each (j := 11) (t := 27) (d := (xs[11]'(by omega)).1) rfl (by rw [List.getElem?_map, g11]; rfl) m hm

/-- a node by value -/
theorem open_node {r : Reach} {base0 : Nat} {v : Value} {d : DataW H} {ps : List MemPlace} (hval : Value.okWide Try.prog w r base0 29 v) (h : DataW.Trod enc Try.prog w base spare held 29 v d ps) :
    ∃ (n : Nd) (s : Value), v = n.v s ∧ E.Sees s n.es w ∧ Wf n.no := by
  obtain ⟨cs, rfl, _, _⟩ : ∃ cs, v = .agg cs ∧ cs.size = Try.prog.cellsOf 29 ∧ Row.okWide Try.prog w r base0 29 cs := by
    simpa [Value.okWide, Try.underlying29] using hval
  obtain ⟨fuel, hf⟩ := h
  obtain ⟨n, s, hcs, hs, hw, _⟩ := node_of hf
  refine ⟨n, s, ?_, hs, hw⟩
  obtain ⟨l⟩ := cs
  have : l = n.cs s := by simpa [Value.cells] using hcs
  subst this
  rfl

/-- a slice of bytes -/
theorem bites_of {a : Option Addr} {len cap : Nat} {x : DataW H × List MemPlace}
    (h : DataW.trod enc Try.prog w base spare held fuel 41 [.slice a len cap] = some x) : ∃ bs, Bites (.slice a len cap) bs w ∧ bs.length ≤ 9223372036854775807 := by
  rcases open_slice Try.underlying41 h with ⟨hcs, _⟩ | ⟨b, len', cap', m, n, D, Pl, hcs, _, hl, hm, hmm, _, hi⟩
  · simp at hcs
    obtain ⟨rfl, rfl, rfl⟩ := hcs
    exact ⟨[], ⟨none, 0, rfl, by simp, fun k b hk => by simp at hk⟩, by simp⟩
  · simp at hcs
    obtain ⟨rfl, rfl, rfl⟩ := hcs
    have hle : len ≤ m := by rw [hmm]; split <;> omega
    rw [cellsB] at hi
    have each : ∀ i, i < len → ∃ y : Int, (0 ≤ y ∧ y ≤ 255) ∧ w.cell? (b.add (i * 1)) = some (.int .u8 y) := by
      intro i hlt
      obtain ⟨cs, hc, ht⟩ := hi i (by omega)
      obtain ⟨_, hcl, hat⟩ := World.cells?_some hc
      obtain ⟨z, e, _, hwf⟩ := DataW.trod_int Try.underlying5 ht
      refine ⟨z, bounds_u8 hwf, ?_⟩
      have := hat 0 (by decide)
      rw [e] at this
      simpa [Addr.add] using this
    obtain ⟨ls, hls, hP⟩ := list_of len each
    have hlm : ls.length ≤ 9223372036854775807 := by rw [hls]; unfold maxLen at hm; omega
    refine ⟨ls, ⟨some b, cap, by rw [hls], hlm, fun k y hk => ?_⟩, hlm⟩
    obtain ⟨⟨h1, h2⟩, h0⟩ := hP k y hk
    have hb0 := (hP 0 (ls[0]'(by have := (List.getElem?_eq_some_iff.1 hk).1; omega)) (List.getElem?_eq_getElem _)).2
    obtain ⟨g, o, spot⟩ := b
    have hspot : spot = none := by simpa [Addr.add] using World.cell?_spot hb0
    subst hspot
    rw [E.add_at, Nat.mul_one] at h0
    exact ⟨h1, h2, g, o, rfl, h0⟩

/-- a slice of deeds -/
theorem deeds_of {a : Option Addr} {len cap : Nat} {x : DataW H × List MemPlace}
    (h : DataW.trod enc Try.prog w base spare held fuel 22 [.slice a len cap] = some x) (hw : ∀ m ∈ x.1.weights Try.prog 22, m ≤ reachBytes) : ∃ ds, Deeds (.slice a len cap) ds w := by
  rcases open_slice Try.underlying22 h with ⟨hcs, _⟩ | ⟨b, len', cap', m, n, D, Pl, hcs, _, hl, hm, hmm, hx, hi⟩
  · simp at hcs
    obtain ⟨rfl, rfl, rfl⟩ := hcs
    exact ⟨[], none, 0, rfl, by simp, fun k b hk => by simp at hk⟩
  · simp at hcs
    obtain ⟨rfl, rfl, rfl⟩ := hcs
    have hle : len ≤ m := by rw [hmm]; split <;> omega
    rw [cellsD] at hi
    have each : ∀ i, i < len → ∃ y : Int × Nd × Value, (w.cell? (b.add (i * 13)) = some (.int .i64 y.1) ∧ ∀ j, j < 12 → w.cell? ((b.add (i * 13)).add (1 + j)) = (y.2.1.cs y.2.2)[j]?) ∧ E.Sees y.2.2 y.2.1.es w ∧ Fits y.2.1.es ∧ Wf y.2.1.no := by
      intro i hlt
      obtain ⟨cs, hc, ht⟩ := hi i (by omega)
      obtain ⟨_, hcl, hat⟩ := World.cells?_some hc
      obtain ⟨xs, n', _, hxx, _, hxl, hf⟩ := DataW.trod_struct Try.underlying31 ht
      have f0 : DataW.trod enc Try.prog w base spare held n' 3 ((cs.drop 0).take (Try.prog.cellsOf 3)) = xs[0]? := hf 0 _ rfl
      have f1 : DataW.trod enc Try.prog w base spare held n' 29 ((cs.drop 1).take (Try.prog.cellsOf 29)) = xs[1]? := hf 1 _ rfl
      rw [cells3] at f0
      rw [cellsN] at f1
      have hxl2 : xs.length = 2 := hxl
      have g1 : xs[1]? = some (xs[1]'(by omega)) := List.getElem?_eq_getElem (by omega)
      rw [List.getElem?_eq_getElem (by omega)] at f0 f1
      obtain ⟨z0, e0, _, _⟩ := DataW.trod_int Try.underlying3 f0
      obtain ⟨nd, s, e1, hs, hwf, hfit⟩ := node_of f1
      refine ⟨⟨z0, nd, s⟩, ⟨?_, fun j hj => ?_⟩, hs, hfit fun q hq => hw q ?_, hwf⟩
      · have := hat 0 (by decide)
        rw [drop_take_one e0] at this
        simpa [Addr.add] using this
      · rw [hat (1 + j) (by omega)]
        have := congrArg (fun l => l[j]?) e1
        simp only [List.getElem?_take, List.getElem?_drop, if_pos hj] at this
        exact this
      · rw [hx]
        simp only [DataW.weights, Try.underlying22]
        refine List.mem_cons_of_mem _ (List.mem_append_left _ ?_)
        have all : ∀ (l : List (DataW H)) (d : DataW H), d ∈ l → ∀ q ∈ d.weights Try.prog 31, q ∈ DataW.weightsAll Try.prog 31 l := by
          intro l
          induction l with
          | nil => intro d hd; cases hd
          | cons y r ih =>
            intro d hd q hq
            simp only [DataW.weightsAll, List.mem_append]
            rcases List.mem_cons.1 hd with rfl | hd
            · exact .inl hq
            · exact .inr (ih d hd q hq)
        have hD : D i = .agg (xs.map (·.1)) := congrArg Prod.fst hxx
        refine all _ (D i) (List.mem_map.2 ⟨i, List.mem_range.2 hlt, rfl⟩) q ?_
        rw [hD]
        simp only [DataW.weights, Try.underlying31]
        exact DataW.weights_mem_each (j := 1) (t := 29) (d := (xs[1]'(by omega)).1) rfl (by rw [List.getElem?_map, g1]; rfl) q hq
    obtain ⟨ls, hls, hP⟩ := list_of len each
    have hlm : ls.length ≤ 9223372036854775807 := by rw [hls]; unfold maxLen at hm; omega
    refine ⟨ls, some b, cap, by rw [hls], hlm, fun k y hk => ?_⟩
    obtain ⟨⟨h0, h1⟩, h2, h3, h4⟩ := hP k y hk
    have hb0 := (hP 0 (ls[0]'(by have := (List.getElem?_eq_some_iff.1 hk).1; omega)) (List.getElem?_eq_getElem _)).1.1
    obtain ⟨g, o, spot⟩ := b
    have hspot : spot = none := by simpa [Addr.add] using World.cell?_spot hb0
    subst hspot
    rw [E.add_at] at h0
    refine ⟨⟨g, o, rfl, h0, fun j hj => ?_⟩, h2, h3, h4⟩
    have := h1 j hj
    rw [E.add_at, E.add_at] at this
    rw [Nat.add_assoc (o + k * 13)]
    exact this
end
end Go.Proofs.Ytjliinpjkhfdbaa.T
