/-
  Acts as arguments; two limits.
-/
import Derived.Test.YtenopnfclbegbaaGreatLways
import Derived.Test.YtenopnfclbegbaaGreatBacs
namespace Go.Proofs.YtenopnfclbegbaaGreat.BR
open Go.ChangeShapes Go.WideShapes Go.ChangeAt Go.RowKit Go.Deep G
open E (rows_at of_at list_of cells3 cellsS drop_take_one cell_int cell_string)
set_option maxRecDepth 100000

theorem laidOut : laidOutB Tryz.prog = true := by kernel_rfl
theorem cellsA : Tryz.prog.cellsOf 42 = 10 := by kernel_rfl
theorem cellsC : Tryz.prog.cellsOf 40 = 2 := by kernel_rfl
theorem cell_u16 {P : Program} {w : World} {r : Reach} {base : Nat} {t : TypeId} {v : Value} (ht : P.underlying t = some (.int .u16)) (h : Cell.okWide P w r base t v) : ∃ n, v = .int .u16 n ∧ 0 ≤ n ∧ n ≤ 65535 := by
  simp only [Cell.okWide, ht] at h
  cases v <;> simp_all [Cell.ok]
  obtain ⟨_, h1, h2⟩ := h
  exact ⟨h1, h2⟩
theorem open_two16 {w : World} {r : Reach} {base : Nat} {v : Value} (hval : Value.okWide Tryz.prog w r base 23 v) : ∃ x y, (0 ≤ x ∧ x ≤ 65535) ∧ (0 ≤ y ∧ y ≤ 65535) ∧ v = .agg #[.int .u16 x, .int .u16 y] := by
  obtain ⟨cs, rfl, hsz, hrow⟩ : ∃ cs, v = .agg cs ∧ cs.size = Tryz.prog.cellsOf 23 ∧ Row.okWide Tryz.prog w r base 23 cs := by
    simpa [Value.okWide, Tryz.underlying23] using hval
  rw [show Tryz.prog.cellsOf 23 = 2 by kernel_rfl] at hsz
  have hr := rows_at (ts := [22, 22]) (by kernel_rfl) hsz hrow
  obtain ⟨l⟩ := cs
  match l, hsz with
  | [z0, z1], _ =>
    obtain ⟨x0, rfl, h0⟩ := cell_u16 Tryz.underlying22 (of_at hr 0 _ _ rfl rfl)
    obtain ⟨x1, rfl, h1⟩ := cell_u16 Tryz.underlying22 (of_at hr 1 _ _ rfl rfl)
    exact ⟨x0, x1, h0, h1, rfl⟩
/-- an act -/
theorem open_act {w : World} {r : Reach} {base : Nat} {v : Value} (hval : Value.okWide Tryz.prog w r base 42 v) : ∃ a : Ac, v = a.v := by
  obtain ⟨cs, rfl, hsz, hrow⟩ : ∃ cs, v = .agg cs ∧ cs.size = Tryz.prog.cellsOf 42 ∧ Row.okWide Tryz.prog w r base 42 cs := by
    simpa [Value.okWide, Tryz.underlying42] using hval
  rw [cellsA] at hsz
  have hr := rows_at (ts := [3, 3, 3, 3, 3, 3, 9, 9, 3, 9]) (by kernel_rfl) hsz hrow
  obtain ⟨l⟩ := cs
  match l, hsz with
  | [z0, z1, z2, z3, z4, z5, z6, z7, z8, z9], _ =>
    obtain ⟨x0, rfl⟩ := cell_int Tryz.underlying3 (of_at hr 0 _ _ rfl rfl)
    obtain ⟨x1, rfl⟩ := cell_int Tryz.underlying3 (of_at hr 1 _ _ rfl rfl)
    obtain ⟨x2, rfl⟩ := cell_int Tryz.underlying3 (of_at hr 2 _ _ rfl rfl)
    obtain ⟨x3, rfl⟩ := cell_int Tryz.underlying3 (of_at hr 3 _ _ rfl rfl)
    obtain ⟨x4, rfl⟩ := cell_int Tryz.underlying3 (of_at hr 4 _ _ rfl rfl)
    obtain ⟨x5, rfl⟩ := cell_int Tryz.underlying3 (of_at hr 5 _ _ rfl rfl)
    obtain ⟨x6, rfl⟩ := cell_string Tryz.underlying9 (of_at hr 6 _ _ rfl rfl)
    obtain ⟨x7, rfl⟩ := cell_string Tryz.underlying9 (of_at hr 7 _ _ rfl rfl)
    obtain ⟨x8, rfl⟩ := cell_int Tryz.underlying3 (of_at hr 8 _ _ rfl rfl)
    obtain ⟨x9, rfl⟩ := cell_string Tryz.underlying9 (of_at hr 9 _ _ rfl rfl)
    exact ⟨⟨x0, x1, x2, x3, x4, x5, x6.data.toList, x7, x8, x9⟩, by simp [Ac.v]⟩
section
variable {H : Type} {enc : TypeId × Value → H} {w : World} {base : Nat} {spare : Nat → Bool} {held : Bool} {fuel : Nat}
/-- a slice of acts -/
theorem acts_of {a : Option Addr} {len cap : Nat} {x : DataW H × List MemPlace}
    (h : DataW.trod enc Tryz.prog w base spare held fuel 25 [.slice a len cap] = some x) : ∃ ls, AcSees (.slice a len cap) ls w ∧ True := by
  rcases open_slice Tryz.underlying25 h with ⟨hcs, _⟩ | ⟨b, len', cap', m, n, D, Pl, hcs, _, hl, hm, hmm, _, hi⟩
  · simp at hcs
    obtain ⟨rfl, rfl, rfl⟩ := hcs
    exact ⟨[], acSees_none none 0 (Nat.zero_le _) w, trivial⟩
  · simp at hcs
    obtain ⟨rfl, rfl, rfl⟩ := hcs
    have hle : len ≤ m := by rw [hmm]; split <;> omega
    rw [cellsA] at hi
    have each : ∀ i, i < len → ∃ y : Ac, w.cell? (b.add (i * 10)) = some (.int .i64 y.kind)
          ∧ w.cell? ((b.add (i * 10)).add 1) = some (.int .i64 y.cu)
          ∧ w.cell? ((b.add (i * 10)).add 2) = some (.int .i64 y.cg)
          ∧ w.cell? ((b.add (i * 10)).add 3) = some (.int .i64 y.dir)
          ∧ w.cell? ((b.add (i * 10)).add 4) = some (.int .i64 y.no)
          ∧ w.cell? ((b.add (i * 10)).add 5) = some (.int .i64 y.n)
          ∧ w.cell? ((b.add (i * 10)).add 6) = some (.string ⟨y.name.toArray⟩)
          ∧ w.cell? ((b.add (i * 10)).add 7) = some (.string y.text)
          ∧ w.cell? ((b.add (i * 10)).add 8) = some (.int .i64 y.tgt)
          ∧ w.cell? ((b.add (i * 10)).add 9) = some (.string y.asn) := by
      intro i hlt
      obtain ⟨cs, hc, ht⟩ := hi i (by omega)
      obtain ⟨_, hcl, hat⟩ := World.cells?_some hc
      obtain ⟨xs, n', _, _, _, hxl, hf⟩ := DataW.trod_struct Tryz.underlying42 ht
      have f0 : DataW.trod enc Tryz.prog w base spare held n' 3 ((cs.drop 0).take (Tryz.prog.cellsOf 3)) = xs[0]? := hf 0 _ rfl
      have f1 : DataW.trod enc Tryz.prog w base spare held n' 40 ((cs.drop 1).take (Tryz.prog.cellsOf 40)) = xs[1]? := hf 1 _ rfl
      have f2 : DataW.trod enc Tryz.prog w base spare held n' 3 ((cs.drop 3).take (Tryz.prog.cellsOf 3)) = xs[2]? := hf 2 _ rfl
      have f3 : DataW.trod enc Tryz.prog w base spare held n' 3 ((cs.drop 4).take (Tryz.prog.cellsOf 3)) = xs[3]? := hf 3 _ rfl
      have f4 : DataW.trod enc Tryz.prog w base spare held n' 3 ((cs.drop 5).take (Tryz.prog.cellsOf 3)) = xs[4]? := hf 4 _ rfl
      have f5 : DataW.trod enc Tryz.prog w base spare held n' 9 ((cs.drop 6).take (Tryz.prog.cellsOf 9)) = xs[5]? := hf 5 _ rfl
      have f6 : DataW.trod enc Tryz.prog w base spare held n' 9 ((cs.drop 7).take (Tryz.prog.cellsOf 9)) = xs[6]? := hf 6 _ rfl
      have f7 : DataW.trod enc Tryz.prog w base spare held n' 3 ((cs.drop 8).take (Tryz.prog.cellsOf 3)) = xs[7]? := hf 7 _ rfl
      have f8 : DataW.trod enc Tryz.prog w base spare held n' 9 ((cs.drop 9).take (Tryz.prog.cellsOf 9)) = xs[8]? := hf 8 _ rfl
      rw [cellsS] at f5 f6 f8
      rw [cells3] at f0 f2 f3 f4 f7
      rw [cellsC] at f1
      have hxl2 : xs.length = 9 := hxl
      rw [List.getElem?_eq_getElem (by omega)] at f0 f1 f2 f3 f4 f5 f6 f7 f8
      obtain ⟨z0, e0, _, _⟩ := DataW.trod_int Tryz.underlying3 f0
      obtain ⟨z3, e3, _, _⟩ := DataW.trod_int Tryz.underlying3 f2
      obtain ⟨z4, e4, _, _⟩ := DataW.trod_int Tryz.underlying3 f3
      obtain ⟨z5, e5, _, _⟩ := DataW.trod_int Tryz.underlying3 f4
      obtain ⟨z6, e6, _, _⟩ := DataW.trod_string Tryz.underlying9 f5
      obtain ⟨z7, e7, _, _⟩ := DataW.trod_string Tryz.underlying9 f6
      obtain ⟨z8, e8, _, _⟩ := DataW.trod_int Tryz.underlying3 f7
      obtain ⟨z9, e9, _, _⟩ := DataW.trod_string Tryz.underlying9 f8
      obtain ⟨ys, n2, _, _, _, hyl, hg⟩ := DataW.trod_struct Tryz.underlying40 f1
      have g0 : DataW.trod enc Tryz.prog w base spare held n2 3 ((((cs.drop 1).take 2).drop 0).take (Tryz.prog.cellsOf 3)) = ys[0]? := hg 0 _ rfl
      have g1 : DataW.trod enc Tryz.prog w base spare held n2 3 ((((cs.drop 1).take 2).drop 1).take (Tryz.prog.cellsOf 3)) = ys[1]? := hg 1 _ rfl
      have hyl2 : ys.length = 2 := hyl
      rw [cells3] at g0 g1
      rw [List.getElem?_eq_getElem (by omega)] at g0 g1
      obtain ⟨z1, e1, _, _⟩ := DataW.trod_int Tryz.underlying3 g0
      obtain ⟨z2, e2, _, _⟩ := DataW.trod_int Tryz.underlying3 g1
      have e1 : (cs.drop 1).take 1 = [.int .i64 z1] := by
        rw [← e1]; simp [List.take_take]
      have e2 : (cs.drop 2).take 1 = [.int .i64 z2] := by
        rw [← e2, List.drop_take]; simp [List.take_take]
      refine ⟨⟨z0, z1, z2, z3, z4, z5, z6.data.toList, z7, z8, z9⟩, ?_, ?_, ?_, ?_, ?_, ?_, ?_, ?_, ?_, ?_⟩
      · have := hat 0 (by decide)
        rw [drop_take_one e0] at this
        simpa [Addr.add] using this
      · rw [hat 1 (by decide)]; exact drop_take_one e1
      · rw [hat 2 (by decide)]; exact drop_take_one e2
      · rw [hat 3 (by decide)]; exact drop_take_one e3
      · rw [hat 4 (by decide)]; exact drop_take_one e4
      · rw [hat 5 (by decide)]; exact drop_take_one e5
      · rw [hat 6 (by decide)]; exact drop_take_one e6
      · rw [hat 7 (by decide)]; exact drop_take_one e7
      · rw [hat 8 (by decide)]; exact drop_take_one e8
      · rw [hat 9 (by decide)]; exact drop_take_one e9
    obtain ⟨ls, hls, hP⟩ := list_of len each
    refine ⟨ls, ⟨some b, cap, by rw [hls], by rw [hls]; exact ⟨hl, hm⟩, fun k y hk => ?_⟩, trivial⟩
    obtain ⟨h0, h1, h2, h3, h4, h5, h6, h7, h8, h9⟩ := hP k y hk
    have hb0 := (hP 0 (ls[0]'(by have := (List.getElem?_eq_some_iff.1 hk).1; omega)) (List.getElem?_eq_getElem _)).1
    obtain ⟨g, o, spot⟩ := b
    have hspot : spot = none := by simpa [Addr.add] using World.cell?_spot hb0
    subst hspot
    rw [E.add_at, E.add_at] at h1 h2 h3 h4 h5 h6 h7 h8 h9
    rw [E.add_at] at h0
    exact ⟨g, o, rfl, h0, h1, h2, h3, h4, h5, h6, h7, h8, h9⟩
end
end Go.Proofs.YtenopnfclbegbaaGreat.BR
