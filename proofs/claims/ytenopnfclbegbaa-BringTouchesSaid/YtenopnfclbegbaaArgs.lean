/-
  A slice of items, a slice of entries as arguments.
-/
import Derived.Test.YtenopnfclbegbaaRows
import Derived.Test.YtenopnfclbegbaaEnts
import Derived.ProofKit
import Derived.OpenShut
import Derived.ShutString
import Derived.Deep.Slices
import Derived.Carry
import Derived.ChangeOld
import Derived.Test.YtenopnfclbegbaaLall
namespace Go.Proofs.Ytenopnfclbegbaa.E
open Go.ChangeShapes Go.WideShapes Go.ChangeAt Go.RowKit Go.Deep
set_option maxRecDepth 100000

theorem laidOut : laidOutB Try.prog = true := by kernel_rfl
section
variable {P : Program} {w : World} {r : Reach} {base : Nat} {t : TypeId} {v : Value}
theorem cell_int {k : IntKind} (ht : P.underlying t = some (.int k)) (h : Cell.okWide P w r base t v) : ∃ n, v = .int k n := by
  simp only [Cell.okWide, ht] at h
  cases v <;> simp_all [Cell.ok]
theorem cell_string (ht : P.underlying t = some .string) (h : Cell.okWide P w r base t v) : ∃ s, v = .string s := by
  simp only [Cell.okWide, ht] at h
  cases v <;> simp_all [Cell.ok]
theorem cell_slice {e : TypeId} (ht : P.underlying t = some (.slice e)) (h : Cell.okWide P w r base t v) : ∃ a len cap, v = .slice a len cap := by
  simp only [Cell.okWide, ht] at h
  cases v <;> simp_all [Cell.ok]
/-- the cells of a row of a struct or an array, one by one -/
theorem rows_at {cs : Array Value} {ts : List TypeId} (hts : P.cellTypes P.depth t = some ts) (_hz : cs.size = ts.length) (h : Row.okWide P w r base t cs) :
    ∀ (i : Nat) (v : Value) (u : TypeId), cs[i]? = some v → ts[i]? = some u → Cell.okWide P w r base u v := by
  obtain ⟨ts', h1, _, h3⟩ := h
  obtain rfl : ts = ts' := Option.some.inj (hts.symm.trans h1)
  intro i v u hi hu
  obtain ⟨u', h4, h5⟩ := h3 i v hi
  have hl : i < ts.length := (List.getElem?_eq_some_iff.1 hu).1
  rw [Nat.mod_eq_of_lt hl, hu] at h4
  obtain rfl := Option.some.inj h4
  exact h5
theorem of_at {cs : Array Value} {ts : List TypeId} (h : ∀ (i : Nat) (v : Value) (u : TypeId), cs[i]? = some v → ts[i]? = some u → Cell.okWide P w r base u v) (i : Nat) (v : Value) (u : TypeId) (h1 : cs[i]? = some v) (h2 : ts[i]? = some u) : Cell.okWide P w r base u v := h i v u h1 h2
end
theorem open_ent {w : World} {r : Reach} {base : Nat} {v : Value} (hval : Value.okWide Try.prog w r base 31 v) : ∃ X : Ent, v = .agg #[.string ⟨X.name.toArray⟩, .int .i64 X.no] := by
  obtain ⟨cs, rfl, hsz, hrow⟩ : ∃ cs, v = .agg cs ∧ cs.size = Try.prog.cellsOf 31 ∧ Row.okWide Try.prog w r base 31 cs := by
    simpa [Value.okWide, Try.underlying31] using hval
  rw [show Try.prog.cellsOf 31 = 2 by kernel_rfl] at hsz
  have hr := rows_at (ts := [9, 3]) (by kernel_rfl) hsz hrow
  obtain ⟨l⟩ := cs
  match l, hsz with
  | [z0, z1], _ =>
    obtain ⟨s, rfl⟩ := cell_string Try.underlying9 (of_at hr 0 _ _ rfl rfl)
    obtain ⟨x, rfl⟩ := cell_int Try.underlying3 (of_at hr 1 _ _ rfl rfl)
    exact ⟨⟨s.data.toList, x⟩, by simp⟩

theorem list_of {α : Type} {P : Nat → α → Prop} : ∀ n : Nat, (∀ i, i < n → ∃ x, P i x) → ∃ ls : List α, ls.length = n ∧ ∀ k x, ls[k]? = some x → P k x
  | 0, _ => ⟨[], rfl, fun k x h => by simp at h⟩
  | n + 1, h => by
    obtain ⟨ls, hl, hP⟩ := list_of n (fun i hi => h i (by omega))
    obtain ⟨x, hx⟩ := h n (by omega)
    refine ⟨ls ++ [x], by simp [hl], fun k y hk => ?_⟩
    by_cases hkn : k < n
    · rw [List.getElem?_append_left (by omega)] at hk
      exact hP k y hk
    · have hkl := (List.getElem?_eq_some_iff.1 hk).1
      simp at hkl
      obtain rfl : k = n := by omega
      rw [List.getElem?_append_right (by omega), hl, Nat.sub_self] at hk
      simp at hk; subst hk; exact hx
theorem cellsE : Try.prog.cellsOf 31 = 2 := by kernel_rfl
theorem cells3 : Try.prog.cellsOf 3 = 1 := by kernel_rfl
theorem cellsS : Try.prog.cellsOf 9 = 1 := by kernel_rfl
theorem drop_take_one {cs : List Value} {k : Nat} {v : Value} (h : (cs.drop k).take 1 = [v]) : cs[k]? = some v := by
  have := congrArg (fun l => l[0]?) h
  simp only [List.getElem?_take, List.getElem?_drop] at this
  simpa using this

theorem ents_of {H : Type} {enc : TypeId × Value → H} {w : World} {base : Nat} {spare : Nat → Bool} {held : Bool} {fuel : Nat} {a : Option Addr} {len cap : Nat} {x : DataW H × List MemPlace}
    (h : DataW.trod enc Try.prog w base spare held fuel 27 [.slice a len cap] = some x) : ∃ ls, Sees (.slice a len cap) ls w ∧ ls.length ≤ 9223372036854775807 := by
  rcases open_slice Try.underlying27 h with ⟨hcs, _⟩ | ⟨b, len', cap', m, n, D, Pl, hcs, _, hl, hm, hmm, _, hi⟩
  · simp at hcs
    obtain ⟨rfl, rfl, rfl⟩ := hcs
    exact ⟨[], sees_none none 0 (Nat.zero_le _) w, by simp⟩
  · simp at hcs
    obtain ⟨rfl, rfl, rfl⟩ := hcs
    have hle : len ≤ m := by rw [hmm]; split <;> omega
    rw [cellsE] at hi
    have each : ∀ i, i < len → ∃ y : Ent, w.cell? (b.add (i * 2)) = some (.string ⟨y.name.toArray⟩) ∧ w.cell? ((b.add (i * 2)).add 1) = some (.int .i64 y.no) := by
      intro i hlt
      obtain ⟨cs, hc, ht⟩ := hi i (by omega)
      obtain ⟨_, hcl, hat⟩ := World.cells?_some hc
      obtain ⟨xs, n', _, _, _, hxl, hf⟩ := DataW.trod_struct Try.underlying31 ht
      have f0 : DataW.trod enc Try.prog w base spare held n' 9 ((cs.drop 0).take (Try.prog.cellsOf 9)) = xs[0]? := hf 0 _ rfl
      have f1 : DataW.trod enc Try.prog w base spare held n' 3 ((cs.drop 1).take (Try.prog.cellsOf 3)) = xs[1]? := hf 1 _ rfl
      rw [cellsS] at f0
      rw [cells3] at f1
      have hxl2 : xs.length = 2 := hxl
      rw [List.getElem?_eq_getElem (by omega)] at f0 f1
      obtain ⟨z0, e0, _, _⟩ := DataW.trod_string Try.underlying9 f0
      obtain ⟨z1, e1, _, _⟩ := DataW.trod_int Try.underlying3 f1
      refine ⟨⟨z0.data.toList, z1⟩, ?_, ?_⟩
      · have := hat 0 (by decide)
        rw [drop_take_one e0] at this
        simpa [Addr.add] using this
      · rw [hat 1 (by decide)]; exact drop_take_one e1
    obtain ⟨ls, hls, hP⟩ := list_of len each
    refine ⟨ls, ⟨some b, cap, by rw [hls], by rw [hls]; exact ⟨hl, hm⟩, fun k y hk => ?_⟩, by rw [hls]; unfold maxLen at hm; omega⟩
    obtain ⟨h0, h1⟩ := hP k y hk
    have hb0 := (hP 0 (ls[0]'(by have := (List.getElem?_eq_some_iff.1 hk).1; omega)) (List.getElem?_eq_getElem _)).1
    obtain ⟨g, o, spot⟩ := b
    have hspot : spot = none := by simpa [Addr.add] using World.cell?_spot hb0
    subst hspot
    rw [add_at, add_at] at h1
    rw [add_at] at h0
    exact ⟨g, o, rfl, h0, h1⟩
end Go.Proofs.Ytenopnfclbegbaa.E
/-
  Two limits, a slice of items, a slice of deeds as arguments.
-/
namespace Go.Proofs.Ytenopnfclbegbaa.G
open Go.ChangeShapes Go.WideShapes Go.ChangeAt Go.RowKit Go.Deep
open E (rows_at of_at list_of cells3 cellsS drop_take_one)
set_option maxRecDepth 100000

theorem laidOut : laidOutB Try.prog = true := by kernel_rfl
theorem cellsI : Try.prog.cellsOf 66 = 8 := by kernel_rfl
theorem cell_u16 {P : Program} {w : World} {r : Reach} {base : Nat} {t : TypeId} {v : Value} (ht : P.underlying t = some (.int .u16)) (h : Cell.okWide P w r base t v) : ∃ n, v = .int .u16 n ∧ 0 ≤ n ∧ n ≤ 65535 := by
  simp only [Cell.okWide, ht] at h
  cases v <;> simp_all [Cell.ok]
  obtain ⟨_, h1, h2⟩ := h
  exact ⟨h1, h2⟩
section
variable {H : Type} {enc : TypeId × Value → H} {w : World} {base : Nat} {spare : Nat → Bool} {held : Bool} {fuel : Nat}
/-- a slice of items -/
theorem items_of {a : Option Addr} {len cap : Nat} {x : DataW H × List MemPlace}
    (h : DataW.trod enc Try.prog w base spare held fuel 22 [.slice a len cap] = some x) : ∃ ls, ItSees (.slice a len cap) ls w ∧ True := by
  rcases open_slice Try.underlying22 h with ⟨hcs, _⟩ | ⟨b, len', cap', m, n, D, Pl, hcs, _, hl, hm, hmm, _, hi⟩
  · simp at hcs
    obtain ⟨rfl, rfl, rfl⟩ := hcs
    exact ⟨[], itSees_none none 0 (Nat.zero_le _) w, trivial⟩
  · simp at hcs
    obtain ⟨rfl, rfl, rfl⟩ := hcs
    have hle : len ≤ m := by rw [hmm]; split <;> omega
    rw [cellsI] at hi
    have each : ∀ i, i < len → ∃ y : It, w.cell? (b.add (i * 8)) = some (.int .i64 y.dir) ∧ w.cell? ((b.add (i * 8)).add 1) = some (.string ⟨y.name.toArray⟩) ∧ w.cell? ((b.add (i * 8)).add 2) = some (.int .i64 y.kind) ∧ w.cell? ((b.add (i * 8)).add 3) = some (.int .i64 y.mode) ∧
        w.cell? ((b.add (i * 8)).add 4) = some (.int .i64 y.uid) ∧ w.cell? ((b.add (i * 8)).add 5) = some (.int .i64 y.gid) ∧ w.cell? ((b.add (i * 8)).add 6) = some (.string y.data) ∧ w.cell? ((b.add (i * 8)).add 7) = some (.int .i64 y.n) := by
      intro i hlt
      obtain ⟨cs, hc, ht⟩ := hi i (by omega)
      obtain ⟨_, hcl, hat⟩ := World.cells?_some hc
      obtain ⟨xs, n', _, _, _, hxl, hf⟩ := DataW.trod_struct Try.underlying66 ht
      have f0 : DataW.trod enc Try.prog w base spare held n' 3 ((cs.drop 0).take (Try.prog.cellsOf 3)) = xs[0]? := hf 0 _ rfl
      have f1 : DataW.trod enc Try.prog w base spare held n' 9 ((cs.drop 1).take (Try.prog.cellsOf 9)) = xs[1]? := hf 1 _ rfl
      have f2 : DataW.trod enc Try.prog w base spare held n' 3 ((cs.drop 2).take (Try.prog.cellsOf 3)) = xs[2]? := hf 2 _ rfl
      have f3 : DataW.trod enc Try.prog w base spare held n' 3 ((cs.drop 3).take (Try.prog.cellsOf 3)) = xs[3]? := hf 3 _ rfl
      have f4 : DataW.trod enc Try.prog w base spare held n' 3 ((cs.drop 4).take (Try.prog.cellsOf 3)) = xs[4]? := hf 4 _ rfl
      have f5 : DataW.trod enc Try.prog w base spare held n' 3 ((cs.drop 5).take (Try.prog.cellsOf 3)) = xs[5]? := hf 5 _ rfl
      have f6 : DataW.trod enc Try.prog w base spare held n' 9 ((cs.drop 6).take (Try.prog.cellsOf 9)) = xs[6]? := hf 6 _ rfl
      have f7 : DataW.trod enc Try.prog w base spare held n' 3 ((cs.drop 7).take (Try.prog.cellsOf 3)) = xs[7]? := hf 7 _ rfl
      rw [cellsS] at f1 f6
      rw [cells3] at f0 f2 f3 f4 f5 f7
      have hxl2 : xs.length = 8 := hxl
      rw [List.getElem?_eq_getElem (by omega)] at f0 f1 f2 f3 f4 f5 f6 f7
      obtain ⟨z0, e0, _, _⟩ := DataW.trod_int Try.underlying3 f0
      obtain ⟨z1, e1, _, _⟩ := DataW.trod_string Try.underlying9 f1
      obtain ⟨z2, e2, _, _⟩ := DataW.trod_int Try.underlying3 f2
      obtain ⟨z3, e3, _, _⟩ := DataW.trod_int Try.underlying3 f3
      obtain ⟨z4, e4, _, _⟩ := DataW.trod_int Try.underlying3 f4
      obtain ⟨z5, e5, _, _⟩ := DataW.trod_int Try.underlying3 f5
      obtain ⟨z6, e6, _, _⟩ := DataW.trod_string Try.underlying9 f6
      obtain ⟨z7, e7, _, _⟩ := DataW.trod_int Try.underlying3 f7
      refine ⟨⟨z0, z1.data.toList, z2, z3, z4, z5, z6, z7⟩, ?_, ?_, ?_, ?_, ?_, ?_, ?_, ?_⟩
      · have := hat 0 (by decide)
        rw [drop_take_one e0] at this
        simpa [Addr.add] using this
      · rw [hat 1 (by decide)]; exact drop_take_one e1
      · rw [hat 2 (by decide)]; exact drop_take_one e2
      · rw [hat 3 (by decide)]; exact drop_take_one e3
      · rw [hat 4 (by decide)]; exact drop_take_one e4
      · rw [hat 5 (by decide)]; exact drop_take_one e5
      · rw [hat 6 (by decide)]; exact drop_take_one e6
      · rw [hat 7 (by decide)]; exact drop_take_one e7
    obtain ⟨ls, hls, hP⟩ := list_of len each
    refine ⟨ls, ⟨some b, cap, by rw [hls], by rw [hls]; exact ⟨hl, hm⟩, fun k y hk => ?_⟩, trivial⟩
    obtain ⟨h0, h1, h2, h3, h4, h5, h6, h7⟩ := hP k y hk
    have hb0 := (hP 0 (ls[0]'(by have := (List.getElem?_eq_some_iff.1 hk).1; omega)) (List.getElem?_eq_getElem _)).1
    obtain ⟨g, o, spot⟩ := b
    have hspot : spot = none := by simpa [Addr.add] using World.cell?_spot hb0
    subst hspot
    rw [E.add_at, E.add_at] at h1 h2 h3 h4 h5 h6 h7
    rw [E.add_at] at h0
    exact ⟨g, o, rfl, h0, h1, h2, h3, h4, h5, h6, h7⟩
end
end Go.Proofs.Ytenopnfclbegbaa.G
