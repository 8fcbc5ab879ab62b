/-
  Who asks, a node, two nodes, and three integers as arguments.
-/
import Derived.Test.YtccdpkbiandjdaaRows
import Derived.Test.YtccdpkbiandjdaaQwho
import Derived.ProofKit
import Derived.OpenShut
import Derived.ShutString
import Derived.Carry
import Derived.ChangeOld
namespace Go.Proofs.Ytccdpkbiandjdaa.PM
open Go.ChangeShapes Go.WideShapes Go.ChangeAt Go.RowKit
set_option maxRecDepth 100000

theorem laidOut : laidOutB Try.prog = true := by kernel_rfl
section
variable {P : Program} {w : World} {r : Reach} {base : Nat} {t : TypeId} {v : Value}
theorem cell_int {k : IntKind} (ht : P.underlying t = some (.int k)) (h : Cell.okWide P w r base t v) : ∃ n, v = .int k n := by
  simp only [Cell.okWide, ht] at h
  cases v <;> simp_all [Cell.ok]
theorem cell_string (ht : P.underlying t = some .string) (h : Cell.okWide P w r base t v) : ∃ s, v = .string s := by
  simp only [Cell.okWide, ht] at h
  cases v <;> simp_all [Cell.ok]
theorem cell_slice {e : TypeId} (ht : P.underlying t = some (.slice e)) (h : Cell.okWide P w r base t v) : ∃ a len cap, v = .slice a len cap := by
  simp only [Cell.okWide, ht] at h
  cases v <;> simp_all [Cell.ok]
/-- the cells of a row of a struct or an array, one by one -/
theorem rows_at {cs : Array Value} {ts : List TypeId} (hts : P.cellTypes P.depth t = some ts) (_hz : cs.size = ts.length) (h : Row.okWide P w r base t cs) :
    ∀ (i : Nat) (v : Value) (u : TypeId), cs[i]? = some v → ts[i]? = some u → Cell.okWide P w r base u v := by
  obtain ⟨ts', h1, _, h3⟩ := h
  obtain rfl : ts = ts' := Option.some.inj (hts.symm.trans h1)
  intro i v u hi hu
  obtain ⟨u', h4, h5⟩ := h3 i v hi
  have hl : i < ts.length := (List.getElem?_eq_some_iff.1 hu).1
  rw [Nat.mod_eq_of_lt hl, hu] at h4
  obtain rfl := Option.some.inj h4
  exact h5
theorem of_at {cs : Array Value} {ts : List TypeId} (h : ∀ (i : Nat) (v : Value) (u : TypeId), cs[i]? = some v → ts[i]? = some u → Cell.okWide P w r base u v) (i : Nat) (v : Value) (u : TypeId) (h1 : cs[i]? = some v) (h2 : ts[i]? = some u) : Cell.okWide P w r base u v := h i v u h1 h2
end
section
variable {w : World} {r : Reach} {base : Nat} {v : Value}
theorem open_cred (hval : Value.okWide Try.prog w r base 23 v) : ∃ u g, v = cred u g := by
  obtain ⟨cs, rfl, hsz, hrow⟩ : ∃ cs, v = .agg cs ∧ cs.size = Try.prog.cellsOf 23 ∧ Row.okWide Try.prog w r base 23 cs := by
    simpa [Value.okWide, Try.underlying23] using hval
  rw [show Try.prog.cellsOf 23 = 2 by kernel_rfl] at hsz
  have hr := rows_at (ts := [3, 3]) (by kernel_rfl) hsz hrow
  obtain ⟨l⟩ := cs
  match l, hsz with
  | [z0, z1], _ =>
    obtain ⟨u, rfl⟩ := cell_int Try.underlying3 (of_at hr 0 _ _ rfl rfl)
    obtain ⟨g, rfl⟩ := cell_int Try.underlying3 (of_at hr 1 _ _ rfl rfl)
    exact ⟨u, g, rfl⟩
theorem open_ints (hval : Value.okWide Try.prog w r base 36 v) : ∃ x y z, v = .agg #[.int .i64 x, .int .i64 y, .int .i64 z] := by
  obtain ⟨cs, rfl, hsz, hrow⟩ : ∃ cs, v = .agg cs ∧ cs.size = Try.prog.cellsOf 36 ∧ Row.okWide Try.prog w r base 36 cs := by
    simpa [Value.okWide, Try.underlying36] using hval
  rw [show Try.prog.cellsOf 36 = 3 by kernel_rfl] at hsz
  have hr := rows_at (ts := [3, 3, 3]) (by kernel_rfl) hsz hrow
  obtain ⟨l⟩ := cs
  match l, hsz with
  | [z0, z1, z2], _ =>
    obtain ⟨x, rfl⟩ := cell_int Try.underlying3 (of_at hr 0 _ _ rfl rfl)
    obtain ⟨y, rfl⟩ := cell_int Try.underlying3 (of_at hr 1 _ _ rfl rfl)
    obtain ⟨z, rfl⟩ := cell_int Try.underlying3 (of_at hr 2 _ _ rfl rfl)
    exact ⟨x, y, z, rfl⟩
theorem open_node (hval : Value.okWide Try.prog w r base 26 v) : ∃ n : Nd, v = n.v := by
  obtain ⟨cs, rfl, hsz, hrow⟩ : ∃ cs, v = .agg cs ∧ cs.size = Try.prog.cellsOf 26 ∧ Row.okWide Try.prog w r base 26 cs := by
    simpa [Value.okWide, Try.underlying26] using hval
  rw [show Try.prog.cellsOf 26 = 12 by kernel_rfl] at hsz
  have hr := rows_at (ts := [3, 3, 3, 3, 3, 3, 3, 3, 3, 3, 9, 24]) (by kernel_rfl) hsz hrow
  obtain ⟨l⟩ := cs
  match l, hsz with
  | [z0, z1, z2, z3, z4, z5, z6, z7, z8, z9, z10, z11], _ =>
    obtain ⟨xp0, rfl⟩ := cell_int Try.underlying3 (of_at hr 0 _ _ rfl rfl)
    obtain ⟨xp1, rfl⟩ := cell_int Try.underlying3 (of_at hr 1 _ _ rfl rfl)
    obtain ⟨xp2, rfl⟩ := cell_int Try.underlying3 (of_at hr 2 _ _ rfl rfl)
    obtain ⟨xp3, rfl⟩ := cell_int Try.underlying3 (of_at hr 3 _ _ rfl rfl)
    obtain ⟨xp4, rfl⟩ := cell_int Try.underlying3 (of_at hr 4 _ _ rfl rfl)
    obtain ⟨xp5, rfl⟩ := cell_int Try.underlying3 (of_at hr 5 _ _ rfl rfl)
    obtain ⟨xp6, rfl⟩ := cell_int Try.underlying3 (of_at hr 6 _ _ rfl rfl)
    obtain ⟨xp7, rfl⟩ := cell_int Try.underlying3 (of_at hr 7 _ _ rfl rfl)
    obtain ⟨xp8, rfl⟩ := cell_int Try.underlying3 (of_at hr 8 _ _ rfl rfl)
    obtain ⟨xp9, rfl⟩ := cell_int Try.underlying3 (of_at hr 9 _ _ rfl rfl)
    obtain ⟨sp, rfl⟩ := cell_string Try.underlying9 (of_at hr 10 _ _ rfl rfl)
    obtain ⟨ap, lp, cp, rfl⟩ := cell_slice Try.underlying24 (of_at hr 11 _ _ rfl rfl)
    exact ⟨⟨xp0, xp1, xp2, xp3, xp4, xp5, xp6, xp7, xp8, xp9, sp, ap, lp, cp⟩, rfl⟩
theorem open_nodes (hval : Value.okWide Try.prog w r base 27 v) : ∃ n m : Nd, v = two n m := by
  obtain ⟨cs, rfl, hsz, hrow⟩ : ∃ cs, v = .agg cs ∧ cs.size = Try.prog.cellsOf 27 ∧ Row.okWide Try.prog w r base 27 cs := by
    simpa [Value.okWide, Try.underlying27] using hval
  rw [show Try.prog.cellsOf 27 = 24 by kernel_rfl] at hsz
  have hr := rows_at (ts := [3, 3, 3, 3, 3, 3, 3, 3, 3, 3, 9, 24, 3, 3, 3, 3, 3, 3, 3, 3, 3, 3, 9, 24]) (by kernel_rfl) hsz hrow
  obtain ⟨l⟩ := cs
  match l, hsz with
  | [z0, z1, z2, z3, z4, z5, z6, z7, z8, z9, z10, z11, y0, y1, y2, y3, y4, y5, y6, y7, y8, y9, y10, y11], _ =>
    obtain ⟨xp0, rfl⟩ := cell_int Try.underlying3 (of_at hr 0 _ _ rfl rfl)
    obtain ⟨xp1, rfl⟩ := cell_int Try.underlying3 (of_at hr 1 _ _ rfl rfl)
    obtain ⟨xp2, rfl⟩ := cell_int Try.underlying3 (of_at hr 2 _ _ rfl rfl)
    obtain ⟨xp3, rfl⟩ := cell_int Try.underlying3 (of_at hr 3 _ _ rfl rfl)
    obtain ⟨xp4, rfl⟩ := cell_int Try.underlying3 (of_at hr 4 _ _ rfl rfl)
    obtain ⟨xp5, rfl⟩ := cell_int Try.underlying3 (of_at hr 5 _ _ rfl rfl)
    obtain ⟨xp6, rfl⟩ := cell_int Try.underlying3 (of_at hr 6 _ _ rfl rfl)
    obtain ⟨xp7, rfl⟩ := cell_int Try.underlying3 (of_at hr 7 _ _ rfl rfl)
    obtain ⟨xp8, rfl⟩ := cell_int Try.underlying3 (of_at hr 8 _ _ rfl rfl)
    obtain ⟨xp9, rfl⟩ := cell_int Try.underlying3 (of_at hr 9 _ _ rfl rfl)
    obtain ⟨sp, rfl⟩ := cell_string Try.underlying9 (of_at hr 10 _ _ rfl rfl)
    obtain ⟨ap, lp, cp, rfl⟩ := cell_slice Try.underlying24 (of_at hr 11 _ _ rfl rfl)
    obtain ⟨xq0, rfl⟩ := cell_int Try.underlying3 (of_at hr 12 _ _ rfl rfl)
    obtain ⟨xq1, rfl⟩ := cell_int Try.underlying3 (of_at hr 13 _ _ rfl rfl)
    obtain ⟨xq2, rfl⟩ := cell_int Try.underlying3 (of_at hr 14 _ _ rfl rfl)
    obtain ⟨xq3, rfl⟩ := cell_int Try.underlying3 (of_at hr 15 _ _ rfl rfl)
    obtain ⟨xq4, rfl⟩ := cell_int Try.underlying3 (of_at hr 16 _ _ rfl rfl)
    obtain ⟨xq5, rfl⟩ := cell_int Try.underlying3 (of_at hr 17 _ _ rfl rfl)
    obtain ⟨xq6, rfl⟩ := cell_int Try.underlying3 (of_at hr 18 _ _ rfl rfl)
    obtain ⟨xq7, rfl⟩ := cell_int Try.underlying3 (of_at hr 19 _ _ rfl rfl)
    obtain ⟨xq8, rfl⟩ := cell_int Try.underlying3 (of_at hr 20 _ _ rfl rfl)
    obtain ⟨xq9, rfl⟩ := cell_int Try.underlying3 (of_at hr 21 _ _ rfl rfl)
    obtain ⟨sq, rfl⟩ := cell_string Try.underlying9 (of_at hr 22 _ _ rfl rfl)
    obtain ⟨aq, lq, cq, rfl⟩ := cell_slice Try.underlying24 (of_at hr 23 _ _ rfl rfl)
    exact ⟨⟨xp0, xp1, xp2, xp3, xp4, xp5, xp6, xp7, xp8, xp9, sp, ap, lp, cp⟩, ⟨xq0, xq1, xq2, xq3, xq4, xq5, xq6, xq7, xq8, xq9, sq, aq, lq, cq⟩, rfl⟩
end
end Go.Proofs.Ytccdpkbiandjdaa.PM
