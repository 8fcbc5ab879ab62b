/-
  A slice of items as an argument; ways and paths: what is above lies on the way, a mount's root lies where what it covers would; the law's MountWays.
-/
import Derived.Test.YtenopnfclbegbaaGreatRows
import Derived.Test.YtenopnfclbegbaaGreatEnts
import Derived.ProofKit
import Derived.OpenShut
import Derived.ShutString
import Derived.Deep.Slices
import Derived.Carry
import Derived.ChangeOld
import Derived.Test.YtenopnfclbegbaaGreatLsame
namespace Go.Proofs.YtenopnfclbegbaaGreat.E
open Go.ChangeShapes Go.WideShapes Go.ChangeAt Go.RowKit Go.Deep
set_option maxRecDepth 100000

theorem laidOut : laidOutB Tryz.prog = true := by kernel_rfl
section
variable {P : Program} {w : World} {r : Reach} {base : Nat} {t : TypeId} {v : Value}
theorem cell_int {k : IntKind} (ht : P.underlying t = some (.int k)) (h : Cell.okWide P w r base t v) : ∃ n, v = .int k n := by
  simp only [Cell.okWide, ht] at h
  cases v <;> simp_all [Cell.ok]
theorem cell_string (ht : P.underlying t = some .string) (h : Cell.okWide P w r base t v) : ∃ s, v = .string s := by
  simp only [Cell.okWide, ht] at h
  cases v <;> simp_all [Cell.ok]
theorem cell_slice {e : TypeId} (ht : P.underlying t = some (.slice e)) (h : Cell.okWide P w r base t v) : ∃ a len cap, v = .slice a len cap := by
  simp only [Cell.okWide, ht] at h
  cases v <;> simp_all [Cell.ok]
/-- the cells of a row of a struct or an array, one by one -/
theorem rows_at {cs : Array Value} {ts : List TypeId} (hts : P.cellTypes P.depth t = some ts) (_hz : cs.size = ts.length) (h : Row.okWide P w r base t cs) :
    ∀ (i : Nat) (v : Value) (u : TypeId), cs[i]? = some v → ts[i]? = some u → Cell.okWide P w r base u v := by
  obtain ⟨ts', h1, _, h3⟩ := h
  obtain rfl : ts = ts' := Option.some.inj (hts.symm.trans h1)
  intro i v u hi hu
  obtain ⟨u', h4, h5⟩ := h3 i v hi
  have hl : i < ts.length := (List.getElem?_eq_some_iff.1 hu).1
  rw [Nat.mod_eq_of_lt hl, hu] at h4
  obtain rfl := Option.some.inj h4
  exact h5
theorem of_at {cs : Array Value} {ts : List TypeId} (h : ∀ (i : Nat) (v : Value) (u : TypeId), cs[i]? = some v → ts[i]? = some u → Cell.okWide P w r base u v) (i : Nat) (v : Value) (u : TypeId) (h1 : cs[i]? = some v) (h2 : ts[i]? = some u) : Cell.okWide P w r base u v := h i v u h1 h2
end
theorem open_ent {w : World} {r : Reach} {base : Nat} {v : Value} (hval : Value.okWide Tryz.prog w r base 89 v) : ∃ X : Ent, v = .agg #[.string ⟨X.name.toArray⟩, .int .i64 X.no] := by
  obtain ⟨cs, rfl, hsz, hrow⟩ : ∃ cs, v = .agg cs ∧ cs.size = Tryz.prog.cellsOf 89 ∧ Row.okWide Tryz.prog w r base 89 cs := by
    simpa [Value.okWide, Tryz.underlying89] using hval
  rw [show Tryz.prog.cellsOf 89 = 2 by kernel_rfl] at hsz
  have hr := rows_at (ts := [9, 3]) (by kernel_rfl) hsz hrow
  obtain ⟨l⟩ := cs
  match l, hsz with
  | [z0, z1], _ =>
    obtain ⟨s, rfl⟩ := cell_string Tryz.underlying9 (of_at hr 0 _ _ rfl rfl)
    obtain ⟨x, rfl⟩ := cell_int Tryz.underlying3 (of_at hr 1 _ _ rfl rfl)
    exact ⟨⟨s.data.toList, x⟩, by simp⟩

theorem list_of {α : Type} {P : Nat → α → Prop} : ∀ n : Nat, (∀ i, i < n → ∃ x, P i x) → ∃ ls : List α, ls.length = n ∧ ∀ k x, ls[k]? = some x → P k x
  | 0, _ => ⟨[], rfl, fun k x h => by simp at h⟩
  | n + 1, h => by
    obtain ⟨ls, hl, hP⟩ := list_of n (fun i hi => h i (by omega))
    obtain ⟨x, hx⟩ := h n (by omega)
    refine ⟨ls ++ [x], by simp [hl], fun k y hk => ?_⟩
    by_cases hkn : k < n
    · rw [List.getElem?_append_left (by omega)] at hk
      exact hP k y hk
    · have hkl := (List.getElem?_eq_some_iff.1 hk).1
      simp at hkl
      obtain rfl : k = n := by omega
      rw [List.getElem?_append_right (by omega), hl, Nat.sub_self] at hk
      simp at hk; subst hk; exact hx
theorem cellsE : Tryz.prog.cellsOf 89 = 2 := by kernel_rfl
theorem cells3 : Tryz.prog.cellsOf 3 = 1 := by kernel_rfl
theorem cellsS : Tryz.prog.cellsOf 9 = 1 := by kernel_rfl
theorem drop_take_one {cs : List Value} {k : Nat} {v : Value} (h : (cs.drop k).take 1 = [v]) : cs[k]? = some v := by
  have := congrArg (fun l => l[0]?) h
  simp only [List.getElem?_take, List.getElem?_drop] at this
  simpa using this

theorem ents_of {H : Type} {enc : TypeId × Value → H} {w : World} {base : Nat} {spare : Nat → Bool} {held : Bool} {fuel : Nat} {a : Option Addr} {len cap : Nat} {x : DataW H × List MemPlace}
    (h : DataW.trod enc Tryz.prog w base spare held fuel 46 [.slice a len cap] = some x) : ∃ ls, Sees (.slice a len cap) ls w ∧ ls.length ≤ 9223372036854775807 := by
  rcases open_slice Tryz.underlying46 h with ⟨hcs, _⟩ | ⟨b, len', cap', m, n, D, Pl, hcs, _, hl, hm, hmm, _, hi⟩
  · simp at hcs
    obtain ⟨rfl, rfl, rfl⟩ := hcs
    exact ⟨[], sees_none none 0 (Nat.zero_le _) w, by simp⟩
  · simp at hcs
    obtain ⟨rfl, rfl, rfl⟩ := hcs
    have hle : len ≤ m := by rw [hmm]; split <;> omega
    rw [cellsE] at hi
    have each : ∀ i, i < len → ∃ y : Ent, w.cell? (b.add (i * 2)) = some (.string ⟨y.name.toArray⟩) ∧ w.cell? ((b.add (i * 2)).add 1) = some (.int .i64 y.no) := by
      intro i hlt
      obtain ⟨cs, hc, ht⟩ := hi i (by omega)
      obtain ⟨_, hcl, hat⟩ := World.cells?_some hc
      obtain ⟨xs, n', _, _, _, hxl, hf⟩ := DataW.trod_struct Tryz.underlying89 ht
      have f0 : DataW.trod enc Tryz.prog w base spare held n' 9 ((cs.drop 0).take (Tryz.prog.cellsOf 9)) = xs[0]? := hf 0 _ rfl
      have f1 : DataW.trod enc Tryz.prog w base spare held n' 3 ((cs.drop 1).take (Tryz.prog.cellsOf 3)) = xs[1]? := hf 1 _ rfl
      rw [cellsS] at f0
      rw [cells3] at f1
      have hxl2 : xs.length = 2 := hxl
      rw [List.getElem?_eq_getElem (by omega)] at f0 f1
      obtain ⟨z0, e0, _, _⟩ := DataW.trod_string Tryz.underlying9 f0
      obtain ⟨z1, e1, _, _⟩ := DataW.trod_int Tryz.underlying3 f1
      refine ⟨⟨z0.data.toList, z1⟩, ?_, ?_⟩
      · have := hat 0 (by decide)
        rw [drop_take_one e0] at this
        simpa [Addr.add] using this
      · rw [hat 1 (by decide)]; exact drop_take_one e1
    obtain ⟨ls, hls, hP⟩ := list_of len each
    refine ⟨ls, ⟨some b, cap, by rw [hls], by rw [hls]; exact ⟨hl, hm⟩, fun k y hk => ?_⟩, by rw [hls]; unfold maxLen at hm; omega⟩
    obtain ⟨h0, h1⟩ := hP k y hk
    have hb0 := (hP 0 (ls[0]'(by have := (List.getElem?_eq_some_iff.1 hk).1; omega)) (List.getElem?_eq_getElem _)).1
    obtain ⟨g, o, spot⟩ := b
    have hspot : spot = none := by simpa [Addr.add] using World.cell?_spot hb0
    subst hspot
    rw [add_at, add_at] at h1
    rw [add_at] at h0
    exact ⟨g, o, rfl, h0, h1⟩
end Go.Proofs.YtenopnfclbegbaaGreat.E
/-
  Two limits, a slice of items, a slice of deeds as arguments.
-/
namespace Go.Proofs.YtenopnfclbegbaaGreat.G
open Go.ChangeShapes Go.WideShapes Go.ChangeAt Go.RowKit Go.Deep
open E (rows_at of_at list_of cells3 cellsS drop_take_one)
set_option maxRecDepth 100000

theorem laidOut : laidOutB Tryz.prog = true := by kernel_rfl
theorem cellsI : Tryz.prog.cellsOf 70 = 8 := by kernel_rfl
theorem cell_u16 {P : Program} {w : World} {r : Reach} {base : Nat} {t : TypeId} {v : Value} (ht : P.underlying t = some (.int .u16)) (h : Cell.okWide P w r base t v) : ∃ n, v = .int .u16 n ∧ 0 ≤ n ∧ n ≤ 65535 := by
  simp only [Cell.okWide, ht] at h
  cases v <;> simp_all [Cell.ok]
  obtain ⟨_, h1, h2⟩ := h
  exact ⟨h1, h2⟩
theorem open_two16 {w : World} {r : Reach} {base : Nat} {v : Value} (hval : Value.okWide Tryz.prog w r base 23 v) : ∃ x y, (0 ≤ x ∧ x ≤ 65535) ∧ (0 ≤ y ∧ y ≤ 65535) ∧ v = .agg #[.int .u16 x, .int .u16 y] := by
  obtain ⟨cs, rfl, hsz, hrow⟩ : ∃ cs, v = .agg cs ∧ cs.size = Tryz.prog.cellsOf 23 ∧ Row.okWide Tryz.prog w r base 23 cs := by
    simpa [Value.okWide, Tryz.underlying23] using hval
  rw [show Tryz.prog.cellsOf 23 = 2 by kernel_rfl] at hsz
  have hr := rows_at (ts := [22, 22]) (by kernel_rfl) hsz hrow
  obtain ⟨l⟩ := cs
  match l, hsz with
  | [z0, z1], _ =>
    obtain ⟨x0, rfl, h0⟩ := cell_u16 Tryz.underlying22 (of_at hr 0 _ _ rfl rfl)
    obtain ⟨x1, rfl, h1⟩ := cell_u16 Tryz.underlying22 (of_at hr 1 _ _ rfl rfl)
    exact ⟨x0, x1, h0, h1, rfl⟩
section
variable {H : Type} {enc : TypeId × Value → H} {w : World} {base : Nat} {spare : Nat → Bool} {held : Bool} {fuel : Nat}
/-- a slice of items -/
theorem items_of {a : Option Addr} {len cap : Nat} {x : DataW H × List MemPlace}
    (h : DataW.trod enc Tryz.prog w base spare held fuel 24 [.slice a len cap] = some x) : ∃ ls, ItSees (.slice a len cap) ls w ∧ True := by
  rcases open_slice Tryz.underlying24 h with ⟨hcs, _⟩ | ⟨b, len', cap', m, n, D, Pl, hcs, _, hl, hm, hmm, _, hi⟩
  · simp at hcs
    obtain ⟨rfl, rfl, rfl⟩ := hcs
    exact ⟨[], itSees_none none 0 (Nat.zero_le _) w, trivial⟩
  · simp at hcs
    obtain ⟨rfl, rfl, rfl⟩ := hcs
    have hle : len ≤ m := by rw [hmm]; split <;> omega
    rw [cellsI] at hi
    have each : ∀ i, i < len → ∃ y : It, w.cell? (b.add (i * 8)) = some (.int .i64 y.dir) ∧ w.cell? ((b.add (i * 8)).add 1) = some (.string ⟨y.name.toArray⟩) ∧ w.cell? ((b.add (i * 8)).add 2) = some (.int .i64 y.kind) ∧ w.cell? ((b.add (i * 8)).add 3) = some (.int .i64 y.mode) ∧
        w.cell? ((b.add (i * 8)).add 4) = some (.int .i64 y.uid) ∧ w.cell? ((b.add (i * 8)).add 5) = some (.int .i64 y.gid) ∧ w.cell? ((b.add (i * 8)).add 6) = some (.string y.data) ∧ w.cell? ((b.add (i * 8)).add 7) = some (.int .i64 y.n) := by
      intro i hlt
      obtain ⟨cs, hc, ht⟩ := hi i (by omega)
      obtain ⟨_, hcl, hat⟩ := World.cells?_some hc
      obtain ⟨xs, n', _, _, _, hxl, hf⟩ := DataW.trod_struct Tryz.underlying70 ht
      have f0 : DataW.trod enc Tryz.prog w base spare held n' 3 ((cs.drop 0).take (Tryz.prog.cellsOf 3)) = xs[0]? := hf 0 _ rfl
      have f1 : DataW.trod enc Tryz.prog w base spare held n' 9 ((cs.drop 1).take (Tryz.prog.cellsOf 9)) = xs[1]? := hf 1 _ rfl
      have f2 : DataW.trod enc Tryz.prog w base spare held n' 3 ((cs.drop 2).take (Tryz.prog.cellsOf 3)) = xs[2]? := hf 2 _ rfl
      have f3 : DataW.trod enc Tryz.prog w base spare held n' 3 ((cs.drop 3).take (Tryz.prog.cellsOf 3)) = xs[3]? := hf 3 _ rfl
      have f4 : DataW.trod enc Tryz.prog w base spare held n' 3 ((cs.drop 4).take (Tryz.prog.cellsOf 3)) = xs[4]? := hf 4 _ rfl
      have f5 : DataW.trod enc Tryz.prog w base spare held n' 3 ((cs.drop 5).take (Tryz.prog.cellsOf 3)) = xs[5]? := hf 5 _ rfl
      have f6 : DataW.trod enc Tryz.prog w base spare held n' 9 ((cs.drop 6).take (Tryz.prog.cellsOf 9)) = xs[6]? := hf 6 _ rfl
      have f7 : DataW.trod enc Tryz.prog w base spare held n' 3 ((cs.drop 7).take (Tryz.prog.cellsOf 3)) = xs[7]? := hf 7 _ rfl
      rw [cellsS] at f1 f6
      rw [cells3] at f0 f2 f3 f4 f5 f7
      have hxl2 : xs.length = 8 := hxl
      rw [List.getElem?_eq_getElem (by omega)] at f0 f1 f2 f3 f4 f5 f6 f7
      obtain ⟨z0, e0, _, _⟩ := DataW.trod_int Tryz.underlying3 f0
      obtain ⟨z1, e1, _, _⟩ := DataW.trod_string Tryz.underlying9 f1
      obtain ⟨z2, e2, _, _⟩ := DataW.trod_int Tryz.underlying3 f2
      obtain ⟨z3, e3, _, _⟩ := DataW.trod_int Tryz.underlying3 f3
      obtain ⟨z4, e4, _, _⟩ := DataW.trod_int Tryz.underlying3 f4
      obtain ⟨z5, e5, _, _⟩ := DataW.trod_int Tryz.underlying3 f5
      obtain ⟨z6, e6, _, _⟩ := DataW.trod_string Tryz.underlying9 f6
      obtain ⟨z7, e7, _, _⟩ := DataW.trod_int Tryz.underlying3 f7
      refine ⟨⟨z0, z1.data.toList, z2, z3, z4, z5, z6, z7⟩, ?_, ?_, ?_, ?_, ?_, ?_, ?_, ?_⟩
      · have := hat 0 (by decide)
        rw [drop_take_one e0] at this
        simpa [Addr.add] using this
      · rw [hat 1 (by decide)]; exact drop_take_one e1
      · rw [hat 2 (by decide)]; exact drop_take_one e2
      · rw [hat 3 (by decide)]; exact drop_take_one e3
      · rw [hat 4 (by decide)]; exact drop_take_one e4
      · rw [hat 5 (by decide)]; exact drop_take_one e5
      · rw [hat 6 (by decide)]; exact drop_take_one e6
      · rw [hat 7 (by decide)]; exact drop_take_one e7
    obtain ⟨ls, hls, hP⟩ := list_of len each
    refine ⟨ls, ⟨some b, cap, by rw [hls], by rw [hls]; exact ⟨hl, hm⟩, fun k y hk => ?_⟩, trivial⟩
    obtain ⟨h0, h1, h2, h3, h4, h5, h6, h7⟩ := hP k y hk
    have hb0 := (hP 0 (ls[0]'(by have := (List.getElem?_eq_some_iff.1 hk).1; omega)) (List.getElem?_eq_getElem _)).1
    obtain ⟨g, o, spot⟩ := b
    have hspot : spot = none := by simpa [Addr.add] using World.cell?_spot hb0
    subst hspot
    rw [E.add_at, E.add_at] at h1 h2 h3 h4 h5 h6 h7
    rw [E.add_at] at h0
    exact ⟨g, o, rfl, h0, h1, h2, h3, h4, h5, h6, h7⟩
end
end Go.Proofs.YtenopnfclbegbaaGreat.G
namespace Go.Proofs.YtenopnfclbegbaaGreat.G
open Go.RowKit Go.Shelf

/-- the numbers from x on till the top, which is not among them -/
def Climb (st : St) : Int → List Int → Prop
  | x, [] => x = 1
  | x, y :: p => x = y ∧ x ≠ 1 ∧ x ≠ 0 ∧ (called st x).isSome = true ∧ Climb st (above st x) p
theorem Climb.same {st : St} : ∀ {p q : List Int} {x : Int}, Climb st x p → Climb st x q → p = q
  | [], [], _, _, _ => rfl
  | [], y :: q, x, h, k => absurd h k.2.1
  | y :: p, [], x, h, k => absurd k h.2.1
  | y :: p, z :: q, x, h, k => by rw [← h.1, ← k.1, Climb.same h.2.2.2.2 k.2.2.2.2]
theorem Climb.later {st : St} : ∀ {p : List Int} {x r : Int}, Climb st x p → r ∈ p → ∃ b, Climb st (above st r) b ∧ b.length < p.length
  | [], _, _, _, h => by cases h
  | y :: p, x, r, h, hr => by
    obtain ⟨e, _, _, _, hc⟩ := h
    subst e
    rcases List.mem_cons.1 hr with e | hr
    · subst e; exact ⟨p, hc, Nat.lt_succ_self _⟩
    · obtain ⟨b, h1, h2⟩ := hc.later hr
      exact ⟨b, h1, by simp only [List.length_cons]; omega⟩
theorem Climb.top {st : St} : ∀ {p : List Int} {x : Int}, Climb st x p → (1 : Int) ∉ p
  | [], _, _ => by simp
  | y :: p, x, h => by
    obtain ⟨e, h1, _, _, hc⟩ := h
    subst e
    simp only [List.mem_cons, not_or]
    exact ⟨Ne.symm h1, hc.top⟩
theorem Climb.apart {st : St} {p : List Int} {x : Int} (h : Climb st x (x :: p)) : x ∉ p ++ [1] := by
  obtain ⟨_, h1, _, _, hc⟩ := h
  intro e
  rcases List.mem_append.1 e with e | e
  · obtain ⟨b, hb, hl⟩ := hc.later e
    rw [hb.same hc] at hl
    omega
  · exact h1 (List.mem_singleton.1 e)
theorem Climb.of_where {st : St} : ∀ (f : Nat) (seen : List Int) (x : Int) (acc : List (List UInt8)) (s : List UInt8), whereL st (wayL st f seen x) acc = some s → ∃ p, Climb st x p ∧ p.length < f ∧ ∀ y ∈ p ++ [1], y ∉ seen
  | 0, seen, x, acc, s, h => by simp [wayL, whereL] at h
  | f + 1, seen, x, acc, s, h => by
    by_cases hx : x = 0 ∨ x ∈ seen
    · rw [wayL_stop hx] at h; simp [whereL] at h
    · have h0 : x ≠ 0 := fun e => hx (.inl e)
      have hs : x ∉ seen := fun e => hx (.inr e)
      rw [wayL_go h0 hs] at h
      unfold whereL at h
      by_cases h1 : x = 1
      · subst h1
        exact ⟨[], rfl, Nat.succ_pos _, fun y hy => by simp at hy; subst hy; exact hs⟩
      · rw [if_neg h1] at h
        cases hc : called st x with
        | none => rw [hc] at h; cases h
        | some n =>
          rw [hc] at h
          obtain ⟨p, hp, hl, hd⟩ := Climb.of_where f (x :: seen) (above st x) (acc ++ [n]) s h
          refine ⟨x :: p, ⟨rfl, h1, h0, by rw [hc]; rfl, hp⟩, by simp only [List.length_cons]; omega, fun y hy => ?_⟩
          rcases List.mem_cons.1 (show y ∈ x :: (p ++ [1]) from hy) with e | hy
          · subst e; exact hs
          · exact fun e => hd y hy (List.mem_cons_of_mem _ e)
theorem Climb.way {st : St} (h1 : above st 1 = 1) : ∀ {p : List Int} {x : Int} (f : Nat) (seen : List Int), Climb st x p → p.length < f → (∀ y ∈ p ++ [1], y ∉ seen) → wayL st f seen x = p ++ [1]
  | [], x, f, seen, h, hl, hd => by
    obtain rfl : x = 1 := h
    obtain ⟨f, rfl⟩ : ∃ g, f = g + 1 := ⟨f - 1, by simp at hl; omega⟩
    rw [wayL_go (by decide) (hd 1 (by simp)), h1]
    cases f with
    | zero => rfl
    | succ f => rw [wayL_stop (.inr (by simp))]; rfl
  | y :: p, x, f, seen, h, hl, hd => by
    have ha := h
    obtain ⟨e, hx1, hx0, _, hc⟩ := h
    subst e
    obtain ⟨f, rfl⟩ : ∃ g, f = g + 1 := ⟨f - 1, by simp at hl; omega⟩
    rw [wayL_go hx0 (hd x (by simp)), Climb.way h1 f (x :: seen) hc (by simp at hl; omega) fun z hz => ?_]
    · rfl
    · simp only [List.mem_cons, not_or]
      exact ⟨fun e => ha.apart (e ▸ hz), hd z (List.mem_cons_of_mem _ hz)⟩
theorem Climb.where_ {st : St} : ∀ {p : List Int} {x : Int} (acc : List (List UInt8)), Climb st x p → whereL st (p ++ [1]) acc = some (47 :: jn (acc ++ accOf st p).reverse)
  | [], x, acc, _ => by simp [whereL, accOf]
  | y :: p, x, acc, h => by
    obtain ⟨e, h1, _, hs, hc⟩ := h
    subst e
    obtain ⟨n, hn⟩ := Option.isSome_iff_exists.1 hs
    rw [List.cons_append, whereL, if_neg h1, hn]
    show whereL st (p ++ [1]) (acc ++ [n]) = _
    rw [Climb.where_ (acc ++ [n]) hc]
    simp [accOf, hn]
theorem above_one {st : St} (hI : Inv st) : above st 1 = 1 := by
  obtain ⟨q, hq⟩ := hI.top
  obtain ⟨nd, hg, hu⟩ := hI.topn
  obtain ⟨nd', hg', _, hk⟩ := hI.roots 0 _ hq
  obtain rfl : nd = nd' := Option.some.inj (hg.symm.trans hg')
  have hd : isDir st.n 1 = true := by unfold isDir; rw [gets_some hg, hg, hk]; rfl
  have hun : under st.d 1 = 1 := by
    unfold under
    cases hdd : st.d with
    | nil => rw [hdd] at hq; cases hq
    | cons m r =>
      rw [hdd] at hq
      obtain rfl := Option.some.inj hq
      simp
  unfold above
  rw [if_pos hd, hun, gets_some hg, hu]
theorem jn_snoc (l : List (List UInt8)) (n : List UInt8) (hn : 1 ≤ n.length) : (jn l).length < (jn (l ++ [n])).length := by
  cases l with
  | nil => simp [jn, Lib.join_nil, Lib.join_one]; omega
  | cons a r =>
    unfold jn
    rw [List.cons_append, Lib.join_cons, Lib.join_cons]
    unfold Lib.joinTail
    simp
    try omega
/-- a mount's root: what lies under it, and that it is a directory -/
theorem over_root {st : St} (hI : Inv st) {no : Int} (h2 : 2 ≤ no) (h : over st.d no ≠ no) : ∃ m ∈ st.d, m.cov = no ∧ over st.d no = m.root ∧ isRoot st.d no = false ∧ under st.d m.root = no ∧ isDir st.n m.root = true ∧ m.root ≠ 1 ∧ m.root ≠ 0 := by
  unfold over at h ⊢
  cases hf : st.d.find? (fun m => decide (m.cov = no)) with
  | none => rw [hf] at h; exact absurd rfl h
  | some m =>
    have hm := List.mem_of_find?_eq_some hf
    have hc : m.cov = no := by simpa using List.find?_some hf
    obtain ⟨k, hk⟩ := List.mem_iff_getElem?.1 hm
    obtain ⟨nd, hg, hdv, hkd⟩ := hI.roots k m hk
    have hk0 : 0 < k := by
      cases k with
      | zero =>
        obtain ⟨q, hq⟩ := hI.top
        obtain rfl := Option.some.inj (hk.symm.trans hq)
        have : (1 : Int) = no := hc
        omega
      | succ k => exact Nat.succ_pos _
    have hcv := hI.covs k m hk hk0
    refine ⟨m, hm, hc, rfl, hc ▸ hcv.2.2, ?_, ?_, ?_, ?_⟩
    · unfold under
      cases hf2 : st.d.find? (fun x => decide (x.root = m.root)) with
      | none => exact absurd (List.find?_eq_none.1 hf2 m hm) (by simp)
      | some m2 =>
        have hr2 : m2.root = m.root := by simpa using List.find?_some hf2
        obtain ⟨k2, hk2⟩ := List.mem_iff_getElem?.1 (List.mem_of_find?_eq_some hf2)
        obtain ⟨nd2, hg2, hdv2, _⟩ := hI.roots k2 m2 hk2
        rw [hr2] at hg2
        obtain rfl : nd = nd2 := Option.some.inj (hg.symm.trans hg2)
        obtain rfl : k = k2 := by omega
        obtain rfl := Option.some.inj (hk.symm.trans hk2)
        exact hc
    · unfold isDir; rw [gets_some hg, hg, hkd]; rfl
    · intro e
      obtain ⟨q, hq⟩ := hI.top
      obtain ⟨nd', hg', hdv', _⟩ := hI.roots 0 _ hq
      rw [e] at hg
      obtain rfl : nd = nd' := Option.some.inj (hg.symm.trans hg')
      omega
    · intro e
      have := (hI.given nd (get_some hg).1).1
      have := (get_some hg).2
      omega
theorem under_self {st : St} {no : Int} (h : isRoot st.d no = false) : under st.d no = no := by
  unfold under
  cases hf : st.d.find? (fun m => decide (m.root = no)) with
  | none => rfl
  | some m =>
    have h1 := List.mem_of_find?_eq_some hf
    have h2 := List.find?_some hf
    unfold isRoot at h
    rw [List.any_eq_false] at h
    exact absurd h2 (h m h1)
theorem ways {st : St} (hI : Inv st) {no : Int} (h2 : 2 ≤ no) {s : List UInt8} (hw : where_ st no = some s) :
    (∃ t, where_ st (above st no) = some t ∧ t.length < s.length) ∧ above st no ∈ way st no ∧ (1 : Int) ∈ way st no ∧ no ∉ way st (above st no) ∧ where_ st (over st.d no) = some s := by
  have h1 := above_one hI
  have hd : isDir st.n no = true := by
    cases h : isDir st.n no with
    | true => rfl
    | false => rw [where_none h] at hw; cases hw
  have hw' : whereL st (way st no) [] = some s := by unfold where_ at hw; rw [if_pos hd] at hw; exact hw
  obtain ⟨p, hp, hl, _⟩ := Climb.of_where _ _ _ _ _ hw'
  have hway : way st no = p ++ [1] := hp.way h1 _ _ hl (by simp)
  cases p with
  | nil => have : no = 1 := hp; omega
  | cons y p =>
    have hap := hp
    obtain ⟨e, hn1, hn0, hcs, hc⟩ := hp
    subst e
    have hl' : p.length < st.n.length + 2 := by simp at hl; omega
    have hwu : way st (above st no) = p ++ [1] := hc.way h1 _ _ hl' (by simp)
    obtain ⟨n, hn⟩ := Option.isSome_iff_exists.1 hcs
    have hdu : isDir st.n (above st no) = true := by
      cases h : isDir st.n (above st no) with
      | true => rfl
      | false => unfold called at hn; rw [if_neg (by rw [h]; simp)] at hn; cases hn
    have hs : s = 47 :: jn (accOf st (no :: p)).reverse := by
      rw [hway, Climb.where_ [] hap] at hw'
      simpa using (Option.some.inj hw').symm
    have hnm := (called_len hI hn).1
    refine ⟨⟨47 :: jn (accOf st p).reverse, ?_, ?_⟩, ?_, ?_, ?_, ?_⟩
    · unfold G.where_; rw [if_pos hdu, hwu, Climb.where_ [] hc]; rfl
    · rw [hs]
      have : (accOf st (no :: p)).reverse = (accOf st p).reverse ++ [n] := by simp [accOf, hn]
      rw [this]
      have := jn_snoc (accOf st p).reverse n hnm
      simp only [List.length_cons]
      omega
    · rw [hway]
      cases p with
      | nil => have : above st no = 1 := hc; rw [this]; simp
      | cons z p => rw [hc.1]; simp
    · rw [hway]; simp
    · rw [hwu]; exact hap.apart
    · by_cases ho : over st.d no = no
      · rw [ho]; exact hw
      · obtain ⟨m, hm, hcv, hov, hnr, hun, hdr, hr1, hr0⟩ := over_root hI h2 ho
        rw [hov]
        have hab : above st m.root = above st no := by
          unfold above; rw [if_pos hdr, if_pos hd, hun, under_self hnr]
        have hca : called st m.root = called st no := by
          unfold called; rw [hab, hun, under_self hnr]
        have hcl : Climb st m.root (m.root :: p) := ⟨rfl, hr1, hr0, by rw [hca]; exact hcs, by rw [hab]; exact hc⟩
        have hwr : way st m.root = (m.root :: p) ++ [1] := hcl.way h1 _ _ (by simp only [List.length_cons] at hl ⊢; exact hl) (by simp)
        unfold G.where_
        rw [if_pos hdr, hwr, Climb.where_ [] hcl, hs]
        rw [show accOf st (m.root :: p) = accOf st (no :: p) by unfold accOf; rw [List.filterMap_cons, List.filterMap_cons, hca]]
        rfl
attribute [local go_sem] Oper.semAt_some
theorem over_range {st : St} (hG : Grown st) {no : Int} (h1 : 1 ≤ no) (h2 : no ≤ st.last) : 0 ≤ over st.d no ∧ over st.d no ≤ st.last := by
  unfold over
  cases hf : st.d.find? (fun m => decide (m.cov = no)) with
  | none => exact ⟨by show 0 ≤ no; omega, h2⟩
  | some m =>
    obtain ⟨k, hk⟩ := List.mem_iff_getElem?.1 (List.mem_of_find?_eq_some hf)
    obtain ⟨nd, hg, _⟩ := hG.inv.roots k m hk
    obtain ⟨h3, h4⟩ := get_some hg
    have := hG.inv.given nd h3
    exact ⟨by show 0 ≤ m.root; omega, by show m.root ≤ _; omega⟩
end Go.Proofs.YtenopnfclbegbaaGreat.G
/-
  What the reference answers of a number is what the program answers: above, over, within, busy, where.
-/
namespace Go.Proofs.YtenopnfclbegbaaGreat.G

theorem Inv.above_ref {st : St} (h : Inv st) (k : Int) : above st k = refAbove st k := by
  cases hx : get st.n k with
  | none =>
    have hd : isDir st.n k = false := by unfold isDir; rw [hx]; rfl
    rw [above_none hd, refAbove_no (by rw [gets_none hx]; decide)]
  | some x =>
    by_cases hk : x.kind = 1
    · have hd : isDir st.n k = true := isDir_iff.2 ⟨x, hx, hk⟩
      have hri := h.root_iff hx
      have hm := (get_some hx).1
      have hdv := h.devs x hm
      unfold above
      rw [if_pos hd]
      by_cases hr : isRoot st.d k = true
      · have hro := hri.1 hr
        obtain ⟨m, hmt⟩ := h.mtOf hm
        have hmr : m.root = k := by unfold rootOf at hro; rw [hmt] at hro; exact hro
        obtain ⟨h1, h2, h3⟩ := mt_some hmt
        have hun : under st.d k = m.cov := by
          unfold under
          cases hf : st.d.find? (fun y => decide (y.root = k)) with
          | none => exact absurd (List.find?_eq_none.1 hf m (List.mem_of_getElem? h3)) (by simp [hmr])
          | some m2 =>
            obtain ⟨j, hj⟩ := List.mem_iff_getElem?.1 (List.mem_of_find?_eq_some hf)
            have hr2 : m2.root = k := by simpa using List.find?_some hf
            have := h.apart h3 hj (hmr.trans hr2.symm)
            subst this
            rw [h3] at hj
            cases hj
            rfl
        rw [hun]
        by_cases h1d : 1 < x.dev
        · have hraw : mt (raw st.d) x.dev = some m := by
            unfold mt
            rw [if_pos h1, raw_at, if_neg (by omega)]
            exact h3
          rw [refAbove_root (by rw [gets_some hx]; exact hk) (by rw [gets_some hx]; exact h1d) (by rw [gets_some hx]; exact hro) (m := m) (by rw [gets_some hx]; exact hraw)]
        · rw [refAbove_plain (by rw [gets_some hx]; exact hk) (by rw [gets_some hx]; exact fun e => h1d e.1)]
          obtain ⟨q, hq⟩ := h.top
          have h0 : (x.dev - 1).toNat = 0 := by omega
          rw [h0, hq] at h3
          cases h3
          have : k = 1 := hmr.symm
          rw [this]
      · rw [under_self (by simpa using hr), refAbove_plain (by rw [gets_some hx]; exact hk) (by rw [gets_some hx]; exact fun e => hr (hri.2 e.2))]
    · have hd : isDir st.n k = false := by
        cases e : isDir st.n k with
        | false => rfl
        | true =>
          obtain ⟨y, hy, hyk⟩ := isDir_iff.1 e
          rw [hx] at hy
          cases hy
          exact absurd hyk hk
      rw [above_none hd, refAbove_no (by rw [gets_some hx]; exact hk)]
theorem within_mono {st : St} : ∀ (f : Nat) (x base : Int), refWithin st f x base = true → refWithin st (f + 1) x base = true
  | 0, _, _, h => by cases h
  | f + 1, x, base, h => by
    unfold refWithin at h ⊢
    by_cases h0 : x = 0
    · rw [if_pos h0] at h; cases h
    · rw [if_neg h0] at h ⊢
      by_cases hb : x = base
      · rw [if_pos hb]
      · rw [if_neg hb] at h ⊢
        exact within_mono f _ base h
theorem within_le {st : St} {x base : Int} {f g : Nat} (hfg : f ≤ g) (h : refWithin st f x base = true) : refWithin st g x base = true := by
  induction hfg with
  | refl => exact h
  | step _ ih => exact within_mono _ _ _ ih
theorem within_of_way {st : St} (hI : Inv st) {base : Int} : ∀ (f : Nat) (seen : List Int) (x : Int), base ∈ wayL st f seen x → refWithin st (mes st seen x) x base = true
  | 0, seen, x, h => by simp [wayL] at h
  | f + 1, seen, x, h => by
    by_cases hx : x = 0 ∨ x ∈ seen
    · rw [wayL_stop hx] at h; cases h
    · have h0 : x ≠ 0 := fun e => hx (.inl e)
      have hs : x ∉ seen := fun e => hx (.inr e)
      have hm := mes_step (st := st) h0 hs
      rw [wayL_go h0 hs] at h
      obtain ⟨g, hg⟩ : ∃ g, mes st seen x = g + 1 := ⟨mes st seen x - 1, by omega⟩
      rw [hg]
      unfold refWithin
      rw [if_neg h0]
      by_cases hb : x = base
      · rw [if_pos hb]
      · rw [if_neg hb, ← hI.above_ref]
        rcases List.mem_cons.1 h with e | h
        · exact absurd e.symm hb
        · exact within_le (by omega) (within_of_way hI f (x :: seen) (above st x) h)
/-- what was seen, and the way from x on: above each of them lies one of them, or nothing -/
theorem way_closed {st : St} : ∀ (f : Nat) (seen : List Int) (x : Int), mes st seen x < f → (∀ y ∈ seen, above st y = 0 ∨ above st y ∈ seen ∨ above st y = x) → ∀ y, (y ∈ seen ∨ y ∈ wayL st f seen x) → above st y = 0 ∨ above st y ∈ seen ∨ above st y ∈ wayL st f seen x
  | 0, seen, x, h, _, _, _ => by omega
  | f + 1, seen, x, h, hc, y, hy => by
    by_cases hx : x = 0 ∨ x ∈ seen
    · rw [wayL_stop hx] at hy ⊢
      rcases hy with hy | hy
      · rcases hc y hy with e | e | e
        · exact .inl e
        · exact .inr (.inl e)
        · rcases hx with h0 | h0
          · exact .inl (e.trans h0)
          · exact .inr (.inl (e ▸ h0))
      · cases hy
    · have h0 : x ≠ 0 := fun e => hx (.inl e)
      have hs : x ∉ seen := fun e => hx (.inr e)
      have hm := mes_step (st := st) h0 hs
      rw [wayL_go h0 hs] at hy ⊢
      have ih := way_closed (st := st) f (x :: seen) (above st x) (by omega) (fun z hz => by
        rcases List.mem_cons.1 hz with e | hz
        · subst e; exact .inr (.inr rfl)
        · rcases hc z hz with e | e | e
          · exact .inl e
          · exact .inr (.inl (List.mem_cons_of_mem _ e))
          · exact .inr (.inl (e ▸ List.mem_cons_self))) y (by
        rcases hy with hy | hy
        · exact .inl (List.mem_cons_of_mem _ hy)
        · rcases List.mem_cons.1 hy with e | hy
          · exact .inl (e ▸ List.mem_cons_self)
          · exact .inr hy)
      rcases ih with e | e | e
      · exact .inl e
      · rcases List.mem_cons.1 e with e | e
        · exact .inr (.inr (e ▸ List.mem_cons_self))
        · exact .inr (.inl e)
      · exact .inr (.inr (List.mem_cons_of_mem _ e))
theorem way_of_within {st : St} (hI : Inv st) {no base : Int} : ∀ (f : Nat) (x : Int), (x = 0 ∨ x ∈ way st no) → refWithin st f x base = true → base ∈ way st no
  | 0, _, _, h => by cases h
  | f + 1, x, hx, h => by
    unfold refWithin at h
    by_cases h0 : x = 0
    · rw [if_pos h0] at h; cases h
    · rw [if_neg h0] at h
      have hm : x ∈ way st no := hx.resolve_left h0
      by_cases hb : x = base
      · exact hb ▸ hm
      · rw [if_neg hb, ← hI.above_ref] at h
        refine way_of_within hI f (above st x) ?_ h
        rcases way_closed _ [] no (mes_start st no) (fun y hy => by cases hy) x (.inr hm) with e | e | e
        · exact .inl e
        · cases e
        · exact .inr e
theorem Inv.within_ref {st : St} (hI : Inv st) (no base : Int) : decide (base ∈ way st no) = refWithin st (st.n.length + 1) no base := by
  rw [Bool.eq_iff_iff, decide_eq_true_eq]
  constructor
  · intro h
    exact within_le (by have := mes_start st no; omega) (within_of_way hI _ _ _ h)
  · intro h
    by_cases h0 : no = 0
    · subst h0; unfold refWithin at h; rw [if_pos rfl] at h; cases h
    · exact way_of_within hI _ no (.inr (by unfold way; rw [wayL_go h0 (by simp)]; exact List.mem_cons_self)) h
theorem Inv.busy_ref {st : St} (hI : Inv st) (no : Int) : busy st no = refBusy st no := by
  unfold busy refBusy
  obtain ⟨q, hq⟩ := hI.top
  have hcv := hI.covs
  cases hd : st.d with
  | nil => rw [hd] at hq; cases hq
  | cons m r =>
    rw [hd] at hq hcv
    obtain rfl := Option.some.inj hq
    have h0 : busyAt st no ⟨1, 1, q⟩ = false := by unfold busyAt; simp
    rw [List.any_cons, h0, Bool.false_or]
    show r.any _ = r.any _
    rw [Bool.eq_iff_iff, List.any_eq_true, List.any_eq_true]
    have each : ∀ x ∈ r, busyAt st no x = refWithin st (st.n.length + 1) x.cov no := fun x hx => by
      obtain ⟨k, hk⟩ := List.mem_iff_getElem?.1 hx
      have h1 := (hcv (k + 1) x hk (Nat.succ_pos _)).2.2
      have h2 : isRoot ((⟨1, 1, q⟩ : Mt) :: r) x.root = true := List.any_eq_true.2 ⟨x, List.mem_cons_of_mem _ hx, by simp⟩
      have h3 : x.cov ≠ x.root := fun e => by rw [e, h2] at h1; cases h1
      unfold busyAt
      rw [decide_eq_true h3, Bool.true_and, hI.within_ref]
    constructor
    · rintro ⟨x, hx, h⟩; exact ⟨x, hx, (each x hx) ▸ h⟩
    · rintro ⟨x, hx, h⟩; exact ⟨x, hx, (each x hx).trans h⟩
theorem isDir_num {st : St} (h : Inv st) {x : Int} (hd : isDir st.n x = true) : x ≠ 0 := fun e => by
  obtain ⟨y, hy, _⟩ := isDir_iff.1 hd
  have h1 := (h.given y (get_some hy).1).1
  have h2 := (get_some hy).2
  omega
theorem no_ents {st : St} (h : Inv st) {x : Int} (hd : isDir st.n x = false) : (gets st.n x).es = [] := by
  cases hx : get st.n x with
  | none => rw [gets_none hx]; rfl
  | some y =>
    rw [gets_some hx]
    refine h.plain y (get_some hx).1 fun hk => ?_
    rw [isDir_iff.2 ⟨y, hx, hk⟩] at hd
    cases hd
theorem Inv.under_ref {st : St} (h : Inv st) {x : Int} (hx : isDir st.n x = true) : under st.d x = refChild st x := by
  obtain ⟨y, hy, _⟩ := isDir_iff.1 hx
  have hri := h.root_iff hy
  have hm := (get_some hy).1
  have hdv := h.devs y hm
  by_cases hr : isRoot st.d x = true
  · have hro := hri.1 hr
    obtain ⟨m, hmt⟩ := h.mtOf hm
    have hmr : m.root = x := by unfold rootOf at hro; rw [hmt] at hro; exact hro
    obtain ⟨h1, h2, h3⟩ := mt_some hmt
    have hun : under st.d x = m.cov := by
      unfold under
      cases hf : st.d.find? (fun z => decide (z.root = x)) with
      | none => exact absurd (List.find?_eq_none.1 hf m (List.mem_of_getElem? h3)) (by simp [hmr])
      | some m2 =>
        obtain ⟨j, hj⟩ := List.mem_iff_getElem?.1 (List.mem_of_find?_eq_some hf)
        have hr2 : m2.root = x := by simpa using List.find?_some hf
        have := h.apart h3 hj (hmr.trans hr2.symm)
        subst this
        rw [h3] at hj
        cases hj
        rfl
    rw [hun]
    by_cases h1d : 1 < y.dev
    · have hraw : mt (raw st.d) y.dev = some m := by
        unfold mt
        rw [if_pos h1, raw_at, if_neg (by omega)]
        exact h3
      rw [refChild_root (by rw [gets_some hy]; exact h1d) (by rw [gets_some hy]; exact hro) (m := m) (by rw [gets_some hy]; exact hraw)]
    · rw [refChild_plain (by rw [gets_some hy]; exact fun e => h1d e.1)]
      obtain ⟨q, hq⟩ := h.top
      have h0 : (y.dev - 1).toNat = 0 := by omega
      rw [h0, hq] at h3
      cases h3
      exact hmr
  · rw [under_self (by simpa using hr), refChild_plain (by rw [gets_some hy]; exact fun e => hr (hri.2 e.2))]
/-- a name found is the reference's; none: the reference finds the empty one -/
theorem Inv.name_ref {st : St} (h : Inv st) (x : Int) : refName st x = (called st x).getD [] := by
  unfold refName called
  rw [← h.above_ref]
  cases hd : isDir st.n (above st x) with
  | false => rw [no_ents h hd, if_neg (by simp)]; rfl
  | true =>
    rw [if_pos rfl]
    cases hx : isDir st.n x with
    | true => rw [h.under_ref hx]
    | false => rw [above_none hx] at hd; exact absurd rfl (isDir_num h hd)
theorem Inv.name_none {st : St} (h : Inv st) (x : Int) : refName st x = [] ↔ called st x = none := by
  rw [h.name_ref]
  cases hc : called st x with
  | none => simp
  | some n =>
    have := (called_len h hc).1
    constructor
    · intro e; simp at e; subst e; simp at this
    · intro e; cases e
/-- the text that the reference has behind so many names -/
def behind : List (List UInt8) → List UInt8 → List UInt8
  | [], s => s
  | n :: r, s => behind r (47 :: n ++ s)
theorem refWhere_climb {st : St} (h : Inv st) : ∀ {p : List Int} {x : Int} (f : Nat) (s : List UInt8), Climb st x p → p.length < f → refWhere st f s x = some (if behind (accOf st p) s = [] then [47] else behind (accOf st p) s)
  | [], x, f, s, hc, hl => by
    obtain rfl : x = 1 := hc
    obtain ⟨f, rfl⟩ : ∃ g, f = g + 1 := ⟨f - 1, by simp at hl; omega⟩
    unfold refWhere
    rw [if_pos rfl]
    rfl
  | y :: p, x, f, s, hc, hl => by
    obtain ⟨e, h1, _, hs, hp⟩ := hc
    subst e
    obtain ⟨f, rfl⟩ : ∃ g, f = g + 1 := ⟨f - 1, by simp at hl; omega⟩
    obtain ⟨n, hn⟩ := Option.isSome_iff_exists.1 hs
    have hnm : refName st x = n := by rw [h.name_ref, hn]; rfl
    unfold refWhere
    rw [if_neg h1, if_neg (fun e => by rw [h.name_none, hn] at e; cases e), ← h.above_ref, refWhere_climb h f _ hp (by simp at hl; omega), hnm]
    have : accOf st (x :: p) = n :: accOf st p := by unfold accOf; rw [List.filterMap_cons, hn]
    rw [this]
    rfl
theorem climb_refWhere {st : St} (h : Inv st) : ∀ (f : Nat) (x : Int) (s t : List UInt8), refWhere st f s x = some t → ∃ p, Climb st x p ∧ p.length < f
  | 0, _, _, _, hw => by cases hw
  | f + 1, x, s, t, hw => by
    unfold refWhere at hw
    by_cases h1 : x = 1
    · exact ⟨[], h1, Nat.succ_pos _⟩
    · rw [if_neg h1] at hw
      by_cases hn : refName st x = []
      · rw [if_pos hn] at hw; cases hw
      · rw [if_neg hn, ← h.above_ref] at hw
        obtain ⟨p, hp, hl⟩ := climb_refWhere h f _ _ _ hw
        have hcs : (called st x).isSome = true := by
          cases hc : called st x with
          | none => exact absurd ((h.name_none x).2 hc) hn
          | some n => rfl
        have hx0 : x ≠ 0 := fun e => by
          subst e
          have hd : isDir st.n 0 = false := by unfold isDir; rw [h.not_zero (Int.le_refl _)]; rfl
          have ha := above_none hd
          unfold called at hcs
          rw [ha, hd] at hcs
          cases hcs
        exact ⟨x :: p, ⟨rfl, h1, hx0, hcs, hp⟩, by simp only [List.length_cons]; omega⟩
theorem behind_eq (l : List (List UInt8)) (s : List UInt8) : behind l s = Lib.joinTail [47] l.reverse ++ s := by
  induction l generalizing s with
  | nil => rfl
  | cons n r ih => rw [behind, ih]; unfold Lib.joinTail; simp
theorem text_eq (l : List (List UInt8)) : (if behind l [] = [] then [47] else behind l []) = 47 :: jn l.reverse := by
  rw [behind_eq, List.append_nil]
  unfold jn
  cases hr : l.reverse with
  | nil => rw [Lib.join_nil]; rfl
  | cons a r => rw [Lib.join_cons]; unfold Lib.joinTail; simp
theorem climb_len {st : St} (h : Inv st) {p : List Int} {x : Int} (hp : Climb st x p) : p.length < st.n.length + 1 := by
  have hw := hp.way (above_one h) (p.length + 1) [] (Nat.lt_succ_self _) (by simp)
  have key : ∀ (f : Nat) (seen : List Int) (z : Int), (wayL st f seen z).length ≤ mes st seen z := by
    intro f
    induction f with
    | zero => intro seen z; simp [wayL]
    | succ f ih =>
      intro seen z
      by_cases hz : z = 0 ∨ z ∈ seen
      · rw [wayL_stop hz]; exact Nat.zero_le _
      · have h0 : z ≠ 0 := fun e => hz (.inl e)
        have hs : z ∉ seen := fun e => hz (.inr e)
        have hm := mes_step (st := st) h0 hs
        have := ih (z :: seen) (above st z)
        rw [wayL_go h0 hs, List.length_cons]
        omega
  have h1 := key (p.length + 1) [] x
  have h2 := mes_start st x
  rw [hw, List.length_append] at h1
  simp at h1
  omega
theorem Climb.isDir {st : St} (h : Inv st) {p : List Int} {x : Int} (hp : Climb st x p) : isDir st.n x = true := by
  cases p with
  | nil =>
    obtain rfl : x = 1 := hp
    obtain ⟨q, hq⟩ := h.top
    obtain ⟨nd, hg, _, hk⟩ := h.roots 0 _ hq
    exact isDir_iff.2 ⟨nd, hg, hk⟩
  | cons y p =>
    obtain ⟨e, _, _, hs, _⟩ := hp
    subst e
    cases hd : G.isDir st.n x with
    | true => rfl
    | false =>
      have hd0 : G.isDir st.n 0 = false := by unfold G.isDir; rw [h.not_zero (Int.le_refl _)]; rfl
      unfold called at hs
      rw [above_none hd, hd0] at hs
      cases hs
theorem Inv.where_ref {st : St} (h : Inv st) (x : Int) : where_ st x = refWhere st (st.n.length + 1) [] x := by
  cases hr : refWhere st (st.n.length + 1) [] x with
  | some t =>
    obtain ⟨p, hp, hl⟩ := climb_refWhere h _ _ _ _ hr
    rw [refWhere_climb h _ _ hp hl, text_eq] at hr
    unfold G.where_
    rw [if_pos (hp.isDir h)]
    unfold way
    rw [hp.way (above_one h) _ _ (by omega) (by simp), Climb.where_ [] hp, ← hr]
    simp
  | none =>
    cases hw : where_ st x with
    | none => rfl
    | some s =>
      unfold G.where_ at hw
      split at hw
      · obtain ⟨p, hp, _⟩ := Climb.of_where _ _ _ _ _ hw
        rw [refWhere_climb h _ _ hp (climb_len h hp)] at hr
        cases hr
      · cases hw
theorem Inv.agrees {st : St} (h : Inv st) (no : Int) : Agrees st no := ⟨h.where_ref no, h.over_raw no, h.above_ref no, h.busy_ref no⟩
theorem Inv.over_ref {st : St} (h : Inv st) (k : Int) : over st.d k = refOver st.d k := h.over_raw k
end Go.Proofs.YtenopnfclbegbaaGreat.G
