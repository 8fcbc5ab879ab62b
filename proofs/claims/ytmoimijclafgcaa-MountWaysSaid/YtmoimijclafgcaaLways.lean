/-
  A slice of items as an argument; ways and paths: what is above lies on the way, a mount's root lies where what it covers would; the law's MountWays.
-/
import Derived.Test.YtmoimijclafgcaaRows
import Derived.Test.YtmoimijclafgcaaEbase
import Derived.ProofKit
import Derived.OpenShut
import Derived.ShutString
import Derived.Deep.Slices
import Derived.Carry
import Derived.ChangeOld
import Derived.Test.YtmoimijclafgcaaLsame
namespace Go.Proofs.Ytmoimijclafgcaa.E
open Go.ChangeShapes Go.WideShapes Go.ChangeAt Go.RowKit Go.Deep
set_option maxRecDepth 100000

theorem laidOut : laidOutB Try.prog = true := by kernel_rfl
section
variable {P : Program} {w : World} {r : Reach} {base : Nat} {t : TypeId} {v : Value}
theorem cell_int {k : IntKind} (ht : P.underlying t = some (.int k)) (h : Cell.okWide P w r base t v) : ∃ n, v = .int k n := by
  simp only [Cell.okWide, ht] at h
  cases v <;> simp_all [Cell.ok]
theorem cell_string (ht : P.underlying t = some .string) (h : Cell.okWide P w r base t v) : ∃ s, v = .string s := by
  simp only [Cell.okWide, ht] at h
  cases v <;> simp_all [Cell.ok]
theorem cell_slice {e : TypeId} (ht : P.underlying t = some (.slice e)) (h : Cell.okWide P w r base t v) : ∃ a len cap, v = .slice a len cap := by
  simp only [Cell.okWide, ht] at h
  cases v <;> simp_all [Cell.ok]
/-- the cells of a row of a struct or an array, one by one -/
theorem rows_at {cs : Array Value} {ts : List TypeId} (hts : P.cellTypes P.depth t = some ts) (_hz : cs.size = ts.length) (h : Row.okWide P w r base t cs) :
    ∀ (i : Nat) (v : Value) (u : TypeId), cs[i]? = some v → ts[i]? = some u → Cell.okWide P w r base u v := by
  obtain ⟨ts', h1, _, h3⟩ := h
  obtain rfl : ts = ts' := Option.some.inj (hts.symm.trans h1)
  intro i v u hi hu
  obtain ⟨u', h4, h5⟩ := h3 i v hi
  have hl : i < ts.length := (List.getElem?_eq_some_iff.1 hu).1
  rw [Nat.mod_eq_of_lt hl, hu] at h4
  obtain rfl := Option.some.inj h4
  exact h5
theorem of_at {cs : Array Value} {ts : List TypeId} (h : ∀ (i : Nat) (v : Value) (u : TypeId), cs[i]? = some v → ts[i]? = some u → Cell.okWide P w r base u v) (i : Nat) (v : Value) (u : TypeId) (h1 : cs[i]? = some v) (h2 : ts[i]? = some u) : Cell.okWide P w r base u v := h i v u h1 h2
end
theorem open_ent {w : World} {r : Reach} {base : Nat} {v : Value} (hval : Value.okWide Try.prog w r base 128 v) : ∃ X : Ent, v = .agg #[.string ⟨X.name.toArray⟩, .int .i64 X.no] := by
  obtain ⟨cs, rfl, hsz, hrow⟩ : ∃ cs, v = .agg cs ∧ cs.size = Try.prog.cellsOf 128 ∧ Row.okWide Try.prog w r base 128 cs := by
    simpa [Value.okWide, Try.underlying128] using hval
  rw [show Try.prog.cellsOf 128 = 2 by kernel_rfl] at hsz
  have hr := rows_at (ts := [9, 3]) (by kernel_rfl) hsz hrow
  obtain ⟨l⟩ := cs
  match l, hsz with
  | [z0, z1], _ =>
    obtain ⟨s, rfl⟩ := cell_string Try.underlying9 (of_at hr 0 _ _ rfl rfl)
    obtain ⟨x, rfl⟩ := cell_int Try.underlying3 (of_at hr 1 _ _ rfl rfl)
    exact ⟨⟨s.data.toList, x⟩, by simp⟩

theorem list_of {α : Type} {P : Nat → α → Prop} : ∀ n : Nat, (∀ i, i < n → ∃ x, P i x) → ∃ ls : List α, ls.length = n ∧ ∀ k x, ls[k]? = some x → P k x
  | 0, _ => ⟨[], rfl, fun k x h => by simp at h⟩
  | n + 1, h => by
    obtain ⟨ls, hl, hP⟩ := list_of n (fun i hi => h i (by omega))
    obtain ⟨x, hx⟩ := h n (by omega)
    refine ⟨ls ++ [x], by simp [hl], fun k y hk => ?_⟩
    by_cases hkn : k < n
    · rw [List.getElem?_append_left (by omega)] at hk
      exact hP k y hk
    · have hkl := (List.getElem?_eq_some_iff.1 hk).1
      simp at hkl
      obtain rfl : k = n := by omega
      rw [List.getElem?_append_right (by omega), hl, Nat.sub_self] at hk
      simp at hk; subst hk; exact hx
theorem cellsE : Try.prog.cellsOf 128 = 2 := by kernel_rfl
theorem cells3 : Try.prog.cellsOf 3 = 1 := by kernel_rfl
theorem cellsS : Try.prog.cellsOf 9 = 1 := by kernel_rfl
theorem drop_take_one {cs : List Value} {k : Nat} {v : Value} (h : (cs.drop k).take 1 = [v]) : cs[k]? = some v := by
  have := congrArg (fun l => l[0]?) h
  simp only [List.getElem?_take, List.getElem?_drop] at this
  simpa using this

theorem ents_of {H : Type} {enc : TypeId × Value → H} {w : World} {base : Nat} {spare : Nat → Bool} {held : Bool} {fuel : Nat} {a : Option Addr} {len cap : Nat} {x : DataW H × List MemPlace}
    (h : DataW.trod enc Try.prog w base spare held fuel 69 [.slice a len cap] = some x) : ∃ ls, Sees (.slice a len cap) ls w ∧ ls.length ≤ 9223372036854775807 := by
  rcases open_slice Try.underlying69 h with ⟨hcs, _⟩ | ⟨b, len', cap', m, n, D, Pl, hcs, _, hl, hm, hmm, _, hi⟩
  · simp at hcs
    obtain ⟨rfl, rfl, rfl⟩ := hcs
    exact ⟨[], sees_none none 0 (Nat.zero_le _) w, by simp⟩
  · simp at hcs
    obtain ⟨rfl, rfl, rfl⟩ := hcs
    have hle : len ≤ m := by rw [hmm]; split <;> omega
    rw [cellsE] at hi
    have each : ∀ i, i < len → ∃ y : Ent, w.cell? (b.add (i * 2)) = some (.string ⟨y.name.toArray⟩) ∧ w.cell? ((b.add (i * 2)).add 1) = some (.int .i64 y.no) := by
      intro i hlt
      obtain ⟨cs, hc, ht⟩ := hi i (by omega)
      obtain ⟨_, hcl, hat⟩ := World.cells?_some hc
      obtain ⟨xs, n', _, _, _, hxl, hf⟩ := DataW.trod_struct Try.underlying128 ht
      have f0 : DataW.trod enc Try.prog w base spare held n' 9 ((cs.drop 0).take (Try.prog.cellsOf 9)) = xs[0]? := hf 0 _ rfl
      have f1 : DataW.trod enc Try.prog w base spare held n' 3 ((cs.drop 1).take (Try.prog.cellsOf 3)) = xs[1]? := hf 1 _ rfl
      rw [cellsS] at f0
      rw [cells3] at f1
      have hxl2 : xs.length = 2 := hxl
      rw [List.getElem?_eq_getElem (by omega)] at f0 f1
      obtain ⟨z0, e0, _, _⟩ := DataW.trod_string Try.underlying9 f0
      obtain ⟨z1, e1, _, _⟩ := DataW.trod_int Try.underlying3 f1
      refine ⟨⟨z0.data.toList, z1⟩, ?_, ?_⟩
      · have := hat 0 (by decide)
        rw [drop_take_one e0] at this
        simpa [Addr.add] using this
      · rw [hat 1 (by decide)]; exact drop_take_one e1
    obtain ⟨ls, hls, hP⟩ := list_of len each
    refine ⟨ls, ⟨some b, cap, by rw [hls], by rw [hls]; exact ⟨hl, hm⟩, fun k y hk => ?_⟩, by rw [hls]; unfold maxLen at hm; omega⟩
    obtain ⟨h0, h1⟩ := hP k y hk
    have hb0 := (hP 0 (ls[0]'(by have := (List.getElem?_eq_some_iff.1 hk).1; omega)) (List.getElem?_eq_getElem _)).1
    obtain ⟨g, o, spot⟩ := b
    have hspot : spot = none := by simpa [Addr.add] using World.cell?_spot hb0
    subst hspot
    rw [add_at, add_at] at h1
    rw [add_at] at h0
    exact ⟨g, o, rfl, h0, h1⟩
end Go.Proofs.Ytmoimijclafgcaa.E
/-
  Two limits, a slice of items, a slice of deeds as arguments.
-/
namespace Go.Proofs.Ytmoimijclafgcaa.G
open Go.ChangeShapes Go.WideShapes Go.ChangeAt Go.RowKit Go.Deep
open E (rows_at of_at list_of cells3 cellsS drop_take_one)
set_option maxRecDepth 100000

theorem laidOut : laidOutB Try.prog = true := by kernel_rfl
theorem cellsI : Try.prog.cellsOf 63 = 8 := by kernel_rfl
theorem cellsD : Try.prog.cellsOf 33 = 3 := by kernel_rfl
theorem cell_u16 {P : Program} {w : World} {r : Reach} {base : Nat} {t : TypeId} {v : Value} (ht : P.underlying t = some (.int .u16)) (h : Cell.okWide P w r base t v) : ∃ n, v = .int .u16 n ∧ 0 ≤ n ∧ n ≤ 65535 := by
  simp only [Cell.okWide, ht] at h
  cases v <;> simp_all [Cell.ok]
  obtain ⟨_, h1, h2⟩ := h
  exact ⟨h1, h2⟩
theorem open_two16 {w : World} {r : Reach} {base : Nat} {v : Value} (hval : Value.okWide Try.prog w r base 23 v) : ∃ x y, (0 ≤ x ∧ x ≤ 65535) ∧ (0 ≤ y ∧ y ≤ 65535) ∧ v = .agg #[.int .u16 x, .int .u16 y] := by
  obtain ⟨cs, rfl, hsz, hrow⟩ : ∃ cs, v = .agg cs ∧ cs.size = Try.prog.cellsOf 23 ∧ Row.okWide Try.prog w r base 23 cs := by
    simpa [Value.okWide, Try.underlying23] using hval
  rw [show Try.prog.cellsOf 23 = 2 by kernel_rfl] at hsz
  have hr := rows_at (ts := [22, 22]) (by kernel_rfl) hsz hrow
  obtain ⟨l⟩ := cs
  match l, hsz with
  | [z0, z1], _ =>
    obtain ⟨x0, rfl, h0⟩ := cell_u16 Try.underlying22 (of_at hr 0 _ _ rfl rfl)
    obtain ⟨x1, rfl, h1⟩ := cell_u16 Try.underlying22 (of_at hr 1 _ _ rfl rfl)
    exact ⟨x0, x1, h0, h1, rfl⟩
section
variable {H : Type} {enc : TypeId × Value → H} {w : World} {base : Nat} {spare : Nat → Bool} {held : Bool} {fuel : Nat}
/-- a slice of items -/
theorem items_of {a : Option Addr} {len cap : Nat} {x : DataW H × List MemPlace}
    (h : DataW.trod enc Try.prog w base spare held fuel 24 [.slice a len cap] = some x) : ∃ ls, ItSees (.slice a len cap) ls w ∧ True := by
  rcases open_slice Try.underlying24 h with ⟨hcs, _⟩ | ⟨b, len', cap', m, n, D, Pl, hcs, _, hl, hm, hmm, _, hi⟩
  · simp at hcs
    obtain ⟨rfl, rfl, rfl⟩ := hcs
    exact ⟨[], itSees_none none 0 (Nat.zero_le _) w, trivial⟩
  · simp at hcs
    obtain ⟨rfl, rfl, rfl⟩ := hcs
    have hle : len ≤ m := by rw [hmm]; split <;> omega
    rw [cellsI] at hi
    have each : ∀ i, i < len → ∃ y : It, w.cell? (b.add (i * 8)) = some (.int .i64 y.dir) ∧ w.cell? ((b.add (i * 8)).add 1) = some (.string ⟨y.name.toArray⟩) ∧ w.cell? ((b.add (i * 8)).add 2) = some (.int .i64 y.kind) ∧ w.cell? ((b.add (i * 8)).add 3) = some (.int .i64 y.mode) ∧
        w.cell? ((b.add (i * 8)).add 4) = some (.int .i64 y.uid) ∧ w.cell? ((b.add (i * 8)).add 5) = some (.int .i64 y.gid) ∧ w.cell? ((b.add (i * 8)).add 6) = some (.string y.data) ∧ w.cell? ((b.add (i * 8)).add 7) = some (.int .i64 y.n) := by
      intro i hlt
      obtain ⟨cs, hc, ht⟩ := hi i (by omega)
      obtain ⟨_, hcl, hat⟩ := World.cells?_some hc
      obtain ⟨xs, n', _, _, _, hxl, hf⟩ := DataW.trod_struct Try.underlying63 ht
      have f0 : DataW.trod enc Try.prog w base spare held n' 3 ((cs.drop 0).take (Try.prog.cellsOf 3)) = xs[0]? := hf 0 _ rfl
      have f1 : DataW.trod enc Try.prog w base spare held n' 9 ((cs.drop 1).take (Try.prog.cellsOf 9)) = xs[1]? := hf 1 _ rfl
      have f2 : DataW.trod enc Try.prog w base spare held n' 3 ((cs.drop 2).take (Try.prog.cellsOf 3)) = xs[2]? := hf 2 _ rfl
      have f3 : DataW.trod enc Try.prog w base spare held n' 3 ((cs.drop 3).take (Try.prog.cellsOf 3)) = xs[3]? := hf 3 _ rfl
      have f4 : DataW.trod enc Try.prog w base spare held n' 3 ((cs.drop 4).take (Try.prog.cellsOf 3)) = xs[4]? := hf 4 _ rfl
      have f5 : DataW.trod enc Try.prog w base spare held n' 3 ((cs.drop 5).take (Try.prog.cellsOf 3)) = xs[5]? := hf 5 _ rfl
      have f6 : DataW.trod enc Try.prog w base spare held n' 9 ((cs.drop 6).take (Try.prog.cellsOf 9)) = xs[6]? := hf 6 _ rfl
      have f7 : DataW.trod enc Try.prog w base spare held n' 3 ((cs.drop 7).take (Try.prog.cellsOf 3)) = xs[7]? := hf 7 _ rfl
      rw [cellsS] at f1 f6
      rw [cells3] at f0 f2 f3 f4 f5 f7
      have hxl2 : xs.length = 8 := hxl
      rw [List.getElem?_eq_getElem (by omega)] at f0 f1 f2 f3 f4 f5 f6 f7
      obtain ⟨z0, e0, _, _⟩ := DataW.trod_int Try.underlying3 f0
      obtain ⟨z1, e1, _, _⟩ := DataW.trod_string Try.underlying9 f1
      obtain ⟨z2, e2, _, _⟩ := DataW.trod_int Try.underlying3 f2
      obtain ⟨z3, e3, _, _⟩ := DataW.trod_int Try.underlying3 f3
      obtain ⟨z4, e4, _, _⟩ := DataW.trod_int Try.underlying3 f4
      obtain ⟨z5, e5, _, _⟩ := DataW.trod_int Try.underlying3 f5
      obtain ⟨z6, e6, _, _⟩ := DataW.trod_string Try.underlying9 f6
      obtain ⟨z7, e7, _, _⟩ := DataW.trod_int Try.underlying3 f7
      refine ⟨⟨z0, z1.data.toList, z2, z3, z4, z5, z6, z7⟩, ?_, ?_, ?_, ?_, ?_, ?_, ?_, ?_⟩
      · have := hat 0 (by decide)
        rw [drop_take_one e0] at this
        simpa [Addr.add] using this
      · rw [hat 1 (by decide)]; exact drop_take_one e1
      · rw [hat 2 (by decide)]; exact drop_take_one e2
      · rw [hat 3 (by decide)]; exact drop_take_one e3
      · rw [hat 4 (by decide)]; exact drop_take_one e4
      · rw [hat 5 (by decide)]; exact drop_take_one e5
      · rw [hat 6 (by decide)]; exact drop_take_one e6
      · rw [hat 7 (by decide)]; exact drop_take_one e7
    obtain ⟨ls, hls, hP⟩ := list_of len each
    refine ⟨ls, ⟨some b, cap, by rw [hls], by rw [hls]; exact ⟨hl, hm⟩, fun k y hk => ?_⟩, trivial⟩
    obtain ⟨h0, h1, h2, h3, h4, h5, h6, h7⟩ := hP k y hk
    have hb0 := (hP 0 (ls[0]'(by have := (List.getElem?_eq_some_iff.1 hk).1; omega)) (List.getElem?_eq_getElem _)).1
    obtain ⟨g, o, spot⟩ := b
    have hspot : spot = none := by simpa [Addr.add] using World.cell?_spot hb0
    subst hspot
    rw [E.add_at, E.add_at] at h1 h2 h3 h4 h5 h6 h7
    rw [E.add_at] at h0
    exact ⟨g, o, rfl, h0, h1, h2, h3, h4, h5, h6, h7⟩
end
end Go.Proofs.Ytmoimijclafgcaa.G
namespace Go.Proofs.Ytmoimijclafgcaa.G
open Go.RowKit Go.Shelf

/-- the numbers from x on till the top, which is not among them -/
def Climb (st : St) : Int → List Int → Prop
  | x, [] => x = 1
  | x, y :: p => x = y ∧ x ≠ 1 ∧ x ≠ 0 ∧ (called st x).isSome = true ∧ Climb st (above st x) p
theorem Climb.same {st : St} : ∀ {p q : List Int} {x : Int}, Climb st x p → Climb st x q → p = q
  | [], [], _, _, _ => rfl
  | [], y :: q, x, h, k => absurd h k.2.1
  | y :: p, [], x, h, k => absurd k h.2.1
  | y :: p, z :: q, x, h, k => by rw [← h.1, ← k.1, Climb.same h.2.2.2.2 k.2.2.2.2]
theorem Climb.later {st : St} : ∀ {p : List Int} {x r : Int}, Climb st x p → r ∈ p → ∃ b, Climb st (above st r) b ∧ b.length < p.length
  | [], _, _, _, h => by cases h
  | y :: p, x, r, h, hr => by
    obtain ⟨e, _, _, _, hc⟩ := h
    subst e
    rcases List.mem_cons.1 hr with e | hr
    · subst e; exact ⟨p, hc, Nat.lt_succ_self _⟩
    · obtain ⟨b, h1, h2⟩ := hc.later hr
      exact ⟨b, h1, by simp only [List.length_cons]; omega⟩
theorem Climb.top {st : St} : ∀ {p : List Int} {x : Int}, Climb st x p → (1 : Int) ∉ p
  | [], _, _ => by simp
  | y :: p, x, h => by
    obtain ⟨e, h1, _, _, hc⟩ := h
    subst e
    simp only [List.mem_cons, not_or]
    exact ⟨Ne.symm h1, hc.top⟩
theorem Climb.apart {st : St} {p : List Int} {x : Int} (h : Climb st x (x :: p)) : x ∉ p ++ [1] := by
  obtain ⟨_, h1, _, _, hc⟩ := h
  intro e
  rcases List.mem_append.1 e with e | e
  · obtain ⟨b, hb, hl⟩ := hc.later e
    rw [hb.same hc] at hl
    omega
  · exact h1 (List.mem_singleton.1 e)
theorem Climb.of_where {st : St} : ∀ (f : Nat) (seen : List Int) (x : Int) (acc : List (List UInt8)) (s : List UInt8), whereL st (wayL st f seen x) acc = some s → ∃ p, Climb st x p ∧ p.length < f ∧ ∀ y ∈ p ++ [1], y ∉ seen
  | 0, seen, x, acc, s, h => by simp [wayL, whereL] at h
  | f + 1, seen, x, acc, s, h => by
    by_cases hx : x = 0 ∨ x ∈ seen
    · rw [wayL_stop hx] at h; simp [whereL] at h
    · have h0 : x ≠ 0 := fun e => hx (.inl e)
      have hs : x ∉ seen := fun e => hx (.inr e)
      rw [wayL_go h0 hs] at h
      unfold whereL at h
      by_cases h1 : x = 1
      · subst h1
        exact ⟨[], rfl, Nat.succ_pos _, fun y hy => by simp at hy; subst hy; exact hs⟩
      · rw [if_neg h1] at h
        cases hc : called st x with
        | none => rw [hc] at h; cases h
        | some n =>
          rw [hc] at h
          obtain ⟨p, hp, hl, hd⟩ := Climb.of_where f (x :: seen) (above st x) (acc ++ [n]) s h
          refine ⟨x :: p, ⟨rfl, h1, h0, by rw [hc]; rfl, hp⟩, by simp only [List.length_cons]; omega, fun y hy => ?_⟩
          rcases List.mem_cons.1 (show y ∈ x :: (p ++ [1]) from hy) with e | hy
          · subst e; exact hs
          · exact fun e => hd y hy (List.mem_cons_of_mem _ e)
theorem Climb.way {st : St} (h1 : above st 1 = 1) : ∀ {p : List Int} {x : Int} (f : Nat) (seen : List Int), Climb st x p → p.length < f → (∀ y ∈ p ++ [1], y ∉ seen) → wayL st f seen x = p ++ [1]
  | [], x, f, seen, h, hl, hd => by
    obtain rfl : x = 1 := h
    obtain ⟨f, rfl⟩ : ∃ g, f = g + 1 := ⟨f - 1, by simp at hl; omega⟩
    rw [wayL_go (by decide) (hd 1 (by simp)), h1]
    cases f with
    | zero => rfl
    | succ f => rw [wayL_stop (.inr (by simp))]; rfl
  | y :: p, x, f, seen, h, hl, hd => by
    have ha := h
    obtain ⟨e, hx1, hx0, _, hc⟩ := h
    subst e
    obtain ⟨f, rfl⟩ : ∃ g, f = g + 1 := ⟨f - 1, by simp at hl; omega⟩
    rw [wayL_go hx0 (hd x (by simp)), Climb.way h1 f (x :: seen) hc (by simp at hl; omega) fun z hz => ?_]
    · rfl
    · simp only [List.mem_cons, not_or]
      exact ⟨fun e => ha.apart (e ▸ hz), hd z (List.mem_cons_of_mem _ hz)⟩
theorem Climb.where_ {st : St} : ∀ {p : List Int} {x : Int} (acc : List (List UInt8)), Climb st x p → whereL st (p ++ [1]) acc = some (47 :: jn (acc ++ accOf st p).reverse)
  | [], x, acc, _ => by simp [whereL, accOf]
  | y :: p, x, acc, h => by
    obtain ⟨e, h1, _, hs, hc⟩ := h
    subst e
    obtain ⟨n, hn⟩ := Option.isSome_iff_exists.1 hs
    rw [List.cons_append, whereL, if_neg h1, hn]
    show whereL st (p ++ [1]) (acc ++ [n]) = _
    rw [Climb.where_ (acc ++ [n]) hc]
    simp [accOf, hn]
theorem above_one {st : St} (hI : Inv st) : above st 1 = 1 := by
  obtain ⟨q, hq⟩ := hI.top
  obtain ⟨nd, hg, hu⟩ := hI.topn
  obtain ⟨nd', hg', _, hk⟩ := hI.roots 0 _ hq
  obtain rfl : nd = nd' := Option.some.inj (hg.symm.trans hg')
  have hd : isDir st.n 1 = true := by unfold isDir; rw [gets_some hg, hg, hk]; rfl
  have hun : under st.d 1 = 1 := by
    unfold under
    cases hdd : st.d with
    | nil => rw [hdd] at hq; cases hq
    | cons m r =>
      rw [hdd] at hq
      obtain rfl := Option.some.inj hq
      simp
  unfold above
  rw [if_pos hd, hun, gets_some hg, hu]
theorem jn_snoc (l : List (List UInt8)) (n : List UInt8) (hn : 1 ≤ n.length) : (jn l).length < (jn (l ++ [n])).length := by
  cases l with
  | nil => simp [jn, Lib.join_nil, Lib.join_one]; omega
  | cons a r =>
    unfold jn
    rw [List.cons_append, Lib.join_cons, Lib.join_cons]
    unfold Lib.joinTail
    simp
    try omega
/-- a mount's root: what lies under it, and that it is a directory -/
theorem over_root {st : St} (hI : Inv st) {no : Int} (h2 : 2 ≤ no) (h : over st.d no ≠ no) : ∃ m ∈ st.d, m.cov = no ∧ over st.d no = m.root ∧ isRoot st.d no = false ∧ under st.d m.root = no ∧ isDir st.n m.root = true ∧ m.root ≠ 1 ∧ m.root ≠ 0 := by
  unfold over at h ⊢
  cases hf : st.d.find? (fun m => decide (m.cov = no)) with
  | none => rw [hf] at h; exact absurd rfl h
  | some m =>
    have hm := List.mem_of_find?_eq_some hf
    have hc : m.cov = no := by simpa using List.find?_some hf
    obtain ⟨k, hk⟩ := List.mem_iff_getElem?.1 hm
    obtain ⟨nd, hg, hdv, hkd⟩ := hI.roots k m hk
    have hk0 : 0 < k := by
      cases k with
      | zero =>
        obtain ⟨q, hq⟩ := hI.top
        obtain rfl := Option.some.inj (hk.symm.trans hq)
        have : (1 : Int) = no := hc
        omega
      | succ k => exact Nat.succ_pos _
    have hcv := hI.covs k m hk hk0
    refine ⟨m, hm, hc, rfl, hc ▸ hcv.2.2, ?_, ?_, ?_, ?_⟩
    · unfold under
      cases hf2 : st.d.find? (fun x => decide (x.root = m.root)) with
      | none => exact absurd (List.find?_eq_none.1 hf2 m hm) (by simp)
      | some m2 =>
        have hr2 : m2.root = m.root := by simpa using List.find?_some hf2
        obtain ⟨k2, hk2⟩ := List.mem_iff_getElem?.1 (List.mem_of_find?_eq_some hf2)
        obtain ⟨nd2, hg2, hdv2, _⟩ := hI.roots k2 m2 hk2
        rw [hr2] at hg2
        obtain rfl : nd = nd2 := Option.some.inj (hg.symm.trans hg2)
        obtain rfl : k = k2 := by omega
        obtain rfl := Option.some.inj (hk.symm.trans hk2)
        exact hc
    · unfold isDir; rw [gets_some hg, hg, hkd]; rfl
    · intro e
      obtain ⟨q, hq⟩ := hI.top
      obtain ⟨nd', hg', hdv', _⟩ := hI.roots 0 _ hq
      rw [e] at hg
      obtain rfl : nd = nd' := Option.some.inj (hg.symm.trans hg')
      omega
    · intro e
      have := (hI.given nd (get_some hg).1).1
      have := (get_some hg).2
      omega
theorem under_self {st : St} {no : Int} (h : isRoot st.d no = false) : under st.d no = no := by
  unfold under
  cases hf : st.d.find? (fun m => decide (m.root = no)) with
  | none => rfl
  | some m =>
    have h1 := List.mem_of_find?_eq_some hf
    have h2 := List.find?_some hf
    unfold isRoot at h
    rw [List.any_eq_false] at h
    exact absurd h2 (h m h1)
theorem ways {st : St} (hI : Inv st) {no : Int} (h2 : 2 ≤ no) {s : List UInt8} (hw : where_ st no = some s) :
    (∃ t, where_ st (above st no) = some t ∧ t.length < s.length) ∧ above st no ∈ way st no ∧ (1 : Int) ∈ way st no ∧ no ∉ way st (above st no) ∧ where_ st (over st.d no) = some s := by
  have h1 := above_one hI
  have hd : isDir st.n no = true := by
    cases h : isDir st.n no with
    | true => rfl
    | false => rw [where_none h] at hw; cases hw
  have hw' : whereL st (way st no) [] = some s := by unfold where_ at hw; rw [if_pos hd] at hw; exact hw
  obtain ⟨p, hp, hl, _⟩ := Climb.of_where _ _ _ _ _ hw'
  have hway : way st no = p ++ [1] := hp.way h1 _ _ hl (by simp)
  cases p with
  | nil => have : no = 1 := hp; omega
  | cons y p =>
    have hap := hp
    obtain ⟨e, hn1, hn0, hcs, hc⟩ := hp
    subst e
    have hl' : p.length < st.n.length + 2 := by simp at hl; omega
    have hwu : way st (above st no) = p ++ [1] := hc.way h1 _ _ hl' (by simp)
    obtain ⟨n, hn⟩ := Option.isSome_iff_exists.1 hcs
    have hdu : isDir st.n (above st no) = true := by
      cases h : isDir st.n (above st no) with
      | true => rfl
      | false => unfold called at hn; rw [if_neg (by rw [h]; simp)] at hn; cases hn
    have hs : s = 47 :: jn (accOf st (no :: p)).reverse := by
      rw [hway, Climb.where_ [] hap] at hw'
      simpa using (Option.some.inj hw').symm
    have hnm := (called_len hI hn).1
    refine ⟨⟨47 :: jn (accOf st p).reverse, ?_, ?_⟩, ?_, ?_, ?_, ?_⟩
    · unfold G.where_; rw [if_pos hdu, hwu, Climb.where_ [] hc]; rfl
    · rw [hs]
      have : (accOf st (no :: p)).reverse = (accOf st p).reverse ++ [n] := by simp [accOf, hn]
      rw [this]
      have := jn_snoc (accOf st p).reverse n hnm
      simp only [List.length_cons]
      omega
    · rw [hway]
      cases p with
      | nil => have : above st no = 1 := hc; rw [this]; simp
      | cons z p => rw [hc.1]; simp
    · rw [hway]; simp
    · rw [hwu]; exact hap.apart
    · by_cases ho : over st.d no = no
      · rw [ho]; exact hw
      · obtain ⟨m, hm, hcv, hov, hnr, hun, hdr, hr1, hr0⟩ := over_root hI h2 ho
        rw [hov]
        have hab : above st m.root = above st no := by
          unfold above; rw [if_pos hdr, if_pos hd, hun, under_self hnr]
        have hca : called st m.root = called st no := by
          unfold called; rw [hab, hun, under_self hnr]
        have hcl : Climb st m.root (m.root :: p) := ⟨rfl, hr1, hr0, by rw [hca]; exact hcs, by rw [hab]; exact hc⟩
        have hwr : way st m.root = (m.root :: p) ++ [1] := hcl.way h1 _ _ (by simp only [List.length_cons] at hl ⊢; exact hl) (by simp)
        unfold G.where_
        rw [if_pos hdr, hwr, Climb.where_ [] hcl, hs]
        rw [show accOf st (m.root :: p) = accOf st (no :: p) by unfold accOf; rw [List.filterMap_cons, List.filterMap_cons, hca]]
        rfl
attribute [local go_sem] Oper.semAt_some
theorem over_range {st : St} (hG : Grown st) {no : Int} (h1 : 1 ≤ no) (h2 : no ≤ st.last) : 0 ≤ over st.d no ∧ over st.d no ≤ st.last := by
  unfold over
  cases hf : st.d.find? (fun m => decide (m.cov = no)) with
  | none => exact ⟨by show 0 ≤ no; omega, h2⟩
  | some m =>
    obtain ⟨k, hk⟩ := List.mem_iff_getElem?.1 (List.mem_of_find?_eq_some hf)
    obtain ⟨nd, hg, _⟩ := hG.inv.roots k m hk
    obtain ⟨h3, h4⟩ := get_some hg
    have := hG.inv.given nd h3
    exact ⟨by show 0 ≤ m.root; omega, by show m.root ≤ _; omega⟩
set_option maxRecDepth 100000 in
set_option maxHeartbeats 16000000 in
theorem ways_any {v : Value} {ls : List It} {w : World} (hS : ItSees v ls w) :
    Calls Try.prog 4 #[v] w fun e w' => e = .returned (.bool true) ∧ Below w.heap.size w w' := by
  have hS1 := hS
  obtain ⟨oi, ci, rfl, hmi, _⟩ := hS
  have cF := few_any hS1 (by have := hmi.1; have := hmi.2; unfold maxLen at this; omega)
  have cG := fun hf => Grow_any 60000 60000 (by decide) hS1 hf
  have hA := fun W => awake_any W
  clear hmi
  go_enter Try.func4, Try.ntmps4
  cases hf : few ls with
  | false =>
    rw [hf] at cF
    have cA := hA w
    clear cG hA hS1
    go_wp2_with (first
      | (go_at_call 5; refine cF.mono ?_; rintro e w2 ⟨rfl, rfl⟩)
      | (go_at_call 6; refine cA.mono ?_; rintro e w3 ⟨rfl, hb3⟩))
    go_ret
    exact ⟨rfl, hb3⟩
  | true =>
    rw [hf] at cF
    have cG1 := cG hf
    obtain ⟨hf1, hf2⟩ := few_iff.1 hf
    obtain ⟨hGr, hg1, hg2⟩ := grown_all (grown_new 60000 60000) ls (fun i hi => (hf1 i hi).2) (by show (1 : Int) + _ < _; omega)
    have hg3 : (growAll (begin_ bare 1 60000 60000) ls).last ≤ 41 := by
      have : (begin_ bare 1 60000 60000).last = 1 := rfl
      omega
    generalize growAll (begin_ bare 1 60000 60000) ls = st at *
    have HG := Lib.hid hGr
    have hone := hGr.one
    have HR := Lib.hid (hGr.ranged (by omega))
    have hlen : st.n.length < 100 := by have := hGr.inv.len; omega
    clear cG hS1 hf1 hf2 hf hg1 hg2 hGr
    go_upto_region 4 with (first
      | (go_at_call 5; refine cF.mono ?_; rintro e w2 ⟨rfl, rfl⟩)
      | (go_at_call 7; refine cG1.mono ?_; rintro e w2 ⟨X, A, M, F, rfl, ⟨mv, nv, dv, hW, hF⟩, hb2⟩))
    have x2 := hF.facts.2.2.1
    have hFl := hF.ltF
    have cw := fun W (h : Below w2.heap.size w2 W) (k : Wn) => Where_any (hW.below h) HG.out.inv HR.out k (by omega)
    have cn := fun W (h : Below w2.heap.size w2 W) (k : Wn) b => Within_any (hW.below h) HR.out k b (by omega)
    have ca := fun W (h : Below w2.heap.size w2 W) (k : Wn) => Above_any (hW.below h) k.1 (T.wf_of k.2.1 k.2.2) (T.wf_of (HR.out.under k.2).1 (HR.out.under k.2).2)
    have co := fun W (h : Below w2.heap.size w2 W) k => Over_any (hW.below h) k
    have HBB := Lib.hid hb2
    clear cF cG1 hW hF hb2
    go_wp2
    go_loopw [6] (fun i wr => ∃ no : Int, i = .int .i64 no ∧ 2 ≤ no ∧ no ≤ st.last + 1 ∧ Below w2.heap.size w2 wr) (fun i _ => (st.last + 1 - RowKit.intOf i).toNat)
    case atStart => exact ⟨2, rfl, Int.le_refl _, by omega, Below.refl _ _⟩
    case round =>
      obtain ⟨no, rfl, hn1, hn2, hb⟩ := hrel
      have y2 := (hb.cell (p := ⟨F, 2, none⟩) hFl).trans x2
      by_cases hlt : no ≤ st.last
      · have hr1 : -9223372036854775808 ≤ no ∧ no ≤ 9223372036854775807 := by constructor <;> omega
        have c1 := cw wr hb ⟨no, hr1⟩
        have HWY := Lib.hid (fun s => ways (s := s) HG.out.inv hn1)
        dsimp only at c1
        cases hw : where_ st no with
        | none =>
          rw [hw] at c1
          dsimp only [Option.getD, Option.isSome] at c1
          clear cw cn ca co hw
          go_wp2_with (go_at_call 17; refine c1.mono ?_; rintro e w3 ⟨rfl, hb3⟩)
          go_roundw
          case rel => exact ⟨no + 1, by first | rfl | go_num, by omega, by omega, below_two hb hb3⟩
          case measure => simp [RowKit.intOf]; omega
        | some s =>
          obtain ⟨⟨t, ht, htl⟩, w1, w2', w3', w4'⟩ := HWY.out s hw
          have hr2 := HR.out.above no
          have hov := over_range HG.out (no := no) (by omega) hlt
          have hr3 : -9223372036854775808 ≤ over st.d no ∧ over st.d no ≤ 9223372036854775807 := by constructor <;> omega
          rw [hw] at c1
          dsimp only [Option.getD, Option.isSome] at c1
          have c2 := fun W h => ca W h ⟨no, hr1⟩
          have c3 := fun W h => cw W h ⟨above st no, hr2⟩
          have c4 := fun W h => cn W h ⟨no, hr1⟩ (above st no)
          have c5 := fun W h => cn W h ⟨no, hr1⟩ 1
          have c6 := fun W h => cn W h ⟨above st no, hr2⟩ no
          have c7 := fun W h => co W h no
          have c8 := fun W h => cw W h ⟨over st.d no, hr3⟩
          dsimp only at c2 c3 c4 c5 c6 c7 c8
          rw [ht] at c3
          rw [w4'] at c8
          rw [decide_eq_true w1] at c4
          rw [decide_eq_true w2'] at c5
          rw [decide_eq_false w3'] at c6
          dsimp only [Option.getD, Option.isSome] at c3 c8
          have hs1 := size_list s
          have hs2 := size_list t
          have hge : decide ((s.length : Int) ≤ (t.length : Int)) = false := by simp; omega
          have hge' : ¬ (s.length : Int) ≤ (t.length : Int) := by omega
          clear cw cn ca co hw ht w1 w2' w3' w4' hr2 hr3 hov HWY hr1
          generalize above st no = up at *
          generalize over st.d no = ov at *
          go_upto_region 11 with (go_at_call 17; refine c1.mono ?_; rintro e w3 ⟨rfl, hb3⟩)
          have hb3' := below_two hb hb3
          have c2' := c2 _ hb3'
          go_upto_region 12 with (go_at_call 18; refine c2'.mono ?_; rintro e w4 ⟨rfl, hb4⟩)
          have hb4' := below_two hb3' hb4
          have c3' := c3 _ hb4'
          go_upto_region 13 with (go_at_call 17; refine c3'.mono ?_; rintro e w5 ⟨rfl, hb5⟩)
          have hb5' := below_two hb4' hb5
          have c4' := c4 _ hb5'
          clear c1 c2 c3 c4 c2' c3'
          go_upto_region 15 with (first
            | (go_at_call 19; with_reducible refine c4'.mono ?_; rintro e w6 ⟨rfl, hb6⟩; have hb6' := below_two hb5' hb6; have c5' := c5 _ hb6')
            | (go_at_call 19; with_reducible refine c5'.mono ?_; rintro e w7 ⟨rfl, hb7⟩; have hb7' := below_two hb6' hb7; have c6' := c6 _ hb7')
            | (go_at_call 19; with_reducible refine c6'.mono ?_; rintro e w8 ⟨rfl, hb8⟩; have hb8' := below_two hb7' hb8))
          have c7' := c7 _ hb8'
          clear c4' c5 c5' c6 c6' c7
          go_wp2_with (first
            | (go_at_call 20; refine c7'.mono ?_; rintro e w9 ⟨rfl, hb9⟩; have hb9' := below_two hb8' hb9; have c8' := c8 _ hb9')
            | (go_at_call 17; refine c8'.mono ?_; rintro e w10 ⟨rfl, hb10⟩))
          go_roundw
          case rel => exact ⟨no + 1, by first | rfl | go_num, by omega, by omega, below_two hb9' hb10⟩
          case measure => simp [RowKit.intOf]; omega
      · have cA := hA wr
        clear cw cn ca co hA
        go_wp2_with (go_at_call 6; refine cA.mono ?_; rintro e w3 ⟨rfl, hb3⟩)
        go_ret
        exact ⟨rfl, below_two (below_two HBB.out hb) hb3⟩
end Go.Proofs.Ytmoimijclafgcaa.G
