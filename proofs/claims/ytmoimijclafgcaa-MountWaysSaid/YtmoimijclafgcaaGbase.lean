/-
  A world of nodes on mounts in memory: the program's and the reference's; what turns.
-/
import Derived.Test.YtmoimijclafgcaaGmath
import Derived.Test.YtmoimijclafgcaaTrows
namespace Go.Proofs.Ytmoimijclafgcaa.G
open Go.RowKit Go.Shelf Go.Maps

theorem below_two {w w1 w2 : World} (h1 : Below w.heap.size w w1) (h2 : Below w1.heap.size w1 w2) : Below w.heap.size w w2 := h1.trans (h2.mono h1.size)
theorem ne_heap {w : World} {a b : Nat} {x y : Obj} (h1 : w.heap[a]? = some x) (h2 : w.heap[b]? = some y) (h : x ≠ y) : a ≠ b := fun e => h (by rw [e, h2] at h1; cases h1; rfl)
theorem ne_type {w : World} {a b : Nat} {x y : Array Value} {s t : TypeId} {p q : Nat × Nat} (h1 : w.heap[a]? = some (.cells x s p)) (h2 : w.heap[b]? = some (.cells y t q)) (h : s ≠ t) : a ≠ b := ne_heap h1 h2 (fun e => by cases e; exact h rfl)
theorem ne_map {w : World} {a b : Nat} {x : Array Value} {s : TypeId} {p : Nat × Nat} {es : Array MapEntry} {c : Nat} (h1 : w.heap[a]? = some (.cells x s p)) (h2 : w.heap[b]? = some (.map es c)) : a ≠ b := ne_heap h1 h2 (fun e => by cases e)

/-- only the blocks of S have turned, and new ones have come -/
structure Turn (S : Nat → Prop) (w w' : World) : Prop where
  os : w'.os = w.os
  tape : w'.tape = w.tape
  output : w'.output = w.output
  size : w.heap.size ≤ w'.heap.size
  block : ∀ k, k < w.heap.size → ¬ S k → w'.heap[k]? = w.heap[k]?
section
variable {S S' : Nat → Prop} {w w' w'' : World}
theorem Turn.of_below (h : Below w.heap.size w w') : Turn S w w' := ⟨h.os, h.tape, h.output, h.size, fun k hk _ => h.block k hk⟩
theorem Turn.refl (w : World) : Turn S w w := Turn.of_below (Below.refl _ _)
theorem Turn.trans (h : Turn S w w') (k : Turn S w' w'') : Turn S w w'' :=
  ⟨k.os.trans h.os, k.tape.trans h.tape, k.output.trans h.output, Nat.le_trans h.size k.size, fun i hi hn => (k.block i (Nat.lt_of_lt_of_le hi h.size) hn).trans (h.block i hi hn)⟩
theorem Turn.late (h : Turn S w w') (k : Turn S' w' w'') (hs : ∀ i, S' i → S i ∨ w.heap.size ≤ i) : Turn S w w'' :=
  ⟨k.os.trans h.os, k.tape.trans h.tape, k.output.trans h.output, Nat.le_trans h.size k.size, fun i hi hn => (k.block i (Nat.lt_of_lt_of_le hi h.size) (fun e => (hs i e).elim hn (by omega))).trans (h.block i hi hn)⟩
theorem Turn.more (h : Turn S w w') {n : Nat} (k : Below n w' w'') (hn : w.heap.size ≤ n) : Turn S w w'' :=
  ⟨k.os.trans h.os, k.tape.trans h.tape, k.output.trans h.output, Nat.le_trans h.size k.size, fun i hi hS => (k.block i (Nat.lt_of_lt_of_le hi hn)).trans (h.block i hi hS)⟩
theorem Turn.next (h : Turn S w w') (k : Below w'.heap.size w' w'') : Turn S w w'' := h.more k h.size
theorem Turn.ahead (h : Below w.heap.size w w') (k : Turn S w' w'') : Turn S w w'' := (Turn.of_below h).trans k
theorem Turn.mono (h : Turn S w w') (hs : ∀ i, S i → S' i) : Turn S' w w' := ⟨h.os, h.tape, h.output, h.size, fun k hk hn => h.block k hk fun e => hn (hs k e)⟩
theorem Turn.below (h : Turn S w w') {B : Nat} (hB : B ≤ w.heap.size) (hs : ∀ i, S i → B ≤ i) : Below B w w' := ⟨h.os, h.tape, h.output, h.size, fun k hk => h.block k (by omega) fun e => by have := hs k e; omega⟩
theorem Turn.cell (h : Turn S w w') {p : Addr} (hp : p.block < w.heap.size) (hn : ¬ S p.block) : w'.cell? p = w.cell? p := by
  have := h.block p.block hp hn
  simp [World.cell?, this]
end

/-! rows of mounts -/
def Mt.cs (m : Mt) : List Value := [.int .i64 m.root, .int .i64 m.cov, .int .i64 m.q.b, .int .i64 m.q.n, .int .i64 m.q.mb, .int .i64 m.q.mn]
theorem cs_len (m : Mt) : m.cs.length = 6 := rfl
theorem cs_one (m : Mt) : ∀ v ∈ m.cs, v.oneCell' = true := by
  intro v hv
  simp only [Mt.cs, List.mem_cons, List.not_mem_nil, or_false] at hv
  rcases hv with rfl | rfl | rfl | rfl | rfl | rfl <;> rfl
def flat (ds : List Mt) : List Value := ds.flatMap Mt.cs
theorem flat_len (ds : List Mt) : (flat ds).length = ds.length * 6 := by
  induction ds with
  | nil => rfl
  | cons x r ih => simp only [flat, List.flatMap_cons, List.length_append, List.length_cons] at ih ⊢; rw [ih, cs_len]; omega
theorem flat_snoc (ds : List Mt) (m : Mt) : flat (ds ++ [m]) = flat ds ++ m.cs := by simp [flat]
theorem flat_at : ∀ (ds : List Mt) (k : Nat) (m : Mt) (j : Nat), ds[k]? = some m → j < 6 → (flat ds)[k * 6 + j]? = m.cs[j]?
  | [], k, x, j, h, _ => by simp at h
  | y :: ls, 0, x, j, h, hj => by
    simp at h; subst h
    simp only [flat, List.flatMap_cons, Nat.zero_mul, Nat.zero_add]
    rw [List.getElem?_append_left (by rw [cs_len]; exact hj)]
  | y :: ls, k + 1, x, j, h, hj => by
    have h' : ls[k]? = some x := by simpa using h
    have e := flat_at ls k x j h' hj
    simp only [flat, List.flatMap_cons] at e ⊢
    rw [List.getElem?_append_right (by rw [cs_len]; omega), cs_len, show (k + 1) * 6 + j - 6 = k * 6 + j by omega]
    exact e
theorem flat_one (ds : List Mt) : ∀ u ∈ flat ds, u.oneCell' = true := by
  intro u hu
  obtain ⟨x, _, hm⟩ := List.mem_flatMap.1 hu
  exact cs_one x u hm
/-- the six cells of a mount at a place -/
def MtAt (g o : Nat) (m : Mt) (w : World) : Prop := w.cell? ⟨g, o, none⟩ = some (.int .i64 m.root) ∧ w.cell? ⟨g, o + 1, none⟩ = some (.int .i64 m.cov) ∧ w.cell? ⟨g, o + 2, none⟩ = some (.int .i64 m.q.b) ∧
  w.cell? ⟨g, o + 3, none⟩ = some (.int .i64 m.q.n) ∧ w.cell? ⟨g, o + 4, none⟩ = some (.int .i64 m.q.mb) ∧ w.cell? ⟨g, o + 5, none⟩ = some (.int .i64 m.q.mn)
theorem MtAt.lt {g o : Nat} {m : Mt} {w : World} (h : MtAt g o m w) : g < w.heap.size := World.block_lt_of_cell? _ _ h.1
theorem MtAt.same {g o : Nat} {m : Mt} {w w' : World} (h : MtAt g o m w) (hb : w'.heap[g]? = w.heap[g]?) : MtAt g o m w' := by
  have c : ∀ i, w'.cell? ⟨g, i, none⟩ = w.cell? ⟨g, i, none⟩ := fun i => by simp [World.cell?, hb]
  obtain ⟨h0, h1, h2, h3, h4, h5⟩ := h
  exact ⟨(c _).trans h0, (c _).trans h1, (c _).trans h2, (c _).trans h3, (c _).trans h4, (c _).trans h5⟩
theorem MtAt.below {g o : Nat} {m : Mt} {w w' : World} (h : MtAt g o m w) (hb : Below w.heap.size w w') : MtAt g o m w' := h.same (hb.block g h.lt)
/-- the slice v holds these mounts, in memory of the call's own, as structs of the type t -/
def MRow (B : Nat) (t : TypeId) (v : Value) (ds : List Mt) (w : World) : Prop := w.ownsRow B t 6 v ds.length (flat ds)
section
variable {B : Nat} {t : TypeId} {v : Value} {ds : List Mt} {w w' : World}
theorem MRow.nil (B : Nat) (t : TypeId) (w : World) : MRow B t (.slice none 0 0) [] w := World.ownsRow_nil _ _ _ _
theorem MRow.forms (h : MRow B t v ds w) : (v = .slice none 0 0 ∧ ds = []) ∨ ∃ g cap cur, v = .slice (some ⟨g, 0, none⟩) ds.length cap ∧ B ≤ g ∧ w.heap[g]? = some (.cells cur t (0, 0)) ∧ ds.length ≤ cap ∧ cap ≤ maxLen := by
  rcases h.2 with ⟨h1, h2⟩ | ⟨g, cap, cur, h1, h2, h3, h4, h5, _⟩
  · exact .inl ⟨h1, List.eq_nil_of_length_eq_zero h2⟩
  · exact .inr ⟨g, cap, cur, h1, h2, h3, h4, h5⟩
theorem MRow.slice (h : MRow B t v ds w) : ∃ oa cap, v = .slice oa ds.length cap := by
  rcases h.forms with ⟨rfl, rfl⟩ | ⟨g, cap, _, rfl, _⟩
  · exact ⟨_, _, rfl⟩
  · exact ⟨_, _, rfl⟩
theorem MRow.same (h : MRow B t v ds w) (hk : ∀ g, v.ownBlock = some g → w'.heap[g]? = w.heap[g]?) : MRow B t v ds w' := by
  refine ⟨h.1, h.2.imp id ?_⟩
  rintro ⟨g, cap, cur, rfl, h2, h3, h4⟩
  exact ⟨g, cap, cur, rfl, h2, (hk g rfl).trans h3, h4⟩
theorem MRow.block (h : MRow B t v ds w) {g : Nat} (hg : v.ownBlock = some g) : B ≤ g ∧ ∃ cur, w.heap[g]? = some (.cells cur t (0, 0)) := by
  rcases h.forms with ⟨rfl, _⟩ | ⟨g', cap, cur, rfl, h2, h3, _⟩
  · cases hg
  · cases hg; exact ⟨h2, cur, h3⟩
theorem MRow.lt (h : MRow B t v ds w) {g : Nat} (hg : v.ownBlock = some g) : g < w.heap.size := by
  obtain ⟨_, cur, h3⟩ := h.block hg
  exact (Array.getElem?_eq_some_iff.1 h3).1
theorem MRow.below (h : MRow B t v ds w) (hb : Below w.heap.size w w') : MRow B t v ds w' := h.same fun _ hg => hb.block _ (h.lt hg)
theorem MRow.at (h : MRow B t v ds w) {k : Nat} {m : Mt} (hk : ds[k]? = some m) : ∃ g cap, v = .slice (some ⟨g, 0, none⟩) ds.length cap ∧ MtAt g (k * 6) m w := by
  have hlt : k < ds.length := (List.getElem?_eq_some_iff.1 hk).1
  rcases h.forms with ⟨rfl, rfl⟩ | ⟨g, cap, _, rfl, _⟩
  · simp at hlt
  · have c : ∀ j, j < 6 → w.cell? ⟨g, k * 6 + j, none⟩ = m.cs[j]? := fun j hj => by
      rw [World.ownsRow.cellAt h (k * 6 + j) (by omega)]
      exact flat_at ds k m j hk hj
    exact ⟨g, cap, rfl, c 0 (by decide), c 1 (by decide), c 2 (by decide), c 3 (by decide), c 4 (by decide), c 5 (by decide)⟩
theorem MRow.snoc {m : Mt} (h : w.ownsRow B t 6 v (ds.length + 1) (flat ds ++ m.cs)) : MRow B t v (ds ++ [m]) w := by
  unfold MRow; rw [flat_snoc, List.length_append]; exact h
end

/-! the program's world -/
def wS (X A M : Nat) (mv : Value) (k : Nat) : Prop := k = X ∨ k = A ∨ k = M ∨ mv.ownBlock = some k
/-- X points at a world, its table at A (the map in M), its mounts in the slice mv -/
structure Wd (B X A M : Nat) (mv : Value) (st : St) (w : World) : Prop where
  bx : B ≤ X
  head : w.heap[X]? = some (.cells #[.pointer (some ⟨A, 0, none⟩), mv] 51 (0, 0))
  rows : MRow B 90 mv st.d w
  tab : ∃ l : T.Row, l.map Prod.fst = st.n ∧ T.Tab B A M st.last l w
section
variable {B X A M : Nat} {mv : Value} {st : St} {w w' : World}
theorem Wd.ltX (h : Wd B X A M mv st w) : X < w.heap.size := (Array.getElem?_eq_some_iff.1 h.head).1
theorem Wd.facts (h : Wd B X A M mv st w) : w.cell? ⟨X, 0, none⟩ = some (.pointer (some ⟨A, 0, none⟩)) ∧ w.cell? ⟨X, 1, none⟩ = some mv ∧ w.frozen? ⟨X, 0, none⟩ = false ∧ w.frozen? ⟨X, 1, none⟩ = false :=
  ⟨by rw [Lib.cell_of_heap h.head]; rfl, by rw [Lib.cell_of_heap h.head]; rfl, Lib.frozen_of_heap h.head 0, Lib.frozen_of_heap h.head 1⟩
theorem Wd.stays (h : Wd B X A M mv st w) (hk : ∀ k, wS X A M mv k → w'.heap[k]? = w.heap[k]?) (hE : T.EntKept w w') : Wd B X A M mv st w' := by
  obtain ⟨l, h1, h2⟩ := h.tab
  exact ⟨h.bx, (hk X (.inl rfl)).trans h.head, h.rows.same fun g hg => hk g (.inr (.inr (.inr hg))), l, h1, h2.stays (hk A (.inr (.inl rfl))) (hk M (.inr (.inr (.inl rfl)))) hE⟩
theorem Wd.lt (h : Wd B X A M mv st w) {k : Nat} (hk : wS X A M mv k) : k < w.heap.size := by
  obtain ⟨l, _, h2⟩ := h.tab
  rcases hk with rfl | rfl | rfl | hk
  · exact h.ltX
  · exact h2.ltT
  · exact h2.ltM
  · exact h.rows.lt hk
theorem Wd.ge (h : Wd B X A M mv st w) {k : Nat} (hk : wS X A M mv k) : B ≤ k := by
  obtain ⟨l, _, h2⟩ := h.tab
  rcases hk with rfl | rfl | rfl | hk
  · exact h.bx
  · exact h2.bt
  · exact h2.bm
  · exact (h.rows.block hk).1
theorem Wd.below (h : Wd B X A M mv st w) (hb : Below w.heap.size w w') : Wd B X A M mv st w' := h.stays (fun k hk => hb.block k (h.lt hk)) (T.EntKept.below hb)
theorem Wd.alloc (h : Wd B X A M mv st w) (o : Obj) : Wd B X A M mv st (w.alloc o) := h.below ((Below.refl _ _).alloc (Nat.le_refl _) o)
theorem Wd.drew (h : Wd B X A M mv st w) : Wd B X A M mv st w.drew := h.below ((Below.refl _ _).drew)
theorem Wd.ofTurn (h : Wd B X A M mv st w) (ht : Turn (wS X A M mv) w w') (hB : B ≤ w.heap.size) : Below B w w' := ht.below hB fun _ hk => h.ge hk
/-- a block that is none of the world's: told by its type -/
theorem Wd.not (h : Wd B X A M mv st w) {b : Nat} {cs : Array Value} {t : TypeId} {p : Nat × Nat} (hb : w.heap[b]? = some (.cells cs t p)) (h1 : t ≠ 51) (h2 : t ≠ 113) (h3 : t ≠ 90) : ¬ wS X A M mv b := by
  obtain ⟨l, _, hT⟩ := h.tab
  rintro (rfl | rfl | rfl | hk)
  · exact ne_type hb h.head h1 rfl
  · exact ne_type hb hT.head h2 rfl
  · obtain ⟨es, clock, hm, _⟩ := hT.map
    exact ne_map hb hm rfl
  · obtain ⟨_, cur, hc⟩ := h.rows.block hk
    exact ne_type hb hc h3 rfl
theorem Wd.entKept (h : Wd B X A M mv st w) (ht : Turn (wS X A M mv) w w') : T.EntKept w w' := fun g cur hg =>
  (ht.block g (Array.getElem?_eq_some_iff.1 hg).1 (h.not hg (by decide) (by decide) (by decide))).trans hg
end

/-! the reference's -/
def fS (F : Nat) (nv dv : Value) (k : Nat) : Prop := k = F ∨ nv.ownBlock = some k ∨ dv.ownBlock = some k
structure Fs (B F : Nat) (nv dv : Value) (st : St) (w : World) : Prop where
  bf : B ≤ F
  head : w.heap[F]? = some (.cells #[nv, dv, .int .i64 st.last, .int .i64 0, .int .i64 0, .slice none 0 0, .bool false] 47 (0, 0))
  nodes : ∃ l : T.Row, l.map Prod.fst = st.n ∧ T.RowOwn B nv l w ∧ ∀ p ∈ l, E.Own B p.2 p.1.es w
  devs : MRow B 56 dv (raw st.d) w
theorem row_block {B : Nat} {v : Value} {l : T.Row} {w : World} (h : T.RowOwn B v l w) {g : Nat} (hg : v.ownBlock = some g) : B ≤ g ∧ ∃ cur, w.heap[g]? = some (.cells cur 71 (0, 0)) := by
  rcases h.2 with ⟨rfl, _⟩ | ⟨g', cap, cur, rfl, h2, h3, _⟩
  · cases hg
  · cases hg; exact ⟨h2, cur, h3⟩
theorem row_same {B : Nat} {v : Value} {l : T.Row} {w w' : World} (h : T.RowOwn B v l w) (hk : ∀ g, v.ownBlock = some g → w'.heap[g]? = w.heap[g]?) : T.RowOwn B v l w' := by
  refine ⟨h.1, h.2.imp id ?_⟩
  rintro ⟨g, cap, cur, rfl, h2, h3, h4⟩
  exact ⟨g, cap, cur, rfl, h2, (hk g rfl).trans h3, h4⟩
section
variable {B F : Nat} {nv dv : Value} {st : St} {w w' : World}
theorem Fs.ltF (h : Fs B F nv dv st w) : F < w.heap.size := (Array.getElem?_eq_some_iff.1 h.head).1
theorem Fs.facts (h : Fs B F nv dv st w) : w.cell? ⟨F, 0, none⟩ = some nv ∧ w.cell? ⟨F, 1, none⟩ = some dv ∧ w.cell? ⟨F, 2, none⟩ = some (.int .i64 st.last) ∧ w.frozen? ⟨F, 0, none⟩ = false ∧ w.frozen? ⟨F, 1, none⟩ = false ∧ w.frozen? ⟨F, 2, none⟩ = false :=
  ⟨by rw [Lib.cell_of_heap h.head]; rfl, by rw [Lib.cell_of_heap h.head]; rfl, by rw [Lib.cell_of_heap h.head]; rfl, Lib.frozen_of_heap h.head 0, Lib.frozen_of_heap h.head 1, Lib.frozen_of_heap h.head 2⟩
theorem Fs.stays (h : Fs B F nv dv st w) (hk : ∀ k, fS F nv dv k → w'.heap[k]? = w.heap[k]?) (hE : T.EntKept w w') : Fs B F nv dv st w' := by
  obtain ⟨l, h1, h2, h3⟩ := h.nodes
  exact ⟨h.bf, (hk F (.inl rfl)).trans h.head, ⟨l, h1, row_same h2 fun g hg => hk g (.inr (.inl hg)), fun p hp => T.own_kept (h3 p hp) hE⟩, h.devs.same fun g hg => hk g (.inr (.inr hg))⟩
theorem Fs.lt (h : Fs B F nv dv st w) {k : Nat} (hk : fS F nv dv k) : k < w.heap.size := by
  obtain ⟨l, _, h2, _⟩ := h.nodes
  rcases hk with rfl | hk | hk
  · exact h.ltF
  · obtain ⟨_, cur, hc⟩ := row_block h2 hk
    exact (Array.getElem?_eq_some_iff.1 hc).1
  · exact h.devs.lt hk
theorem Fs.ge (h : Fs B F nv dv st w) {k : Nat} (hk : fS F nv dv k) : B ≤ k := by
  obtain ⟨l, _, h2, _⟩ := h.nodes
  rcases hk with rfl | hk | hk
  · exact h.bf
  · exact (row_block h2 hk).1
  · exact (h.devs.block hk).1
theorem Fs.below (h : Fs B F nv dv st w) (hb : Below w.heap.size w w') : Fs B F nv dv st w' := h.stays (fun k hk => hb.block k (h.lt hk)) (T.EntKept.below hb)
theorem Fs.alloc (h : Fs B F nv dv st w) (o : Obj) : Fs B F nv dv st (w.alloc o) := h.below ((Below.refl _ _).alloc (Nat.le_refl _) o)
theorem Fs.drew (h : Fs B F nv dv st w) : Fs B F nv dv st w.drew := h.below ((Below.refl _ _).drew)
theorem Fs.ofTurn (h : Fs B F nv dv st w) (ht : Turn (fS F nv dv) w w') (hB : B ≤ w.heap.size) : Below B w w' := ht.below hB fun _ hk => h.ge hk
theorem Fs.not (h : Fs B F nv dv st w) {b : Nat} {cs : Array Value} {t : TypeId} {p : Nat × Nat} (hb : w.heap[b]? = some (.cells cs t p)) (h1 : t ≠ 47) (h2 : t ≠ 71) (h3 : t ≠ 56) : ¬ fS F nv dv b := by
  obtain ⟨l, _, hN, _⟩ := h.nodes
  rintro (rfl | hk | hk)
  · exact ne_type hb h.head h1 rfl
  · obtain ⟨_, cur, hc⟩ := row_block hN hk
    exact ne_type hb hc h2 rfl
  · obtain ⟨_, cur, hc⟩ := h.devs.block hk
    exact ne_type hb hc h3 rfl
theorem Fs.notMap (h : Fs B F nv dv st w) {b : Nat} {es : Array MapEntry} {c : Nat} (hb : w.heap[b]? = some (.map es c)) : ¬ fS F nv dv b := by
  obtain ⟨l, _, hN, _⟩ := h.nodes
  rintro (rfl | hk | hk)
  · exact ne_map h.head hb rfl
  · obtain ⟨_, cur, hc⟩ := row_block hN hk
    exact ne_map hc hb rfl
  · obtain ⟨_, cur, hc⟩ := h.devs.block hk
    exact ne_map hc hb rfl
theorem Fs.entKept (h : Fs B F nv dv st w) (ht : Turn (fS F nv dv) w w') : T.EntKept w w' := fun g cur hg =>
  (ht.block g (Array.getElem?_eq_some_iff.1 hg).1 (h.not hg (by decide) (by decide) (by decide))).trans hg
/-- the reference stays where the program's world turns, and the other way round -/
theorem Fs.beside (h : Fs B F nv dv st w) {B' X A M : Nat} {mv : Value} {st' : St} (hW : Wd B' X A M mv st' w) (ht : Turn (wS X A M mv) w w') : Fs B F nv dv st w' := by
  refine h.stays (fun k hk => ht.block k (h.lt hk) ?_) (hW.entKept ht)
  obtain ⟨l, _, hN, _⟩ := h.nodes
  rcases hk with rfl | hk | hk
  · exact hW.not h.head (by decide) (by decide) (by decide)
  · obtain ⟨_, cur, hc⟩ := row_block hN hk
    exact hW.not hc (by decide) (by decide) (by decide)
  · obtain ⟨_, cur, hc⟩ := h.devs.block hk
    exact hW.not hc (by decide) (by decide) (by decide)
theorem Wd.beside {B' X A M : Nat} {mv : Value} {st' : St} (hW : Wd B' X A M mv st' w) (h : Fs B F nv dv st w) (ht : Turn (fS F nv dv) w w') : Wd B' X A M mv st' w' := by
  refine hW.stays (fun k hk => ht.block k (hW.lt hk) ?_) (h.entKept ht)
  obtain ⟨l, _, hT⟩ := hW.tab
  rcases hk with rfl | rfl | rfl | hk
  · exact h.not hW.head (by decide) (by decide) (by decide)
  · exact h.not hT.head (by decide) (by decide) (by decide)
  · obtain ⟨es, clock, hm, _⟩ := hT.map
    exact h.notMap hm
  · obtain ⟨_, cur, hc⟩ := hW.rows.block hk
    exact h.not hc (by decide) (by decide) (by decide)
end
end Go.Proofs.Ytmoimijclafgcaa.G
