/-
  The table beneath a world: Add, Set, Drop, Len, told of the world.
-/
import Derived.Test.YtmoimijclafgcaaGtake
namespace Go.Proofs.Ytmoimijclafgcaa.G
open Go.RowKit Go.Shelf
attribute [local go_sem] Oper.semAt_some

theorem fst_snoc (l : T.Row) (p : T.Nd × Value) : (l ++ [p]).map Prod.fst = l.map Prod.fst ++ [p.1] := by simp
theorem fst_strike (l : T.Row) (k : Int) : (T.strike l k).map Prod.fst = dropN (l.map Prod.fst) k := by
  unfold T.strike dropN
  rw [List.filter_map]; rfl
theorem fst_repl (l : T.Row) (x : T.Nd) (u : Value) : (T.repl l (x, u)).map Prod.fst = setN (l.map Prod.fst) x := by
  unfold T.repl setN
  rw [List.map_map, List.map_map]
  refine List.map_congr_left fun p _ => ?_
  show (if p.1.no = x.no then (x, u) else p).1 = if p.1.no = x.no then x else p.1
  split <;> rfl
theorem Turn.of_only {A M : Nat} {w w' : World} (h : T.Only A M w w') : Turn (fun k => k = A ∨ k = M) w w' :=
  ⟨h.os, h.tape, h.output, h.size, fun k hk hn => h.block k hk (fun e => hn (.inl e)) (fun e => hn (.inr e))⟩
section
variable {B X A M : Nat} {mv : Value} {st : St} {w w' : World}
theorem wS_tab {k : Nat} (h : k = A ∨ k = M) : wS X A M mv k := .inr (h.imp id .inl)
theorem wS_row {k : Nat} (h : mv.ownBlock = some k) : wS X A M mv k := .inr (.inr (.inr h))
/-- the table turns, the rest stays -/
theorem Wd.tabbed (h : Wd B X A M mv st w) {last : Int} {l : T.Row} (hT : T.Tab B A M last l w') (hO : T.Only A M w w') : Wd B X A M mv ⟨last, l.map Prod.fst, st.d⟩ w' := by
  obtain ⟨l0, h1, h2⟩ := h.tab
  refine ⟨h.bx, ?_, h.rows.same fun g hg => ?_, l, rfl, hT⟩
  · refine (hO.block X h.ltX (ne_type h.head h2.head (by decide)) ?_).trans h.head
    obtain ⟨es, clock, hm, _⟩ := h2.map
    exact ne_map h.head hm
  · obtain ⟨_, cur, hc⟩ := h.rows.block hg
    refine hO.block g (h.rows.lt hg) (ne_type hc h2.head (by decide)) ?_
    obtain ⟨es, clock, hm, _⟩ := h2.map
    exact ne_map hc hm
theorem box_turn {b : Nat} {n : T.Nd} {s : Value} {S : Nat → Prop} (D : T.BoxN b n s w) (h : Wd B X A M mv st w) (ht : Turn S w w') (hs : ∀ k, S k → wS X A M mv k) : T.BoxN b n s w' :=
  (ht.block b D.lt fun e => h.not D (by decide) (by decide) (by decide) (hs b e)).trans D
theorem Len_st (h : Wd B X A M mv st w) : Calls Try.prog 15 #[.pointer (some ⟨A, 0, none⟩)] w fun e w' => e = .returned (.int .i64 st.n.length) ∧ w = w' := by
  obtain ⟨l, h1, h2⟩ := h.tab
  have c := T.Len_any h2
  rw [show l.length = st.n.length by rw [← h1, List.length_map]] at c
  exact c
theorem Add_st (h : Wd B X A M mv st w) (n : T.Nd) (s : Value) (hS : E.Sees s n.es w) (hl : T.Fits n.es) (hlen : st.n.length < 1000000) (hlast : st.last < 1000000) :
    Calls Try.prog 79 #[.pointer (some ⟨A, 0, none⟩), n.v s] w fun e w' =>
    e = .returned (.int .i64 (st.last + 1)) ∧ Wd B X A M mv ⟨st.last + 1, st.n ++ [n.as (st.last + 1)], st.d⟩ w' ∧ Turn (fun k => k = A ∨ k = M) w w' := by
  obtain ⟨l, h1, h2⟩ := h.tab
  refine (T.Add_any h2 n s hS hl (by rw [← h1, List.length_map] at hlen; exact hlen) hlast).mono ?_
  rintro e w' ⟨rfl, hO, u, hT⟩
  have := h.tabbed hT hO
  rw [fst_snoc, h1] at this
  exact ⟨rfl, this, .of_only hO⟩
theorem Drop_st (h : Wd B X A M mv st w) (k : Int) (hk : T.Wf k) : Calls Try.prog 29 #[.pointer (some ⟨A, 0, none⟩), .int .i64 k] w fun e w' =>
    e = .returned (.bool (get st.n k).isSome) ∧ Wd B X A M mv ⟨st.last, dropN st.n k, st.d⟩ w' ∧ Turn (fun k => k = A ∨ k = M) w w' := by
  obtain ⟨l, h1, h2⟩ := h.tab
  refine (T.Drop_any h2 k hk).mono ?_
  rintro e w' ⟨rfl, hT, hO⟩
  have := h.tabbed hT hO
  rw [fst_strike, h1] at this
  exact ⟨by rw [look_is, h1], this, .of_only hO⟩
theorem setN_none {n : List T.Nd} {x : T.Nd} (h : (get n x.no).isSome = false) : setN n x = n := by
  unfold setN
  have := get_none (n := n) (k := x.no) (by simpa using h)
  conv => rhs; rw [← List.map_id n]
  refine List.map_congr_left fun p hp => ?_
  rw [if_neg (this p hp)]; rfl
theorem Set_st (h : Wd B X A M mv st w) (n : T.Nd) (s : Value) (hS : E.Sees s n.es w) (hl : T.Fits n.es) (hk : T.Wf n.no) (hlen : st.n.length < 1000000) :
    Calls Try.prog 35 #[.pointer (some ⟨A, 0, none⟩), n.v s] w fun e w' =>
    e = .returned (.bool (get st.n n.no).isSome) ∧ Wd B X A M mv ⟨st.last, setN st.n n, st.d⟩ w' ∧ Turn (fun k => k = A ∨ k = M) w w' := by
  obtain ⟨l, h1, h2⟩ := h.tab
  refine (T.Set_any h2 n s hS hl hk (by rw [← h1, List.length_map] at hlen; exact hlen)).mono ?_
  rintro e w' ⟨rfl, hO, hT⟩
  have hg : (T.look l n.no).isSome = (get st.n n.no).isSome := by rw [look_is, h1]
  refine ⟨by rw [hg], ?_, .of_only hO⟩
  rcases hT with ⟨hn, hT⟩ | ⟨hn, u, hT⟩
  · have := h.tabbed hT hO
    rw [h1] at this
    rw [setN_none (by rw [← hg]; exact hn)]
    exact this
  · have := h.tabbed hT hO
    rw [fst_repl, h1] at this
    exact this
end
end Go.Proofs.Ytmoimijclafgcaa.G
