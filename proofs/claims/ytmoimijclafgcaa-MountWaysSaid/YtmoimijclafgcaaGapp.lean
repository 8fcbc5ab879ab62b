/-
  append to a row of the call's own: where what it answers lies.
-/
import Derived.Test.YtmoimijclafgcaaGfill
namespace Go.Proofs.Ytmoimijclafgcaa.G
open Go.RowKit Go.Shelf
attribute [local go_sem] Oper.semAt_some

theorem run_append_fresh {P : Program} (w : World) (base : Nat) (t ty e : TypeId) (i : TypeInfo) (z : Value) (size bytes : Nat) (ht : P.underlying t = some (.slice e)) (hi : P.info? e = some i) (hz : i.zero = some z)
    (hsize : i.size = size) (hby : i.bytes = bytes) (hzs : z.cells.size = size) (hsz : 0 < size)
    (v : Value) (n : Nat) (xs : List Value) (hown : w.ownsRow base e size v n xs)
    (a : Addr) (m c : Nat) (news : List Value) (hl : news.length = m * size) (hnews : ∀ j u, news[j]? = some u → w.cell? (a.add j) = some u) (h1 : ∀ u ∈ news, u.oneCell' = true)
    (h63 : n + m ≤ maxLen) (hbytes : (n + m) * bytes ≤ 140737488355328) (hbase : base ≤ w.heap.size) :
    ∃ v' w', (Builtin.append_ #[t, t] ty #[v, .slice (some a) m c]).run P w = .ok v' w' ∧ w'.ownsRow base e size v' (n + m) (xs ++ news) ∧ w.grownBy w' v.ownBlock ∧
      ∀ k, v'.ownBlock = some k → v.ownBlock = some k ∨ w.heap.size ≤ k := by
  obtain ⟨v', w', hr, h2, h3, _⟩ := run_append_own (P := P) w base t ty e i z size bytes ht hi hz hsize hby hzs hsz v n xs hown a m c news hl hnews h1 h63 hbytes hbase
  refine ⟨v', w', hr, h2, h3, fun k hk => ?_⟩
  have hm : n + m ≤ 9223372036854775807 := by simp only [maxLen] at h63; omega
  subst hsize hby
  rcases hown.2 with ⟨rfl, rfl⟩ | ⟨g, cap, cur, rfl, hbg, hg, hnc, hcm, hcs, htake⟩
  · have hx : xs = [] := List.eq_nil_of_length_eq_zero (by simpa using hown.1)
    subst hx
    obtain ⟨v2, w2, hr2, h4, _⟩ := run_append_own (P := P) w w.heap.size t ty e i z i.size i.bytes ht hi hz rfl rfl hzs hsz (.slice none 0 0) 0 [] (World.ownsRow_nil _ _ _ _) a m c news hl hnews h1 h63 hbytes (Nat.le_refl _)
    rw [hr] at hr2
    cases hr2
    exact .inr (h4.lt k hk).1
  · by_cases hroom : n + m ≤ cap
    · have hfit : n * i.size + news.length ≤ cur.size := by rw [hl, hcs, ← Nat.add_mul]; exact Nat.mul_le_mul_right _ hroom
      have hr2 := run_append_room (P := P) w t ty e i ht hi g n cap cur hg a m c news hl hnews h1 hroom hfit
      rw [hr] at hr2
      cases hr2
      exact .inl hk
    · have holds : ∀ j u, xs[j]? = some u → w.cell? ((⟨g, 0, none⟩ : Addr).add j) = some u := hown.cells (g := g) rfl
      have hr2 := run_append_grow (P := P) w t ty e i z ht hi hz ⟨g, 0, none⟩ n cap xs hown.1 holds a m c news hl hnews (by omega) (by omega) (growslice_fits (by omega) hbytes)
      rw [hr] at hr2
      cases hr2
      cases hk
      exact .inr (Nat.le_refl _)
theorem step_append_fresh {P : Program} {ops : Array Oper} {o : Oper} {a : Act} {w : World} {K : Act → World → Prop} {Q : Exit → Act → World → Prop} {E : Prop}
    (hg : o.guard = none) (s x : Operand) (t : TypeId) (ho : o.op = .call { callee := .builtin .append, args := #[s, x], argTypes := #[t, t] })
    (base : Nat) (e : TypeId) (i : TypeInfo) (z : Value) (size bytes : Nat) (ht : P.underlying t = some (.slice e)) (hi : P.info? e = some i) (hz : i.zero = some z)
    (hsize : i.size = size) (hby : i.bytes = bytes) (hzs : z.cells.size = size) (hsz : 0 < size)
    (v : Value) (n : Nat) (xs : List Value) (hs : a.eval s = v) (hown : w.ownsRow base e size v n xs)
    (ad : Addr) (m c : Nat) (news : List Value) (hx : a.eval x = .slice (some ad) m c) (hl : news.length = m * size) (hnews : ∀ j u, news[j]? = some u → w.cell? (ad.add j) = some u) (h1 : ∀ u ∈ news, u.oneCell' = true)
    (h63 : n + m ≤ maxLen) (hbytes : (n + m) * bytes ≤ 140737488355328) (hbase : base ≤ w.heap.size)
    (h : ∀ v' w', w'.ownsRow base e size v' (n + m) (xs ++ news) → w.grownBy w' v.ownBlock → (∀ k, v'.ownBlock = some k → v.ownBlock = some k ∨ w.heap.size ≤ k) → K (a.put o.dst v') w') :
    if Region.wanted o (yielded ops a.tmps) = true then Oper.wp P o a w K Q else E := by
  have hw : Region.wanted o (yielded ops a.tmps) = true := by simp [Region.wanted, hg]
  rw [if_pos hw]
  obtain ⟨v', w', hr, h2, h3, h4⟩ := run_append_fresh (P := P) w base t o.type e i z size bytes ht hi hz hsize hby hzs hsz v n xs hown ad m c news hl hnews h1 h63 hbytes hbase
  unfold Oper.wp execOp
  simp only [ho, resolve, invoke, builtin, Sem.run_bind, Sem.run_pure, Result.andThen_ok, List.map_toArray, List.map_cons, List.map_nil, hs, hx, hr]
  exact h v' w' h2 h3 h4

theorem infoM : (Try.prog.info? 90).map (fun i => (i.zero, i.size, i.bytes)) = some (some (.agg #[.int .i64 0, .int .i64 0, .int .i64 0, .int .i64 0, .int .i64 0, .int .i64 0]), 6, 48) := by kernel_rfl
theorem infoD : (Try.prog.info? 56).map (fun i => (i.zero, i.size, i.bytes)) = some (some (.agg #[.int .i64 0, .int .i64 0, .int .i64 0, .int .i64 0, .int .i64 0, .int .i64 0]), 6, 48) := by kernel_rfl
/-- the one mount that is appended lies in a new block -/
theorem one_mount (w : World) (m : Mt) (t : TypeId) : ∀ j u, m.cs[j]? = some u → (w.alloc (.cells #[.int .i64 m.root, .int .i64 m.cov, .int .i64 m.q.b, .int .i64 m.q.n, .int .i64 m.q.mb, .int .i64 m.q.mn] t)).cell? ((⟨w.heap.size, 0, none⟩ : Addr).add j) = some u := by
  intro j u h
  rw [T.add_at, Nat.zero_add, World.cell?_alloc_new]
  simpa [Mt.cs] using h
section
variable {B X A M : Nat} {mv mv' : Value} {st : St} {w w' : World}
/-- one more mount -/
theorem Wd.snoc (h : Wd B X A M mv st w) {m : Mt} (hR : w'.ownsRow B 90 6 mv' (st.d.length + 1) (flat st.d ++ m.cs)) (hg : w.grownBy w' mv.ownBlock) :
    Wd B X A M mv' ⟨st.last, st.n, st.d ++ [m]⟩ (w'.setCell ⟨X, 1, none⟩ mv') ∧ Turn (wS X A M mv) w (w'.setCell ⟨X, 1, none⟩ mv') := by
  obtain ⟨l, h1, h2⟩ := h.tab
  have hn : ∀ k, (k = X ∨ k = A ∨ k = M) → w'.heap[k]? = w.heap[k]? := fun k hk => by
    refine hg.block k (h.lt (hk.imp id (Or.imp id .inl))) fun e => ?_
    obtain ⟨_, cur, hc⟩ := h.rows.block e.symm
    rcases hk with rfl | rfl | rfl
    · exact ne_type h.head hc (by decide) rfl
    · exact ne_type h2.head hc (by decide) rfl
    · obtain ⟨es, clock, hm, _⟩ := h2.map
      exact ne_map hc hm rfl
  have hE : T.EntKept w w' := fun g cur hg' => (hg.block g (Array.getElem?_eq_some_iff.1 hg').1 fun e => by
    obtain ⟨_, cur', hc⟩ := h.rows.block e.symm
    exact ne_type hg' hc (by decide) rfl).trans hg'
  have hX : w'.heap[X]? = some (.cells #[.pointer (some ⟨A, 0, none⟩), mv] 51 (0, 0)) := (hn X (.inl rfl)).trans h.head
  have hA : A ≠ X := (ne_type h.head h2.head (by decide)).symm
  have hM : M ≠ X := by
    obtain ⟨es, clock, hm, _⟩ := h2.map
    exact (ne_map h.head hm).symm
  have hR' := MRow.snoc hR
  refine ⟨⟨h.bx, ?_, hR'.same fun g hg' => ?_, l, h1, ?_⟩, ?_⟩
  · simp [World.setCell, Array.getElem?_modify, hX]
  · obtain ⟨_, cur, hc⟩ := hR'.block hg'
    exact RowKit.Below.heap_setCell _ _ _ _ (ne_type hc hX (by decide))
  · refine h2.stays ((RowKit.Below.heap_setCell _ _ _ _ hA).trans (hn A (.inr (.inl rfl)))) ((RowKit.Below.heap_setCell _ _ _ _ hM).trans (hn M (.inr (.inr rfl)))) (hE.trans (T.entKept_set hX (by decide) _ _))
  · refine ⟨hg.os, hg.tape, hg.output, by rw [World.size_setCell]; exact hg.size, fun k hk hn' => ?_⟩
    rw [RowKit.Below.heap_setCell _ _ _ _ (fun e => hn' (.inl e))]
    exact hg.block k hk fun e => hn' (wS_row e.symm)
end
end Go.Proofs.Ytmoimijclafgcaa.G
