/-
  append to a row of the call's own: where what it answers lies.
-/
import Derived.Test.YtenopnfclbegbaaGreatWtwo
import Derived.Deep.DeepCutAuto
namespace Go.Proofs.YtenopnfclbegbaaGreat.G
open Go.RowKit Go.Shelf
attribute [local go_sem] Oper.semAt_some

theorem run_append_fresh {P : Program} (w : World) (base : Nat) (t ty e : TypeId) (i : TypeInfo) (z : Value) (size bytes : Nat) (ht : P.underlying t = some (.slice e)) (hi : P.info? e = some i) (hz : i.zero = some z)
    (hsize : i.size = size) (hby : i.bytes = bytes) (hzs : z.cells.size = size) (hsz : 0 < size)
    (v : Value) (n : Nat) (xs : List Value) (hown : w.ownsRow base e size v n xs)
    (a : Addr) (m c : Nat) (news : List Value) (hl : news.length = m * size) (hnews : ∀ j u, news[j]? = some u → w.cell? (a.add j) = some u) (h1 : ∀ u ∈ news, u.oneCell' = true)
    (h63 : n + m ≤ maxLen) (hbytes : (n + m) * bytes ≤ 140737488355328) (hbase : base ≤ w.heap.size) :
    ∃ v' w', (Builtin.append_ #[t, t] ty #[v, .slice (some a) m c]).run P w = .ok v' w' ∧ w'.ownsRow base e size v' (n + m) (xs ++ news) ∧ w.grownBy w' v.ownBlock ∧
      ∀ k, v'.ownBlock = some k → v.ownBlock = some k ∨ w.heap.size ≤ k := by
  obtain ⟨v', w', hr, h2, h3, _⟩ := run_append_own (P := P) w base t ty e i z size bytes ht hi hz hsize hby hzs hsz v n xs hown a m c news hl hnews h1 h63 hbytes hbase
  refine ⟨v', w', hr, h2, h3, fun k hk => ?_⟩
  have hm : n + m ≤ 9223372036854775807 := by simp only [maxLen] at h63; omega
  subst hsize hby
  rcases hown.2 with ⟨rfl, rfl⟩ | ⟨g, cap, cur, rfl, hbg, hg, hnc, hcm, hcs, htake⟩
  · have hx : xs = [] := List.eq_nil_of_length_eq_zero (by simpa using hown.1)
    subst hx
    obtain ⟨v2, w2, hr2, h4, _⟩ := run_append_own (P := P) w w.heap.size t ty e i z i.size i.bytes ht hi hz rfl rfl hzs hsz (.slice none 0 0) 0 [] (World.ownsRow_nil _ _ _ _) a m c news hl hnews h1 h63 hbytes (Nat.le_refl _)
    rw [hr] at hr2
    cases hr2
    exact .inr (h4.lt k hk).1
  · by_cases hroom : n + m ≤ cap
    · have hfit : n * i.size + news.length ≤ cur.size := by rw [hl, hcs, ← Nat.add_mul]; exact Nat.mul_le_mul_right _ hroom
      have hr2 := run_append_room (P := P) w t ty e i ht hi g n cap cur hg a m c news hl hnews h1 hroom hfit
      rw [hr] at hr2
      cases hr2
      exact .inl hk
    · have holds : ∀ j u, xs[j]? = some u → w.cell? ((⟨g, 0, none⟩ : Addr).add j) = some u := hown.cells (g := g) rfl
      have hr2 := run_append_grow (P := P) w t ty e i z ht hi hz ⟨g, 0, none⟩ n cap xs hown.1 holds a m c news hl hnews (by omega) (by omega) (growslice_fits (by omega) hbytes)
      rw [hr] at hr2
      cases hr2
      cases hk
      exact .inr (Nat.le_refl _)
theorem step_append_fresh {P : Program} {ops : Array Oper} {o : Oper} {a : Act} {w : World} {K : Act → World → Prop} {Q : Exit → Act → World → Prop} {E : Prop}
    (hg : o.guard = none) (s x : Operand) (t : TypeId) (ho : o.op = .call { callee := .builtin .append, args := #[s, x], argTypes := #[t, t] })
    (base : Nat) (e : TypeId) (i : TypeInfo) (z : Value) (size bytes : Nat) (ht : P.underlying t = some (.slice e)) (hi : P.info? e = some i) (hz : i.zero = some z)
    (hsize : i.size = size) (hby : i.bytes = bytes) (hzs : z.cells.size = size) (hsz : 0 < size)
    (v : Value) (n : Nat) (xs : List Value) (hs : a.eval s = v) (hown : w.ownsRow base e size v n xs)
    (ad : Addr) (m c : Nat) (news : List Value) (hx : a.eval x = .slice (some ad) m c) (hl : news.length = m * size) (hnews : ∀ j u, news[j]? = some u → w.cell? (ad.add j) = some u) (h1 : ∀ u ∈ news, u.oneCell' = true)
    (h63 : n + m ≤ maxLen) (hbytes : (n + m) * bytes ≤ 140737488355328) (hbase : base ≤ w.heap.size)
    (h : ∀ v' w', w'.ownsRow base e size v' (n + m) (xs ++ news) → w.grownBy w' v.ownBlock → (∀ k, v'.ownBlock = some k → v.ownBlock = some k ∨ w.heap.size ≤ k) → K (a.put o.dst v') w') :
    if Region.wanted o (yielded ops a.tmps) = true then Oper.wp P o a w K Q else E := by
  have hw : Region.wanted o (yielded ops a.tmps) = true := by simp [Region.wanted, hg]
  rw [if_pos hw]
  obtain ⟨v', w', hr, h2, h3, h4⟩ := run_append_fresh (P := P) w base t o.type e i z size bytes ht hi hz hsize hby hzs hsz v n xs hown ad m c news hl hnews h1 h63 hbytes hbase
  unfold Oper.wp execOp
  simp only [ho, resolve, invoke, builtin, Sem.run_bind, Sem.run_pure, Result.andThen_ok, List.map_toArray, List.map_cons, List.map_nil, hs, hx, hr]
  exact h v' w' h2 h3 h4

theorem infoM : (Tryz.prog.info? 126).map (fun i => (i.zero, i.size, i.bytes)) = some (some (.agg #[.int .i64 0, .int .i64 0, .int .i64 0, .int .i64 0, .int .i64 0, .int .i64 0]), 6, 48) := by kernel_rfl
theorem infoD : (Tryz.prog.info? 112).map (fun i => (i.zero, i.size, i.bytes)) = some (some (.agg #[.int .i64 0, .int .i64 0, .int .i64 0, .int .i64 0, .int .i64 0, .int .i64 0]), 6, 48) := by kernel_rfl
/-- the one mount that is appended lies in a new block -/
theorem one_mount (w : World) (m : Mt) (t : TypeId) : ∀ j u, m.cs[j]? = some u → (w.alloc (.cells #[.int .i64 m.root, .int .i64 m.cov, .int .i64 m.q.b, .int .i64 m.q.n, .int .i64 m.q.mb, .int .i64 m.q.mn] t)).cell? ((⟨w.heap.size, 0, none⟩ : Addr).add j) = some u := by
  intro j u h
  rw [T.add_at, Nat.zero_add, World.cell?_alloc_new]
  simpa [Mt.cs] using h
section
variable {B X A M : Nat} {mv mv' : Value} {st : St} {w w' : World}
/-- one more mount -/
theorem Wd.snoc (h : Wd B X A M mv st w) {m : Mt} (hR : w'.ownsRow B 126 6 mv' (st.d.length + 1) (flat st.d ++ m.cs)) (hg : w.grownBy w' mv.ownBlock) :
    Wd B X A M mv' ⟨st.last, st.n, st.d ++ [m]⟩ (w'.setCell ⟨X, 1, none⟩ mv') ∧ Turn (wS X A M mv) w (w'.setCell ⟨X, 1, none⟩ mv') := by
  obtain ⟨l, h1, h2⟩ := h.tab
  have hn : ∀ k, (k = X ∨ k = A ∨ k = M) → w'.heap[k]? = w.heap[k]? := fun k hk => by
    refine hg.block k (h.lt (hk.imp id (Or.imp id .inl))) fun e => ?_
    obtain ⟨_, cur, hc⟩ := h.rows.block e.symm
    rcases hk with rfl | rfl | rfl
    · exact ne_type h.head hc (by decide) rfl
    · exact ne_type h2.head hc (by decide) rfl
    · obtain ⟨es, clock, hm, _⟩ := h2.map
      exact ne_map hc hm rfl
  have hE : T.EntKept w w' := fun g cur hg' => (hg.block g (Array.getElem?_eq_some_iff.1 hg').1 fun e => by
    obtain ⟨_, cur', hc⟩ := h.rows.block e.symm
    exact ne_type hg' hc (by decide) rfl).trans hg'
  have hX : w'.heap[X]? = some (.cells #[.pointer (some ⟨A, 0, none⟩), mv] 60 (0, 0)) := (hn X (.inl rfl)).trans h.head
  have hA : A ≠ X := (ne_type h.head h2.head (by decide)).symm
  have hM : M ≠ X := by
    obtain ⟨es, clock, hm, _⟩ := h2.map
    exact (ne_map h.head hm).symm
  have hR' := MRow.snoc hR
  refine ⟨⟨h.bx, ?_, hR'.same fun g hg' => ?_, l, h1, ?_⟩, ?_⟩
  · simp [World.setCell, Array.getElem?_modify, hX]
  · obtain ⟨_, cur, hc⟩ := hR'.block hg'
    exact RowKit.Below.heap_setCell _ _ _ _ (ne_type hc hX (by decide))
  · refine h2.stays ((RowKit.Below.heap_setCell _ _ _ _ hA).trans (hn A (.inr (.inl rfl)))) ((RowKit.Below.heap_setCell _ _ _ _ hM).trans (hn M (.inr (.inr rfl)))) (hE.trans (T.entKept_set hX (by decide) _ _))
  · refine ⟨hg.os, hg.tape, hg.output, by rw [World.size_setCell]; exact hg.size, fun k hk hn' => ?_⟩
    rw [RowKit.Below.heap_setCell _ _ _ _ (fun e => hn' (.inl e))]
    exact hg.block k hk fun e => hn' (wS_row e.symm)
end
end Go.Proofs.YtenopnfclbegbaaGreat.G
/-
  begin: one more mount.
-/
namespace Go.Proofs.YtenopnfclbegbaaGreat.G
open Go.RowKit Go.Shelf
attribute [local go_sem] Oper.semAt_some

theorem limits_eq (b c : Int) : limits b c = (U.btw 1 b 1073741824 && U.btw 1 c 65536) := rfl
theorem fresh_lim {b c : Int} (h : limits b c = true) : U.fresh b c = (⟨0, 0, b, c⟩, 0) := by
  rw [limits_eq, Bool.and_eq_true] at h
  exact U.fresh_yes h.1 h.2
theorem fresh_not {b c : Int} (h : limits b c = false) : U.fresh b c = (⟨0, 0, 0, 0⟩, 3) := by
  rw [limits_eq, Bool.and_eq_false_iff] at h
  exact U.fresh_no h
theorem took_root {b c : Int} (h : limits b c = true) : U.took ⟨0, 0, b, c⟩ 1 1 = (⟨1, 1, b, c⟩, 0) := by
  rw [limits_eq, Bool.and_eq_true, U.btw_iff, U.btw_iff] at h
  obtain ⟨⟨h1, h2⟩, h3, h4⟩ := h
  have hf : U.fine ⟨0, 0, b, c⟩ = true := by rw [U.fine_iff]; exact ⟨Int.le_refl 0, Int.le_refl 0, by show (0 : Int) ≤ b; omega, by show (0 : Int) ≤ c; omega, h2, h4⟩
  unfold U.took
  rw [if_pos ⟨hf, by decide, by decide⟩]
  dsimp only
  rw [if_neg (by omega), if_neg (by omega), if_neg (by omega)]
  rfl
/-- the root as it is made -/
def made (dev : Int) : T.Nd := ⟨0, dev, 1, 493, 0, 0, 0, 0, 1, 0, ⟨#[]⟩, []⟩
theorem mt_snoc (d : List Mt) (m : Mt) : mt (d ++ [m]) ((d.length : Int) + 1) = some m := mt_at (by simp)
theorem set_last (d : List Mt) (m m' : Mt) : (d ++ [m]).set d.length m' = d ++ [m'] := by
  rw [List.set_append_right _ _ (Nat.le_refl _)]; simp
theorem make_root (st : St) (k b c : Int) (h : limits b c = true) :
    make ⟨st.last, st.n, st.d ++ [⟨0, k, ⟨0, 0, b, c⟩⟩]⟩ (made (st.d.length + 1)) = (⟨st.last + 1, st.n ++ [(made (st.d.length + 1)).as (st.last + 1)], st.d ++ [⟨0, k, ⟨1, 1, b, c⟩⟩]⟩, st.last + 1, 0) := by
  have hm := mt_snoc st.d ⟨0, k, ⟨0, 0, b, c⟩⟩
  have hb : blk (made (st.d.length + 1)) = 1 := rfl
  have h1 : terr (st.d ++ [⟨0, k, ⟨0, 0, b, c⟩⟩]) ((made (st.d.length + 1)).dev) (blk (made (st.d.length + 1))) 1 = 0 := by
    show terr _ ((st.d.length : Int) + 1) _ 1 = 0
    rw [terr_some hm, hb, took_root h]
  have h2 : taken (st.d ++ [⟨0, k, ⟨0, 0, b, c⟩⟩]) ((made (st.d.length + 1)).dev) (blk (made (st.d.length + 1))) 1 = st.d ++ [⟨0, k, ⟨1, 1, b, c⟩⟩] := by
    show taken _ ((st.d.length : Int) + 1) _ 1 = _
    rw [taken_some hm, hb, took_root h, settle_some hm, show ((st.d.length : Int) + 1 - 1).toNat = st.d.length by omega]
    exact set_last _ _ _
  unfold make
  rw [if_pos h1, h2]
theorem get_snoc {n : List T.Nd} {x : T.Nd} (h : ∀ p ∈ n, p.no ≠ x.no) : get (n ++ [x]) x.no = some x := by
  unfold get
  rw [List.find?_append, List.find?_eq_none.2 (fun p hp => by simpa using h p hp)]
  simp
theorem setN_snoc {n : List T.Nd} {x y : T.Nd} (h : ∀ p ∈ n, p.no ≠ y.no) (e : x.no = y.no) : setN (n ++ [x]) y = n ++ [y] := by
  unfold setN
  rw [List.map_append]
  congr 1
  · conv => rhs; rw [← List.map_id n]
    refine List.map_congr_left fun p hp => ?_
    rw [if_neg (h p hp)]; rfl
  · simp [e]
theorem box_set9 {b : Nat} {n : T.Nd} {s : Value} {w : World} (h : T.BoxN b n s w) (x : Int) : T.BoxN b { n with up := x } s (w.setCell ⟨b, 9, none⟩ (.int .i64 x)) := by
  unfold T.BoxN at *
  simp [World.setCell, Array.getElem?_modify, h]
theorem and13 {a0 a1 a2 a3 a4 a5 a6 a7 a8 a9 a10 a11 y z : Prop} (h : a0 ∧ a1 ∧ a2 ∧ a3 ∧ a4 ∧ a5 ∧ a6 ∧ a7 ∧ a8 ∧ a9 ∧ a10 ∧ a11) (hy : y) (hz : z) : a0 ∧ a1 ∧ a2 ∧ a3 ∧ a4 ∧ a5 ∧ a6 ∧ a7 ∧ a8 ∧ a9 ∧ a10 ∧ a11 ∧ y ∧ z := and12 h ⟨hy, hz⟩
/-- two cells that are read: a world's table, a mount's root -/
def Pair (X A g o : Nat) (r : Int) (w : World) : Prop := w.cell? ⟨X, 0, none⟩ = some (.pointer (some ⟨A, 0, none⟩)) ∧ w.cell? ⟨g, o, none⟩ = some (.int .i64 r)
section
variable {X A g o : Nat} {r : Int} {w w' : World}
theorem Pair.all (c : Pair X A g o r w) : w.cell? ⟨X, 0, none⟩ = some (.pointer (some ⟨A, 0, none⟩)) ∧ w.cell? ⟨g, o, none⟩ = some (.int .i64 r) := c
theorem Pair.later {n : Nat} (c : Pair X A g o r w) (hb : Below n w w') (l0 : X < n) (l1 : g < n) : Pair X A g o r w' := ⟨(hb.cell (p := ⟨X, 0, none⟩) l0).trans c.1, (hb.cell (p := ⟨g, o, none⟩) l1).trans c.2⟩
theorem Pair.next (c : Pair X A g o r w) (hb : Below w.heap.size w w') : Pair X A g o r w' := c.later hb (World.block_lt_of_cell? _ _ c.1) (World.block_lt_of_cell? _ _ c.2)
theorem Pair.alloc (c : Pair X A g o r w) (ob : Obj) : Pair X A g o r (w.alloc ob) := c.next ((Below.refl _ w).alloc (Nat.le_refl _) ob)
theorem Pair.drew (c : Pair X A g o r w) : Pair X A g o r w.drew := c.next ((Below.refl _ w).drew)
end
theorem below_raw {m b : Nat} (hb : m ≤ b) (w : World) (v0 v1 v2 v3 v4 v5 v6 v7 v8 v9 v10 v11 : Value) : Below m w ((((((((((((w.setCell ⟨b, 0, none⟩ v0).setCell ⟨b, 1, none⟩ v1).setCell ⟨b, 2, none⟩ v2).setCell ⟨b, 3, none⟩ v3).setCell ⟨b, 4, none⟩ v4).setCell ⟨b, 5, none⟩ v5).setCell ⟨b, 6, none⟩ v6).setCell ⟨b, 7, none⟩ v7).setCell ⟨b, 8, none⟩ v8).setCell ⟨b, 9, none⟩ v9).setCell ⟨b, 10, none⟩ v10).setCell ⟨b, 11, none⟩ v11) := by
  refine Below.setCell ?_ hb _
  refine Below.setCell ?_ hb _
  refine Below.setCell ?_ hb _
  refine Below.setCell ?_ hb _
  refine Below.setCell ?_ hb _
  refine Below.setCell ?_ hb _
  refine Below.setCell ?_ hb _
  refine Below.setCell ?_ hb _
  refine Below.setCell ?_ hb _
  refine Below.setCell ?_ hb _
  refine Below.setCell ?_ hb _
  exact Below.setCell (Below.refl _ _) hb _
/-- an empty box of a node, ahead of a call -/
theorem node_box {w w2 : World} (hb : Below ((w.alloc (.cells #[.int .i64 0, .int .i64 0, .int .i64 0, .int .i64 0, .int .i64 0, .int .i64 0, .int .i64 0, .int .i64 0, .int .i64 0, .int .i64 0, .string ⟨#[]⟩, .slice none 0 0] 48)).drew).heap.size ((w.alloc (.cells #[.int .i64 0, .int .i64 0, .int .i64 0, .int .i64 0, .int .i64 0, .int .i64 0, .int .i64 0, .int .i64 0, .int .i64 0, .int .i64 0, .string ⟨#[]⟩, .slice none 0 0] 48)).drew) w2) :
    T.BoxN w.heap.size T.Nd.zero (.slice none 0 0) w2 :=
  ((T.BoxN.new T.Nd.zero (.slice none 0 0) w).below ((Below.refl _ _).drew)).below hb
theorem row_form {w : World} {B : Nat} {e : TypeId} {size : Nat} {v : Value} {n : Nat} {xs : List Value} (h : w.ownsRow B e size v n xs) : ∃ ov cv, v = .slice ov n cv := by
  rcases h.2 with ⟨rfl, rfl⟩ | ⟨g, cap, cur, rfl, _⟩ <;> exact ⟨_, _, rfl⟩
section
variable {B X A M : Nat} {mv mv' : Value} {st : St} {w w' : World}
theorem Wd.given (h : Wd B X A M mv st w) : 0 ≤ st.last ∧ ∀ p ∈ st.n, 1 ≤ p.no ∧ p.no ≤ st.last := by
  obtain ⟨l, h1, h2⟩ := h.tab
  refine ⟨h2.lo, fun p hp => ?_⟩
  rw [← h1] at hp
  obtain ⟨q, hq, rfl⟩ := List.mem_map.1 hp
  exact h2.given q hq
/-- a mount's root is written -/
theorem Wd.rooted (h : Wd B X A M mv st w) {g cap i : Nat} {m : Mt} (hg : mv = .slice (some ⟨g, 0, none⟩) st.d.length cap) (hi : st.d[i]? = some m) (r : Int) :
    Wd B X A M mv ⟨st.last, st.n, st.d.set i { m with root := r }⟩ (w.setCell ⟨g, i * 6, none⟩ (.int .i64 r)) ∧ Turn (fun b => mv.ownBlock = some b) w (w.setCell ⟨g, i * 6, none⟩ (.int .i64 r)) := by
  obtain ⟨hR, hgr⟩ := MRow.putr (hg ▸ h.rows : MRow B 126 (.slice (some ⟨g, 0, none⟩) st.d.length cap) st.d w) hi r
  have ht : Turn (fun b => mv.ownBlock = some b) w (w.setCell ⟨g, i * 6, none⟩ (.int .i64 r)) := Turn.of_grown hgr (by rw [hg]; rfl)
  exact ⟨h.mounts (by subst hg; exact hR) ht, ht⟩
theorem Wd.lastly {last : Int} {n : List T.Nd} {d : List Mt} {m : Mt} (h : Wd B X A M mv ⟨last, n, d ++ [m]⟩ w) : ∃ g cap, mv = .slice (some ⟨g, 0, none⟩) (d.length + 1) cap ∧ w.cell? ⟨g, d.length * 6, none⟩ = some (.int .i64 m.root) ∧ w.frozen? ⟨g, d.length * 6, none⟩ = false := by
  obtain ⟨g, cap, he, hat⟩ := h.rows.at (k := d.length) (m := m) (by simp)
  refine ⟨g, cap, by rw [he, List.length_append]; rfl, hat.1, ?_⟩
  exact MRow.frozen (he ▸ h.rows) _
theorem Wd.lastRoot {last : Int} {n : List T.Nd} {d : List Mt} {m : Mt} (h : Wd B X A M mv ⟨last, n, d ++ [m]⟩ w) {g cap : Nat} (he : mv = .slice (some ⟨g, 0, none⟩) (d.length + 1) cap) (r : Int) :
    Wd B X A M mv ⟨last, n, d ++ [{ m with root := r }]⟩ (w.setCell ⟨g, d.length * 6, none⟩ (.int .i64 r)) ∧ Turn (fun b => mv.ownBlock = some b) w (w.setCell ⟨g, d.length * 6, none⟩ (.int .i64 r)) := by
  have := h.rooted (g := g) (cap := cap) (i := d.length) (m := m) (by rw [he, List.length_append]; rfl) (by simp) r
  dsimp only at this
  rw [set_last] at this
  exact this
theorem Wd.devsLast {last : Int} {n : List T.Nd} {d : List Mt} {m : Mt} (h : Wd B X A M mv ⟨last, n, d ++ [m]⟩ w) : Calls Tryz.prog 59 #[.pointer (some ⟨X, 0, none⟩)] w fun e w' => e = .returned (.int .i64 ((d.length : Int) + 1)) ∧ w = w' := by
  have := Devs_any h
  rw [List.length_append] at this
  exact this
theorem Wd.partLast {last : Int} {n : List T.Nd} {d : List Mt} {m : Mt} (h : Wd B X A M mv ⟨last, n, d ++ [m]⟩ w) {g cap : Nat} (he : mv = .slice (some ⟨g, 0, none⟩) (d.length + 1) cap) : Calls Tryz.prog 78 #[.pointer (some ⟨X, 0, none⟩), .int .i64 ((d.length : Int) + 1)] w fun e w' => e = .returned (.pointer (some ⟨g, d.length * 6, none⟩)) ∧ w = w' :=
  part_some h (i := d.length) (m := m) (by simp) (by rw [he, List.length_append]; rfl)
theorem Wd.makeRoot {k b c : Int} (h : Wd B X A M mv ⟨st.last, st.n, st.d ++ [⟨0, k, ⟨0, 0, b, c⟩⟩]⟩ w) (hlim : limits b c = true) (hlen : st.n.length < 900000) (hlast : st.last < 900000) :
    Calls Tryz.prog 48 #[.pointer (some ⟨X, 0, none⟩), (made (st.d.length + 1)).v (.slice none 0 0)] w fun e w' => e = .returned (.tuple #[.int .i64 (st.last + 1), .int .i64 0]) ∧
      Wd B X A M mv ⟨st.last + 1, st.n ++ [(made (st.d.length + 1)).as (st.last + 1)], st.d ++ [⟨0, k, ⟨1, 1, b, c⟩⟩]⟩ w' ∧ Turn (wS X A M mv) w w' := by
  have := Make_any h (made (st.d.length + 1)) (.slice none 0 0) (fun W => E.sees_none none 0 (Nat.zero_le _) W) (by unfold T.Fits; show 0 * 24 ≤ _; decide) (by show (0 : Nat) ≤ _; decide) (by show st.n.length < _; omega) (by show st.last < _; omega)
  rw [make_root st k b c hlim] at this
  exact this
theorem Wd.getRoot {last dv : Int} {n : List T.Nd} {d : List Mt} (h : Wd B X A M mv ⟨last + 1, n ++ [(made dv).as (last + 1)], d⟩ w) (hn : ∀ p ∈ n, p.no ≤ last) (h0 : 0 ≤ last) (h1 : last < 900000) :
    Calls Tryz.prog 16 #[.pointer (some ⟨A, 0, none⟩), .int .i64 (last + 1)] w fun e w' => ∃ oa c, e = .returned (.tuple #[((made dv).as (last + 1)).v (.slice oa 0 c), .bool true]) ∧ E.Own w.heap.size (.slice oa 0 c) [] w' ∧ Below w.heap.size w w' := by
  have hg : get (n ++ [(made dv).as (last + 1)]) (last + 1) = some ((made dv).as (last + 1)) := get_snoc (x := (made dv).as (last + 1)) fun p hp e => by have := hn p hp; have e' : p.no = last + 1 := e; omega
  have := Get_st h (last + 1) (T.wf_of (by omega) (by omega))
  dsimp only at this
  rw [hg, gets_some hg] at this
  refine this.mono ?_
  rintro e w' ⟨u, rfl, hO, hb⟩
  obtain ⟨oa, c, rfl⟩ := T.own_slice hO
  exact ⟨oa, c, rfl, hO, hb⟩
theorem Wd.setRoot {last dv : Int} {n : List T.Nd} {d : List Mt} {s : Value} (h : Wd B X A M mv ⟨last + 1, n ++ [(made dv).as (last + 1)], d⟩ w) (hS : E.Sees s [] w) (hn : ∀ p ∈ n, p.no ≤ last) (h0 : 0 ≤ last) (hlen : n.length < 900000) (h1 : last < 900000) :
    Calls Tryz.prog 38 #[.pointer (some ⟨A, 0, none⟩), .agg #[.int .i64 (last + 1), .int .i64 dv, .int .i64 1, .int .i64 493, .int .i64 0, .int .i64 0, .int .i64 0, .int .i64 0, .int .i64 1, .int .i64 (last + 1), .string ⟨#[]⟩, s]] w fun e w' =>
    e = .returned (.bool true) ∧ Wd B X A M mv ⟨last + 1, n ++ [rootNode (last + 1) dv], d⟩ w' ∧ Turn (fun k => k = A ∨ k = M) w w' := by
  have hne : ∀ p ∈ n, p.no ≠ last + 1 := fun p hp e => by have := hn p hp; omega
  have hg : get (n ++ [(made dv).as (last + 1)]) (last + 1) = some ((made dv).as (last + 1)) := get_snoc (x := (made dv).as (last + 1)) hne
  have := Set_st h (rootNode (last + 1) dv) s hS (by unfold T.Fits; show 0 * 24 ≤ _; decide) (T.wf_of (by show -9223372036854775808 ≤ last + 1; omega) (by show last + 1 ≤ _; omega)) (by show (n ++ [_]).length < _; rw [List.length_append]; show n.length + 1 < _; omega)
  have e : setN (n ++ [(made dv).as (last + 1)]) (rootNode (last + 1) dv) = n ++ [rootNode (last + 1) dv] := setN_snoc (y := rootNode (last + 1) dv) hne rfl
  dsimp only at this
  rw [e, show get (n ++ [(made dv).as (last + 1)]) (rootNode (last + 1) dv).no = some ((made dv).as (last + 1)) from hg] at this
  exact this
theorem Wd.grown (h : Wd B X A M mv st w) (hg : w.grownBy w' mv.ownBlock) : w'.cell? ⟨X, 1, none⟩ = some mv ∧ w'.frozen? ⟨X, 1, none⟩ = false := by
  have hX : w'.heap[X]? = some (.cells #[.pointer (some ⟨A, 0, none⟩), mv] 60 (0, 0)) := (hg.block X h.ltX fun e => by
    obtain ⟨_, cur, hc⟩ := h.rows.block e.symm
    exact ne_type h.head hc (by decide) rfl).trans h.head
  exact ⟨by rw [Lib.cell_of_heap hX]; rfl, Lib.frozen_of_heap hX 1⟩
set_option maxHeartbeats 4000000 in
theorem begin_no (k b c : Int) (X : Nat) (h : limits b c = false) (w : World) : Calls Tryz.prog 42 #[.pointer (some ⟨X, 0, none⟩), .int .i64 k, .int .i64 b, .int .i64 c] w fun e w' =>
    e = .returned (.tuple #[.int .i64 0, .int .i64 3]) ∧ Below w.heap.size w w' := by
  have c1 := U.New_any b c w
  rw [fresh_not h] at c1
  clear h
  dsimp only [U.Sp.v] at *
  go_enter Tryz.func42, Tryz.ntmps42
  go_wp2_with (go_at_call 77; refine c1.mono ?_; rintro e w1 ⟨rfl, hb⟩)
  go_ret2
  exact ⟨rfl, hb.alloc hb.size _⟩
set_option maxRecDepth 100000 in
set_option maxHeartbeats 8000000 in
theorem begin_yes (H0 : Wd B X A M mv st w) (k b c : Int) (hlim : limits b c = true) (hB : B ≤ w.heap.size) (hdl : st.d.length < 1000) (hlen : st.n.length < 900000) (hlast : st.last < 900000) :
    Calls Tryz.prog 42 #[.pointer (some ⟨X, 0, none⟩), .int .i64 k, .int .i64 b, .int .i64 c] w fun e w' =>
    e = .returned (.tuple #[.int .i64 (st.last + 1), .int .i64 0]) ∧ ∃ mv', Wd B X A M mv' (begin_ st k b c) w' ∧ Turn (wS X A M mv) w w' := by
  obtain ⟨i0, hi, hz0, hz1, hz2⟩ := E.info_parts infoM
  have mixed : Tryz.prog.follows Departure.mixedOrders = true := by kernel_rfl
  have c1 := U.New_any b c w
  rw [fresh_lim hlim] at c1
  have HL := Lib.hid hlim
  have HW := Lib.hid H0
  have hslc := H0.rows.slice
  obtain ⟨oa, cap, hmv⟩ := hslc
  clear H0 hlim
  dsimp only [U.Sp.v] at *
  go_enter Tryz.func42, Tryz.ntmps42
  go_upto_region 4 with (go_at_call 77; refine c1.mono ?_; rintro e w1 ⟨rfl, hb1⟩; have E1 := U.Box4.new w1 ⟨0, 0, b, c⟩ 110)
  have hb2 : Below w.heap.size w (w1.alloc (.cells #[.int .i64 0, .int .i64 0, .int .i64 b, .int .i64 c] 110)) := hb1.alloc hb1.size _
  generalize w1.alloc (.cells #[.int .i64 0, .int .i64 0, .int .i64 b, .int .i64 c] 110) = W2 at hb2 E1 ⊢
  generalize w1.heap.size = b1 at E1 ⊢
  clear hb1 c1
  have hW2 := HW.out.below hb2
  obtain ⟨x0, x1, x2, x3⟩ := hW2.facts
  have hXl := hW2.ltX
  have hbl := E1.lt
  obtain ⟨e0, e1, e2, e3⟩ := E1
  have hR := (hW2.drew).rows
  unfold MRow at hR
  have hB2 : B ≤ W2.heap.size := Nat.le_trans hB hb2.size
  have HR := Lib.hid hR
  have HW2 := Lib.hid hW2
  have HB2 := Lib.hid hb2
  subst hmv
  have hcs := cs_one ⟨0, k, ⟨0, 0, b, c⟩⟩
  clear hW2 hb2 hR
  go_cut [32, 33] (fun s32 s33 wx => ∃ g cv, s32 = .slice (some ⟨W2.heap.size, 0, none⟩) 1 1 ∧ s33 = .slice (some ⟨g, 0, none⟩) (st.d.length + 1) cv ∧ Wd B X A M (.slice (some ⟨g, 0, none⟩) (st.d.length + 1) cv) ⟨st.last, st.n, st.d ++ [⟨0, k, ⟨0, 0, b, c⟩⟩]⟩ wx ∧ Turn (wS X A M (.slice oa st.d.length cap)) w wx ∧
    ∀ i, wS X A M (.slice (some ⟨g, 0, none⟩) (st.d.length + 1) cv) i → wS X A M (.slice oa st.d.length cap) i ∨ w.heap.size ≤ i)
  case first =>
    go_region_law (refine step_append_fresh rfl (.tmp 28) (.tmp 32) 58 rfl B 126 i0 (.agg #[.int .i64 0, .int .i64 0, .int .i64 0, .int .i64 0, .int .i64 0, .int .i64 0]) 6 48 Tryz.underlying58 hi hz0 hz1 hz2 rfl (by decide) (.slice oa st.d.length cap) st.d.length (flat st.d) (by simp [Act.eval]) (HR.out.alloc _) ⟨W2.heap.size, 0, none⟩ 1 1 (Mt.cs ⟨0, k, ⟨0, 0, b, c⟩⟩) (by simp [Act.eval]) rfl (one_mount _ _ _) hcs (by unfold maxLen; omega) (by omega) (by simp; omega) ?_; intro v' w3 hown3 hgr3 hnew3; have hg4 := Wd.grown (HW2.out.drew.alloc _) hgr3; obtain ⟨hg5, hg6⟩ := hg4; obtain ⟨ov, cv, hv⟩ := row_form hown3; subst hv)
    all_goals
      have hnew : ∀ i, wS X A M (.slice ov (st.d.length + 1) cv) i → wS X A M (.slice oa st.d.length cap) i ∨ w.heap.size ≤ i := fun i hS => by
        rcases hS with h | h | h | h
        · exact .inl (.inl h)
        · exact .inl (.inr (.inl h))
        · exact .inl (.inr (.inr (.inl h)))
        · rcases hnew3 i h with h | h
          · exact .inl (wS_row h)
          · refine .inr (Nat.le_trans HB2.out.size ?_)
            simp at h
            omega
      obtain ⟨H3, t3⟩ := Wd.snoc (HW2.out.drew.alloc _) hown3 hgr3
      have ht3 := Turn.ahead (HB2.out.drew.alloc (by have := HB2.out.size; simpa using this) _) t3
      obtain ⟨g, cap', he, _⟩ := H3.lastly
      cases he
      go_wp2_with fail
      go_meet
      case rel => exact ⟨g, _, rfl, rfl, H3, ht3, hnew⟩
  case rest =>
    obtain ⟨g, cv, rfl, rfl, H3, ht3, hnew⟩ := hcut
    have HN := Lib.hid hnew
    have cD := H3.devsLast
    have cP := H3.partLast rfl
    have cM := H3.makeRoot HL.out hlen hlast
    dsimp only [made, T.Nd.v] at cM
    clear hnew x0 x1 x2 x3 e0 e1 e2 e3 hcs hi hz0 hz1 hz2 hB2 HB2 hXl hbl HW2 HR
    go_upto_region 7 with (first
      | (go_at_call 59; refine cD.mono ?_; rintro e w4 ⟨rfl, rfl⟩)
      | (go_at_call 78; refine cP.mono ?_; rintro e w4 ⟨rfl, rfl⟩)
      | (go_at_call 48; refine cM.mono ?_; rintro e w5 ⟨rfl, H5, t5⟩; obtain ⟨g5, cap5, he5, q5, f5⟩ := H5.lastly; cases he5))
    obtain ⟨H6, t6⟩ := H5.lastRoot rfl (st.last + 1)
    dsimp only at H6 t6
    have ht6 := (ht3.late t5 HN.out).late t6 fun i hi => HN.out i (wS_row hi)
    have hgv := H3.given
    dsimp only at hgv
    have hcell := H6.lastly
    obtain ⟨g6, cap6, he6, hc6, _⟩ := hcell
    cases he6
    dsimp only at hc6
    have hW6 : ∃ W6, w5.setCell ⟨g, st.d.length * 6, none⟩ (.int .i64 (st.last + 1)) = W6 := ⟨_, rfl⟩
    obtain ⟨W6, hW6⟩ := hW6
    rw [hW6] at H6 ht6 hc6 ⊢
    have P6 : Pair X A g (st.d.length * 6) (st.last + 1) W6 := ⟨H6.head1, hc6⟩
    have cg := fun W (hW : Wd B X A M (.slice (some ⟨g, 0, none⟩) (st.d.length + 1) cv) ⟨st.last + 1, st.n ++ [(made (st.d.length + 1)).as (st.last + 1)], st.d ++ [⟨st.last + 1, k, ⟨1, 1, b, c⟩⟩]⟩ W) => hW.getRoot (fun p hp => (hgv.2 p hp).2) hgv.1 hlast
    have kp := P6.drew
    have H6d := H6.drew
    have H6a := (H6.alloc (.cells #[.int .i64 0, .int .i64 0, .int .i64 0, .int .i64 0, .int .i64 0, .int .i64 0, .int .i64 0, .int .i64 0, .int .i64 0, .int .i64 0, .string ⟨#[]⟩, .slice none 0 0] 48)).drew
    have hXl := H6.ltX
    have hgl : g < W6.heap.size := World.block_lt_of_cell? _ _ hc6
    clear hW6 H5 t5 t6 ht3 H3 cD cP cM f5 q5
    dsimp only [made, T.Nd.as, T.Nd.v] at cg
    go_cut [13, 14] (fun s13 s14 wx => ∃ Y oa c, s13 = .pointer (some ⟨Y, 0, none⟩) ∧ s14 = .bool true ∧ W6.heap.size ≤ Y ∧ T.BoxN Y ((made (st.d.length + 1)).as (st.last + 1)) (.slice oa 0 c) wx ∧ E.Own W6.heap.size (.slice oa 0 c) [] wx ∧ Below W6.heap.size W6 wx)
    case first =>
      go_region_held3 (fun w' => w'.cell? ⟨X, 0, none⟩ = some (.pointer (some ⟨A, 0, none⟩)) ∧ w'.cell? ⟨g, st.d.length * 6, none⟩ = some (.int .i64 (st.last + 1)))
        (with_reducible first | exact Pair.all kq | exact Pair.all (Pair.alloc kq _) | exact Pair.all kp | exact Pair.all (Pair.drew (Pair.alloc P6 _)) | exact Pair.all (Pair.later kq (below_raw (Nat.le_refl _) _ _ _ _ _ _ _ _ _ _ _ _ _) hXl hgl))
        (first
          | (go_at_call 16; refine (cg _ H6d).mono ?_; rintro e w7 ⟨oa7, c7, rfl, hO7, hb7⟩; have kq : Pair X A g (st.d.length * 6) (st.last + 1) w7 := (by with_reducible exact Pair.next kp hb7))
          | (go_at_call 16; refine (cg _ H6a).mono ?_; rintro e w7 ⟨oa7, c7, rfl, hO7, hb7⟩; have kq : Pair X A g (st.d.length * 6) (st.last + 1) w7 := (by with_reducible exact Pair.next (Pair.drew (Pair.alloc P6 _)) hb7); have nb := node_box hb7; obtain ⟨a0, a1, a2, a3, a4, a5, a6, a7, a8, a9, a10, a11⟩ := nb.facts; obtain ⟨f0, f1, f2, f3, f4, f5, f6, f7, f8, f9, f10, f11⟩ := nb.open))
      · go_wp2_with fail
        go_meet
        case rel =>
          have hB7 : Below W6.heap.size W6 w7 := below_two ((Below.refl W6.heap.size W6).drew) hb7
          have hal : Below w7.heap.size w7 (w7.alloc (.cells #[.int .i64 (st.last + 1), .int .i64 ((st.d.length : Int) + 1), .int .i64 1, .int .i64 493, .int .i64 0, .int .i64 0, .int .i64 0, .int .i64 0, .int .i64 1, .int .i64 0, .string ⟨#[]⟩, .slice oa7 0 c7] 48)) := (Below.refl _ _).alloc (Nat.le_refl _) _
          exact ⟨w7.heap.size, oa7, c7, rfl, rfl, hB7.size, T.BoxN.new ((made (st.d.length + 1)).as (st.last + 1)) (.slice oa7 0 c7) w7, (T.own_kept hO7 (T.EntKept.below hal) : E.Own W6.heap.size _ [] _), below_two hB7 hal⟩
      · go_wp2_with fail
        go_meet
        case rel =>
          have hB7 : Below W6.heap.size W6 w7 := ((Below.refl W6.heap.size W6).alloc (Nat.le_refl _) _).drew.trans (hb7.mono (by simp))
          have D := nb.fill ((made (st.d.length + 1)).as (st.last + 1)) (.slice oa7 0 c7)
          have hk := T.EntKept.fill nb ((made (st.d.length + 1)).as (st.last + 1)) (.slice oa7 0 c7)
          have hO : E.Own W6.heap.size (.slice oa7 0 c7) [] w7 := hO7.mono (by simp)
          exact ⟨W6.heap.size, oa7, c7, rfl, rfl, Nat.le_refl _, D, T.own_kept hO hk, hB7.trans (T.below_fill (Nat.le_refl _) w7 ((made (st.d.length + 1)).as (st.last + 1)) (.slice oa7 0 c7))⟩
    case rest =>
      obtain ⟨Y, oa8, c8, rfl, rfl, hY, D8, O8, b8⟩ := hcut
      obtain ⟨p0, p1⟩ := P6.next b8
      obtain ⟨f0, f1, f2, f3, f4, f5, f6, f7, f8, f9, f10, f11⟩ := D8.open
      obtain ⟨a0, a1, a2, a3, a4, a5, a6, a7, a8, a9, a10, a11⟩ := D8.facts
      dsimp only [made, T.Nd.as] at a9
      go_upto_region 9 with fail
      have b9 : Below W6.heap.size W6 (wc.setCell ⟨Y, 9, none⟩ (.int .i64 (st.last + 1))) := b8.setCell (p := ⟨Y, 9, none⟩) hY _
      have D9 := box_set9 D8 (st.last + 1)
      have O9 := T.own_kept O8 (box_entKept D8 9 (.int .i64 (st.last + 1)))
      clear p0 p1 f0 f1 f2 f3 f4 f5 f6 f7 f8 f9 f10 f11 a0 a1 a2 a3 a4 a5 a6 a7 a8 a9 a10 a11 D8 O8 b8
      generalize wc.setCell ⟨Y, 9, none⟩ (.int .i64 (st.last + 1)) = W9 at b9 D9 O9 ⊢
      have hdr : Below W9.heap.size W9 W9.drew := (Below.refl _ _).drew
      have b10 := below_two b9 hdr
      have H10 := H6.below b10
      have D10 := D9.below hdr
      obtain ⟨px, _⟩ := P6.next b10
      have ht10 := ht6.next b10
      have cs := H10.setRoot (O9.below hdr).sees (fun p hp => (hgv.2 p hp).2) hgv.1 hlen hlast
      have hXl := H10.ltX
      clear O9 b9 b10 D9 hdr H6 P6 ht6 cg kp H6d H6a hgl
      dsimp only [made, T.Nd.as] at D10
      go_region_held3 (fun w' => w'.cell? ⟨Y, 0, none⟩ = some (.int .i64 (st.last + 1)) ∧ w'.cell? ⟨Y, 1, none⟩ = some (.int .i64 ((st.d.length : Int) + 1)) ∧ w'.cell? ⟨Y, 2, none⟩ = some (.int .i64 1) ∧ w'.cell? ⟨Y, 3, none⟩ = some (.int .i64 493) ∧
          w'.cell? ⟨Y, 4, none⟩ = some (.int .i64 0) ∧ w'.cell? ⟨Y, 5, none⟩ = some (.int .i64 0) ∧ w'.cell? ⟨Y, 6, none⟩ = some (.int .i64 0) ∧ w'.cell? ⟨Y, 7, none⟩ = some (.int .i64 0) ∧
          w'.cell? ⟨Y, 8, none⟩ = some (.int .i64 1) ∧ w'.cell? ⟨Y, 9, none⟩ = some (.int .i64 (st.last + 1)) ∧ w'.cell? ⟨Y, 10, none⟩ = some (.string ⟨#[]⟩) ∧ w'.cell? ⟨Y, 11, none⟩ = some (.slice oa8 0 c8) ∧ w'.cell? ⟨X, 0, none⟩ = some (.pointer (some ⟨A, 0, none⟩)))
        (with_reducible first | exact and12 D11.facts H11.head1 | exact and12 D10.facts px)
        (first | (go_at_call 38; refine cs.mono ?_; rintro e w11 ⟨rfl, H11, t11⟩; have D11 := box_turn D10 H10 t11.tab (fun _ e => e)))
      obtain ⟨g6, cap6, he6, hc6, _⟩ := H11.lastly
      cases he6
      dsimp only at hc6
      go_wp2
      go_ret2
      exact ⟨rfl, _, H11, ht10.late t11.tab HN.out⟩
end
end Go.Proofs.YtenopnfclbegbaaGreat.G
/-
  Mount, New.
-/
namespace Go.Proofs.YtenopnfclbegbaaGreat.G
open Go.RowKit Go.Shelf
attribute [local go_sem] Oper.semAt_some

theorem mount_none {st : St} {k b c : Int} (h : (get st.n k).isSome = false) : mount st k b c = (st, 0, 5) := by unfold mount; rw [if_neg (by rw [h]; simp)]
theorem mount_kind {st : St} {k b c : Int} (h : (get st.n k).isSome = true) (h1 : (gets st.n k).kind ≠ 1) : mount st k b c = (st, 0, 9) := by unfold mount; rw [if_pos h, if_neg h1]
theorem mount_busy {st : St} {k b c : Int} (h : (get st.n k).isSome = true) (h1 : (gets st.n k).kind = 1) (h2 : over st.d k ≠ k ∨ isRoot st.d k = true) : mount st k b c = (st, 0, 16) := by unfold mount; rw [if_pos h, if_pos h1, if_pos h2]
theorem mount_full {st : St} {k b c : Int} (h : (get st.n k).isSome = true) (h1 : (gets st.n k).kind = 1) (h2 : over st.d k = k) (h2' : isRoot st.d k = false) (h3 : 8 ≤ st.d.length) : mount st k b c = (st, 0, 3) := by
  unfold mount; rw [if_pos h, if_pos h1, if_neg (by rw [h2, h2']; simp), if_pos h3]
theorem mount_go {st : St} {k b c : Int} (h : (get st.n k).isSome = true) (h1 : (gets st.n k).kind = 1) (h2 : over st.d k = k) (h2' : isRoot st.d k = false) (h3 : ¬ 8 ≤ st.d.length) :
    mount st k b c = if limits b c = true then (begin_ st k b c, st.last + 1, 0) else (st, 0, 3) := by
  unfold mount; rw [if_pos h, if_pos h1, if_neg (by rw [h2, h2']; simp), if_neg h3]
section
variable {B X A M : Nat} {mv mv' : Value} {st : St} {w w' : World}
/-- begin, whatever the limits -/
theorem begin_any (h : Wd B X A M mv st w) (k b c : Int) (hB : B ≤ w.heap.size) (hdl : st.d.length < 1000) (hlen : st.n.length < 900000) (hlast : st.last < 900000) :
    Calls Tryz.prog 42 #[.pointer (some ⟨X, 0, none⟩), .int .i64 k, .int .i64 b, .int .i64 c] w fun e w' =>
    ∃ x y st', e = .returned (.tuple #[.int .i64 x, .int .i64 y]) ∧ (if limits b c = true then (begin_ st k b c, st.last + 1, (0 : Int)) else (st, 0, 3)) = (st', x, y) ∧ ∃ mv', Wd B X A M mv' st' w' ∧ Turn (wS X A M mv) w w' := by
  cases hl : limits b c with
  | true =>
    refine (begin_yes h k b c hl hB hdl hlen hlast).mono ?_
    rintro e w' ⟨rfl, mv', h1, h2⟩
    exact ⟨_, _, _, rfl, rfl, mv', h1, h2⟩
  | false =>
    refine (begin_no k b c X hl w).mono ?_
    rintro e w' ⟨rfl, hb⟩
    exact ⟨_, _, _, rfl, rfl, mv, h.below hb, Turn.of_below hb⟩
set_option maxRecDepth 100000 in
set_option maxHeartbeats 8000000 in
theorem Mount_any (h : Wd B X A M mv st w) (k b c : Int) (hk : T.Wf k) (hB : B ≤ w.heap.size) (hdl : st.d.length < 1000) (hlen : st.n.length < 900000) (hlast : st.last < 900000) :
    Calls Tryz.prog 45 #[.pointer (some ⟨X, 0, none⟩), .int .i64 k, .int .i64 b, .int .i64 c] w fun e w' =>
    e = .returned (.tuple #[.int .i64 (mount st k b c).2.1, .int .i64 (mount st k b c).2.2]) ∧ (∃ mv', Wd B X A M mv' (mount st k b c).1 w') ∧ Turn (wS X A M mv) w w' := by
  obtain ⟨r, hr⟩ : ∃ r, mount st k b c = r := ⟨_, rfl⟩
  rw [hr]
  have HR := Lib.hid hr
  have c1 := node_any h k hk
  have H := Lib.hid h
  have co := fun W (hb : Below w.heap.size w W) => Over_any (h.below hb) k
  have cr := fun W (hb : Below w.heap.size w W) => isRoot_any (h.below hb) (by omega) k
  have cd := fun W (hb : Below w.heap.size w W) => Devs_any (h.below hb)
  have cg := fun W (hb : Below w.heap.size w W) => begin_any (h.below hb) k b c (Nat.le_trans hB hb.size) hdl hlen hlast
  have G1 := Lib.hid (@mount_none st k b c)
  have G2 := Lib.hid (@mount_kind st k b c)
  have G3 := Lib.hid (@mount_busy st k b c)
  have G4 := Lib.hid (@mount_full st k b c)
  have G5 := Lib.hid (@mount_go st k b c)
  clear h hr hB hlen hlast
  rw [HR.out] at G1 G2 G3 G4 G5
  generalize isRoot st.d k = rr at *
  generalize over st.d k = ov at *
  generalize gets st.n k = nd at *
  generalize (get st.n k).isSome = bb at *
  obtain ⟨no, dev, kind, mode, uid, gid, mt, ct', links, up, data, es⟩ := nd
  dsimp only [T.Nd.v] at *
  go_enter Tryz.func45, Tryz.ntmps45
  go_upto_region 2 with (go_at_call 80; refine c1.mono ?_; rintro e w3 ⟨u, rfl, hO, hb3⟩; obtain ⟨ou, cu, rfl⟩ := T.own_slice hO; have D3 := T.BoxN.new ⟨no, dev, kind, mode, uid, gid, mt, ct', links, up, data, es⟩ (.slice ou es.length cu) w3)
  have hb4 : Below w.heap.size w (w3.alloc (.cells #[.int .i64 no, .int .i64 dev, .int .i64 kind, .int .i64 mode, .int .i64 uid, .int .i64 gid, .int .i64 mt, .int .i64 ct', .int .i64 links, .int .i64 up, .string data, .slice ou es.length cu] 48)) := hb3.alloc hb3.size _
  generalize w3.alloc (.cells #[.int .i64 no, .int .i64 dev, .int .i64 kind, .int .i64 mode, .int .i64 uid, .int .i64 gid, .int .i64 mt, .int .i64 ct', .int .i64 links, .int .i64 up, .string data, .slice ou es.length cu] 48) = W4 at D3 hb4 ⊢
  generalize w3.heap.size = b3 at D3 ⊢
  clear hb3 hO c1
  have H4 := H.out.below hb4
  have ht4 : Turn (wS X A M mv) w W4 := Turn.of_below hb4
  obtain ⟨_, _, a2, _⟩ := D3.facts
  cases bb with
  | false =>
    obtain rfl := G1.out rfl
    go_wp2
    go_ret2
    exact ⟨rfl, ⟨mv, H4⟩, ht4⟩
  | true =>
    by_cases hk1 : kind = 1
    · subst hk1
      by_cases hov : ov = k
      · subst hov
        have co4 := co W4 hb4
        clear co
        cases rr with
        | true =>
          obtain rfl := G3.out rfl rfl (.inr rfl)
          go_wp2_with (first
            | (go_at_call 66; refine co4.mono ?_; rintro e w5 ⟨rfl, hb5⟩; have hb6 := below_two hb4 hb5; have cr5 := cr w5 hb6)
            | (go_at_call 81; refine cr5.mono ?_; rintro e w7 ⟨rfl, hb7⟩))
          go_ret2
          have hb8 := below_two hb6 hb7
          exact ⟨rfl, ⟨mv, H.out.below hb8⟩, Turn.of_below hb8⟩
        | false =>
          go_upto_region 8 with (first
            | (go_at_call 66; refine co4.mono ?_; rintro e w5 ⟨rfl, hb5⟩; have hb6 := below_two hb4 hb5; have cr5 := cr w5 hb6)
            | (go_at_call 81; refine cr5.mono ?_; rintro e w7 ⟨rfl, hb7⟩; have hb8 := below_two hb6 hb7; have cd8 := cd w7 hb8; have cg8 := cg w7 hb8))
          by_cases h8 : 8 ≤ st.d.length
          · obtain rfl := G4.out (by trivial) (by trivial) (by trivial) (by trivial) h8
            have h8' : (8 : Int) ≤ st.d.length := by omega
            go_wp2_with (go_at_call 59; refine cd8.mono ?_; rintro e w9 ⟨rfl, rfl⟩)
            go_ret2
            exact ⟨rfl, ⟨mv, H.out.below hb8⟩, Turn.of_below hb8⟩
          · have hG := G5.out (by trivial) (by trivial) (by trivial) (by trivial) h8
            have h8' : ¬ (8 : Int) ≤ st.d.length := by omega
            have HG := Lib.hid hG
            clear hG
            go_wp2_with (first
              | (go_at_call 59; refine cd8.mono ?_; rintro e w9 ⟨rfl, rfl⟩)
              | (go_at_call 42; refine cg8.mono ?_; rintro e w9 ⟨x, y, st', rfl, hst, hW9⟩))
            go_ret2
            obtain ⟨mv', H9, t9⟩ := hW9
            have e9 := HG.out.trans hst
            subst e9
            exact ⟨rfl, ⟨mv', H9⟩, Turn.ahead hb8 t9⟩
      · obtain rfl := G3.out rfl rfl (.inl hov)
        have hov' : (ov == k) = false := by simpa using hov
        have co4 := co W4 hb4
        go_wp2_with (go_at_call 66; refine co4.mono ?_; rintro e w5 ⟨rfl, hb5⟩)
        go_ret2
        exact ⟨rfl, ⟨mv, H4.below hb5⟩, ht4.next hb5⟩
    · obtain rfl := G2.out rfl hk1
      have hk1' : (kind == 1) = false := by simpa using hk1
      go_wp2
      go_ret2
      exact ⟨rfl, ⟨mv, H4⟩, ht4⟩
end
end Go.Proofs.YtenopnfclbegbaaGreat.G
/-
  New.
-/
namespace Go.Proofs.YtenopnfclbegbaaGreat.G
open Go.RowKit Go.Shelf
attribute [local go_sem] Oper.semAt_some

def bare : St := ⟨0, [], []⟩
theorem Wd.bare {B A M : Nat} {w : World} (h : T.Tab B A M 0 [] w) (hB : B ≤ w.heap.size) : Wd B w.heap.size A M (.slice none 0 0) bare (w.alloc (.cells #[.pointer (some ⟨A, 0, none⟩), .slice none 0 0] 60)) :=
  ⟨hB, heap_alloc_new w _, MRow.nil _ _ _, [], rfl, h.alloc _⟩
set_option maxHeartbeats 4000000 in
theorem New_yes (b c : Int) (h : limits b c = true) (w : World) : Calls Tryz.prog 21 #[.int .i64 b, .int .i64 c] w fun e w' =>
    (∃ X A M mv, e = .returned (.tuple #[.pointer (some ⟨X, 0, none⟩), .int .i64 0]) ∧ Wd w.heap.size X A M mv (begin_ bare 1 b c) w') ∧ Below w.heap.size w w' := by
  have c1 := T.New_any w
  have HL := Lib.hid h
  clear h
  go_enter Tryz.func21, Tryz.ntmps21
  go_upto_region 2 with (go_at_call 41; refine c1.mono ?_; rintro e w2 ⟨T, M, rfl, hT, hb2⟩)
  have H3 := Wd.bare hT hb2.size
  have hb3 : Below w.heap.size w (w2.alloc (.cells #[.pointer (some ⟨T, 0, none⟩), .slice none 0 0] 60)) := hb2.alloc hb2.size _
  generalize w2.alloc (.cells #[.pointer (some ⟨T, 0, none⟩), .slice none 0 0] 60) = W3 at H3 hb3 ⊢
  generalize w2.heap.size = X at H3 ⊢
  clear hT hb2 c1
  have cb := begin_yes H3 1 b c HL.out hb3.size (by show 0 < 1000; decide) (by show 0 < 900000; decide) (by show (0 : Int) < 900000; decide)
  have HB3 := Lib.hid hb3
  have HW3 := Lib.hid H3
  rw [show bare.last + 1 = 1 from rfl] at cb
  go_wp2_with (go_at_call 42; refine cb.mono ?_; rintro e w4 ⟨rfl, mv, H4, t4⟩)
  go_ret2
  exact ⟨⟨X, T, M, mv, rfl, H4⟩, HB3.out.trans (HW3.out.ofTurn t4 HB3.out.size)⟩
set_option maxHeartbeats 4000000 in
theorem New_no (b c : Int) (h : limits b c = false) (w : World) : Calls Tryz.prog 21 #[.int .i64 b, .int .i64 c] w fun e w' => e = .returned (.tuple #[.pointer none, .int .i64 3]) ∧ Below w.heap.size w w' := by
  have c1 := T.New_any w
  have cb := fun X W => begin_no 1 b c X h W
  clear h
  go_enter Tryz.func21, Tryz.ntmps21
  go_wp2_with (first
    | (go_at_call 41; refine c1.mono ?_; rintro e w2 ⟨T, M, rfl, hT, hb2⟩)
    | (go_at_call 42; refine (cb _ _).mono ?_; rintro e w4 ⟨rfl, hb4⟩))
  go_ret2
  exact ⟨rfl, below_two (hb2.alloc hb2.size _) hb4⟩
end Go.Proofs.YtenopnfclbegbaaGreat.G
