/-
  The reference's root: one more mount.
-/
import Derived.Test.YtmoimijclafgcaaFfill
namespace Go.Proofs.Ytmoimijclafgcaa.G
open Go.RowKit Go.Shelf
attribute [local go_sem] Oper.semAt_some

theorem wpList_append_fresh {P : Program} (w : World) {ops : Array Oper} {rest : List Oper} {o : Oper} {a : Act} {Q : Exit → Act → World → Prop} (hgd : o.guard = none) (s x : Operand) (t : TypeId)
    (ho : o.op = .call { callee := .builtin .append, args := #[s, x], argTypes := #[t, t] })
    (base : Nat) (e : TypeId) (i : TypeInfo) (z : Value) (size bytes : Nat) (ht : P.underlying t = some (.slice e)) (hi : P.info? e = some i) (hz : i.zero = some z)
    (hsize : i.size = size) (hby : i.bytes = bytes) (hzs : z.cells.size = size) (hsz : 0 < size)
    (v : Value) (n : Nat) (xs : List Value) (hs : a.eval s = v) (hown : w.ownsRow base e size v n xs)
    (ad : Addr) (m c : Nat) (news : List Value) (hx : a.eval x = .slice (some ad) m c) (hl : news.length = m * size) (hnews : ∀ j u, news[j]? = some u → w.cell? (ad.add j) = some u) (h1 : ∀ u ∈ news, u.oneCell' = true)
    (h63 : n + m ≤ maxLen) (hbytes : (n + m) * bytes ≤ 140737488355328) (hbase : base ≤ w.heap.size)
    (h : ∀ v' w', w'.ownsRow base e size v' (n + m) (xs ++ news) → w.grownBy w' v.ownBlock → (∀ k, v'.ownBlock = some k → v.ownBlock = some k ∨ w.heap.size ≤ k) → wpList P ops Q rest (a.put o.dst v') w') : wpList P ops Q (o :: rest) a w :=
  wpList_plain hgd fun K hK => by
    obtain ⟨v', w', hr, h2, h3, h4⟩ := run_append_fresh (P := P) w base t o.type e i z size bytes ht hi hz hsize hby hzs hsz v n xs hown ad m c news hl hnews h1 h63 hbytes hbase
    unfold Oper.wp execOp
    simp only [ho, resolve, invoke, builtin, Sem.run_bind, Sem.run_pure, Result.andThen_ok, List.map_toArray, List.map_cons, List.map_nil, hs, hx, hr]
    exact hK _ _ (h v' w' h2 h3 h4)
theorem raw_snoc {d : List Mt} (hd : d ≠ []) (m : Mt) : raw (d ++ [m]) = raw d ++ [m] := by
  cases d with
  | nil => exact absurd rfl hd
  | cons x r => rfl
section
variable {B F : Nat} {nv nv' dv dv' : Value} {st : St} {w w' : World}
/-- one more mount -/
theorem Fs.dsnoc (h : Fs B F nv dv st w) {m : Mt} {d' : List Mt} (hd : raw d' = raw st.d ++ [m]) (hR : w'.ownsRow B 56 6 dv' (st.d.length + 1) (flat (raw st.d) ++ m.cs)) (hg : w.grownBy w' dv.ownBlock) :
    Fs B F nv dv' ⟨st.last, st.n, d'⟩ (w'.setCell ⟨F, 1, none⟩ dv') ∧ Turn (fS F nv dv) w (w'.setCell ⟨F, 1, none⟩ dv') := by
  obtain ⟨l, h1, h2, h3⟩ := h.nodes
  have hF : w'.heap[F]? = some (.cells #[nv, dv, .int .i64 st.last, .int .i64 0, .int .i64 0, .slice none 0 0, .bool false] 47 (0, 0)) := (hg.block F h.ltF fun e => by
    obtain ⟨_, cur, hc⟩ := h.devs.block e.symm
    exact ne_type h.head hc (by decide) rfl).trans h.head
  have hE : T.EntKept w w' := fun g cur hg' => (hg.block g (Array.getElem?_eq_some_iff.1 hg').1 fun e => by
    obtain ⟨_, cur', hc⟩ := h.devs.block e.symm
    exact ne_type hg' hc (by decide) rfl).trans hg'
  have hE2 : T.EntKept w (w'.setCell ⟨F, 1, none⟩ dv') := hE.trans (T.entKept_set hF (by decide) _ _)
  have hn : ∀ (b : Nat) (x : Array Value) (t : TypeId) (mk : Nat × Nat), w'.heap[b]? = some (.cells x t mk) → t ≠ 47 → (w'.setCell ⟨F, 1, none⟩ dv').heap[b]? = w'.heap[b]? := fun b x t mk hb ht => RowKit.Below.heap_setCell _ _ _ _ (fun e => by
    subst e
    rw [hF] at hb
    cases hb
    exact ht rfl)
  have hR' : MRow B 56 dv' (raw st.d ++ [m]) w' := MRow.snoc (by rw [length_raw]; exact hR)
  refine ⟨⟨h.bf, ?_, ⟨l, h1, row_same h2 fun g hg' => ?_, fun p hp => T.own_kept (h3 p hp) hE2⟩, ?_⟩, ?_⟩
  · simp [World.setCell, Array.getElem?_modify, hF]
  · obtain ⟨_, cur, hc⟩ := row_block h2 hg'
    have hc' : w'.heap[g]? = w.heap[g]? := hg.block g (Array.getElem?_eq_some_iff.1 hc).1 fun e => by
      obtain ⟨_, cur', hc2⟩ := h.devs.block e.symm
      exact ne_type hc hc2 (by decide) rfl
    exact (hn _ _ _ _ (hc'.trans hc) (by decide)).trans hc'
  · show MRow B 56 dv' (raw d') _
    rw [hd]
    exact hR'.same fun g hg' => by
      obtain ⟨_, cur, hc⟩ := hR'.block hg'
      exact hn _ _ _ _ hc (by decide)
  · refine ⟨hg.os, hg.tape, hg.output, by rw [World.size_setCell]; exact hg.size, fun k hk hn' => ?_⟩
    rw [RowKit.Below.heap_setCell _ _ _ _ (fun e => hn' (.inl e))]
    exact hg.block k hk fun e => hn' (fS_dev e.symm)
theorem Fs.dgrown (h : Fs B F nv dv st w) (hg : w.grownBy w' dv.ownBlock) : w'.cell? ⟨F, 1, none⟩ = some dv ∧ w'.frozen? ⟨F, 1, none⟩ = false := by
  have hX : w'.heap[F]? = some (.cells #[nv, dv, .int .i64 st.last, .int .i64 0, .int .i64 0, .slice none 0 0, .bool false] 47 (0, 0)) := (hg.block F h.ltF fun e => by
    obtain ⟨_, cur, hc⟩ := h.devs.block e.symm
    exact ne_type h.head hc (by decide) rfl).trans h.head
  exact ⟨by rw [Lib.cell_of_heap hX]; rfl, Lib.frozen_of_heap hX 1⟩
/-- what root adds -/
theorem Fs.addRoot (h : Fs B F nv dv st w) (dd : Int) (hB : B ≤ w.heap.size) (hlen : st.n.length < 800000) (h0 : 0 ≤ st.last) (hlast : st.last < 800000) :
    Calls Try.prog 71 #[.pointer (some ⟨F, 0, none⟩), (made dd).v (.slice none 0 0)] w fun e w' =>
    e = .returned (.int .i64 (st.last + 1)) ∧ ∃ nv', Fs B F nv' dv ⟨st.last + 1, st.n ++ [(made dd).as (st.last + 1)], st.d⟩ w' ∧ Turn (fS F nv dv) w w' ∧ ∀ k, fS F nv' dv k → fS F nv dv k ∨ w.heap.size ≤ k :=
  refAdd_any h (made dd) (.slice none 0 0) (E.Own.nil _ _) hB (by omega) h0 (by omega)
theorem Fs.getRoot {last dd : Int} {n : List T.Nd} {d : List Mt} (h : Fs B F nv dv ⟨last + 1, n ++ [(made dd).as (last + 1)], d⟩ w) (hn : ∀ p ∈ n, p.no ≤ last) (hlen : n.length < 800000) :
    Calls Try.prog 30 #[.pointer (some ⟨F, 0, none⟩), .int .i64 (last + 1)] w fun e w' => ∃ oa c, e = .returned (((made dd).as (last + 1)).v (.slice oa 0 c)) ∧ E.Own B (.slice oa 0 c) [] w' ∧ Below w.heap.size w w' := by
  have hg : get (n ++ [(made dd).as (last + 1)]) (last + 1) = some ((made dd).as (last + 1)) := get_snoc (x := (made dd).as (last + 1)) fun p hp e => by have := hn p hp; have e' : p.no = last + 1 := e; omega
  have := refGet_any h (last + 1) (by show (n ++ [_]).length ≤ _; rw [List.length_append]; show n.length + 1 ≤ _; omega)
  dsimp only at this
  rw [gets_some hg] at this
  refine this.mono ?_
  rintro e w' ⟨u, rfl, hO, hb⟩
  obtain ⟨oa, c, rfl⟩ := T.own_slice hO
  exact ⟨oa, c, rfl, hO, hb⟩
theorem Fs.setRoot {last dd : Int} {n : List T.Nd} {d : List Mt} {s : Value} (h : Fs B F nv dv ⟨last + 1, n ++ [(made dd).as (last + 1)], d⟩ w) (hS : E.Own B s [] w) (hr : n.Pairwise fun p q => p.no < q.no) (hn : ∀ p ∈ n, p.no ≤ last) (hlen : n.length < 800000) :
    Calls Try.prog 36 #[.pointer (some ⟨F, 0, none⟩), .agg #[.int .i64 (last + 1), .int .i64 dd, .int .i64 1, .int .i64 493, .int .i64 0, .int .i64 0, .int .i64 0, .int .i64 0, .int .i64 1, .int .i64 (last + 1), .string ⟨#[]⟩, s]] w fun e w' =>
    e = .returned (.tuple #[]) ∧ Fs B F nv dv ⟨last + 1, n ++ [rootNode (last + 1) dd], d⟩ w' ∧ Turn (fS F nv dv) w w' := by
  have hne : ∀ p ∈ n, p.no ≠ last + 1 := fun p hp e => by have := hn p hp; omega
  have hrise : (n ++ [(made dd).as (last + 1)]).Pairwise fun p q => p.no < q.no := List.pairwise_append.2 ⟨hr, List.pairwise_singleton _ _, fun p hp q hq => by
    obtain rfl := List.mem_singleton.1 hq
    have := hn p hp
    show p.no < last + 1
    omega⟩
  have := refSet_any h hrise (rootNode (last + 1) dd) s hS (by show (n ++ [_]).length ≤ _; rw [List.length_append]; show n.length + 1 ≤ _; omega)
  have e : setN (n ++ [(made dd).as (last + 1)]) (rootNode (last + 1) dd) = n ++ [rootNode (last + 1) dd] := setN_snoc (y := rootNode (last + 1) dd) hne rfl
  dsimp only at this
  rw [e] at this
  exact this
set_option maxRecDepth 100000 in
set_option maxHeartbeats 8000000 in
theorem refroot_any (H0 : Fs B F nv dv st w) (k b c : Int) (d' : List Mt) (hd' : raw d' = raw st.d ++ [⟨st.last + 1, k, ⟨1, 1, b, c⟩⟩]) (hr : st.n.Pairwise fun p q => p.no < q.no) (hgv : ∀ p ∈ st.n, p.no ≤ st.last) (hB : B ≤ w.heap.size) (hdl : st.d.length < 1000) (hlen : st.n.length < 800000) (h0 : 0 ≤ st.last) (hlast : st.last < 800000) :
    Calls Try.prog 40 #[.pointer (some ⟨F, 0, none⟩), .int .i64 k, .int .i64 b, .int .i64 c] w fun e w' =>
    e = .returned (.int .i64 (st.last + 1)) ∧ ∃ nv' dv', Fs B F nv' dv' ⟨st.last + 1, st.n ++ [rootNode (st.last + 1) (st.d.length + 1)], d'⟩ w' ∧ Turn (fS F nv dv) w w' ∧ ∀ i, fS F nv' dv' i → fS F nv dv i ∨ w.heap.size ≤ i := by
  obtain ⟨i0, hi, hz0, hz1, hz2⟩ := E.info_parts infoD
  obtain ⟨oa, cap, rfl⟩ := H0.dlen
  obtain ⟨_, x1, _⟩ := H0.facts
  have ca := H0.addRoot (st.d.length + 1) hB hlen h0 hlast
  have HR := Lib.hid hr
  have HG := Lib.hid hgv
  have HD := Lib.hid hd'
  have HH := Lib.hid H0
  clear H0 hr hgv hd'
  dsimp only [made, T.Nd.v] at ca
  go_enter Try.func40, Try.ntmps40
  go_upto_region 3 with (go_at_call 71; refine ca.mono ?_; rintro e w2 ⟨rfl, nv2, H2, t2, k2⟩)
  have cg := H2.getRoot HG.out hlen
  have hs2 := t2.size
  dsimp only [made, T.Nd.v, T.Nd.as] at cg
  clear ca x1
  go_upto_region 4 with (go_at_call 30; refine cg.mono ?_; rintro e w3 ⟨oe, ce, rfl, hO, hb3⟩; have B3 := T.BoxN.new ((made (st.d.length + 1)).as (st.last + 1)) (.slice oe 0 ce) w3)
  dsimp only [made, T.Nd.as] at B3
  have hb4 : Below w2.heap.size w2 (w3.alloc (.cells #[.int .i64 (st.last + 1), .int .i64 ((st.d.length : Int) + 1), .int .i64 1, .int .i64 493, .int .i64 0, .int .i64 0, .int .i64 0, .int .i64 0, .int .i64 1, .int .i64 0, .string ⟨#[]⟩, .slice oe 0 ce] 71)) := hb3.alloc hb3.size _
  have hO4 : E.Own B (.slice oe 0 ce) [] _ := T.own_kept hO (T.EntKept.below ((Below.refl w3.heap.size w3).alloc (Nat.le_refl _) (.cells #[.int .i64 (st.last + 1), .int .i64 ((st.d.length : Int) + 1), .int .i64 1, .int .i64 493, .int .i64 0, .int .i64 0, .int .i64 0, .int .i64 0, .int .i64 1, .int .i64 0, .string ⟨#[]⟩, .slice oe 0 ce] 71)))
  have hs3 := hb3.size
  generalize w3.alloc (.cells #[.int .i64 (st.last + 1), .int .i64 ((st.d.length : Int) + 1), .int .i64 1, .int .i64 493, .int .i64 0, .int .i64 0, .int .i64 0, .int .i64 0, .int .i64 1, .int .i64 0, .string ⟨#[]⟩, .slice oe 0 ce] 71) = W4 at B3 hb4 hO4 ⊢
  generalize w3.heap.size = b0 at B3 hs3 ⊢
  have H4 := H2.below hb4
  have t4 := t2.next hb4
  have hnv : ∀ g, nv2.ownBlock = some g → g ≠ b0 := fun g hg => by have := H2.lt (fS_row hg); omega
  clear cg hO hb3 hb4 H2 t2
  have a9 := B3.facts.2.2.2.2.2.2.2.2.2.1
  have f9 := B3.open.2.2.2.2.2.2.2.2.2.1
  dsimp only at a9
  go_upto_region 5 with fail
  have D5 := box_set9 B3 (st.last + 1)
  have H5 := H4.boxed B3 hnv 9 (.int .i64 (st.last + 1))
  have hO5 := T.own_kept hO4 (box_entKept B3 9 (.int .i64 (st.last + 1)))
  have t5 := t4.more ((Below.refl b0 W4).setCell (p := ⟨b0, 9, none⟩) (Nat.le_refl b0) (.int .i64 (st.last + 1))) (by omega)
  dsimp only at D5
  clear a9 f9 B3 H4 hO4 t4
  generalize W4.setCell ⟨b0, 9, none⟩ (.int .i64 (st.last + 1)) = W5 at *
  have cs := H5.setRoot hO5 HR.out HG.out hlen
  obtain ⟨a0, a1, a2, a3, a4, a5, a6, a7, a8, a9, a10, a11⟩ := D5.facts
  dsimp only at a0 a1 a2 a3 a4 a5 a6 a7 a8 a9 a10 a11
  have HT5 := Lib.hid t5
  have HF5 := Lib.hid H5
  clear H5 t5 D5 hO5
  go_upto_region 6 with (go_at_call 36; refine cs.mono ?_; rintro e w6 ⟨rfl, H6, t6⟩)
  have t66 := HT5.out.late t6 k2
  have hs6 := t66.size
  have hR := H6.devs
  unfold MRow at hR
  dsimp only at hR
  rw [length_raw] at hR
  have HR6 := Lib.hid hR
  have H6h := Lib.hid H6
  have HT6 := Lib.hid t66
  have HK := Lib.hid k2
  have x1 := H6.facts.2.1
  have hcs := cs_one ⟨st.last + 1, k, ⟨1, 1, b, c⟩⟩
  clear hR H6 t66 t6 cs k2 a0 a1 a2 a3 a4 a5 a6 a7 a8 a9 a10 a11 HF5 HT5 HR HG
  go_upto_region 7 with (at_builtin; refine wpList_append_fresh _ rfl _ _ 44 rfl B 56 i0 (.agg #[.int .i64 0, .int .i64 0, .int .i64 0, .int .i64 0, .int .i64 0, .int .i64 0]) 6 48 Try.underlying44 hi hz0 hz1 hz2 rfl (by decide) (.slice oa st.d.length cap) st.d.length (flat (raw st.d)) rfl (HR6.out.alloc _) ⟨w6.heap.size, 0, none⟩ 1 1 (Mt.cs ⟨st.last + 1, k, ⟨1, 1, b, c⟩⟩) rfl rfl (one_mount _ _ _) hcs (by unfold maxLen; omega) (by omega) (by simp; omega) ?_; intro v' w7 hown7 hgr7 hnew7; have hg8 := Fs.dgrown (H6h.out.alloc _) hgr7; obtain ⟨hg9, hg10⟩ := hg8; obtain ⟨ov, cv, hv⟩ := row_form hown7; subst hv)
  obtain ⟨H8, t8⟩ := Fs.dsnoc (H6h.out.alloc _) HD.out hown7 hgr7
  go_wp2
  go_ret
  have hal : Below w6.heap.size w6 (w6.alloc (.cells #[.int .i64 (st.last + 1), .int .i64 k, .int .i64 1, .int .i64 1, .int .i64 b, .int .i64 c] 56)) := (Below.refl _ _).alloc (Nat.le_refl _) _
  refine ⟨rfl, nv2, _, H8, (HT6.out.next hal).late t8 HK.out, fun i hi => ?_⟩
  rcases hi with h | h | h
  · exact .inl (.inl h)
  · exact (HK.out i (fS_row h)).imp id fun h => by omega
  · rcases hnew7 i h with h | h
    · exact .inl (fS_dev h)
    · refine .inr ?_
      simp at h
      omega
end
end Go.Proofs.Ytmoimijclafgcaa.G
