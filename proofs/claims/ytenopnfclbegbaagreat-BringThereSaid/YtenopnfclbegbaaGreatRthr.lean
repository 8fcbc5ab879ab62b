/-
  The reference's root: one more mount.
-/
import Derived.Test.YtenopnfclbegbaaGreatRtwo
namespace Go.Proofs.YtenopnfclbegbaaGreat.G
open Go.RowKit Go.Shelf
attribute [local go_sem] Oper.semAt_some

theorem wpList_append_fresh {P : Program} (w : World) {ops : Array Oper} {rest : List Oper} {o : Oper} {a : Act} {Q : Exit → Act → World → Prop} (hgd : o.guard = none) (s x : Operand) (t : TypeId)
    (ho : o.op = .call { callee := .builtin .append, args := #[s, x], argTypes := #[t, t] })
    (base : Nat) (e : TypeId) (i : TypeInfo) (z : Value) (size bytes : Nat) (ht : P.underlying t = some (.slice e)) (hi : P.info? e = some i) (hz : i.zero = some z)
    (hsize : i.size = size) (hby : i.bytes = bytes) (hzs : z.cells.size = size) (hsz : 0 < size)
    (v : Value) (n : Nat) (xs : List Value) (hs : a.eval s = v) (hown : w.ownsRow base e size v n xs)
    (ad : Addr) (m c : Nat) (news : List Value) (hx : a.eval x = .slice (some ad) m c) (hl : news.length = m * size) (hnews : ∀ j u, news[j]? = some u → w.cell? (ad.add j) = some u) (h1 : ∀ u ∈ news, u.oneCell' = true)
    (h63 : n + m ≤ maxLen) (hbytes : (n + m) * bytes ≤ 140737488355328) (hbase : base ≤ w.heap.size)
    (h : ∀ v' w', w'.ownsRow base e size v' (n + m) (xs ++ news) → w.grownBy w' v.ownBlock → (∀ k, v'.ownBlock = some k → v.ownBlock = some k ∨ w.heap.size ≤ k) → wpList P ops Q rest (a.put o.dst v') w') : wpList P ops Q (o :: rest) a w :=
  wpList_plain hgd fun K hK => by
    obtain ⟨v', w', hr, h2, h3, h4⟩ := run_append_fresh (P := P) w base t o.type e i z size bytes ht hi hz hsize hby hzs hsz v n xs hown ad m c news hl hnews h1 h63 hbytes hbase
    unfold Oper.wp execOp
    simp only [ho, resolve, invoke, builtin, Sem.run_bind, Sem.run_pure, Result.andThen_ok, List.map_toArray, List.map_cons, List.map_nil, hs, hx, hr]
    exact hK _ _ (h v' w' h2 h3 h4)
theorem raw_snoc {d : List Mt} (hd : d ≠ []) (m : Mt) : raw (d ++ [m]) = raw d ++ [m] := by
  cases d with
  | nil => exact absurd rfl hd
  | cons x r => rfl
section
variable {B F : Nat} {ex : Ext} {nv nv' dv dv' : Value} {st : St} {w w' : World}
/-- one more mount -/
theorem Fs.dsnoc (h : Fs ex B F nv dv st w) {m : Mt} {d' : List Mt} (hd : raw d' = raw st.d ++ [m]) (hR : w'.ownsRow B 112 6 dv' (st.d.length + 1) (flat (raw st.d) ++ m.cs)) (hg : w.grownBy w' dv.ownBlock) :
    Fs ex B F nv dv' ⟨st.last, st.n, d'⟩ (w'.setCell ⟨F, 1, none⟩ dv') ∧ Turn (fS F nv dv) w (w'.setCell ⟨F, 1, none⟩ dv') := by
  obtain ⟨l, h1, h2, h3⟩ := h.nodes
  have hF : w'.heap[F]? = some (.cells #[nv, dv, .int .i64 st.last, .int .i64 ex.now, .int .i64 ex.cnt, ex.plan, .bool ex.dead] 37 (0, 0)) := (hg.block F h.ltF fun e => by
    obtain ⟨_, cur, hc⟩ := h.devs.block e.symm
    exact ne_type h.head hc (by decide) rfl).trans h.head
  have hE : T.EntKept w w' := fun g cur hg' => (hg.block g (Array.getElem?_eq_some_iff.1 hg').1 fun e => by
    obtain ⟨_, cur', hc⟩ := h.devs.block e.symm
    exact ne_type hg' hc (by decide) rfl).trans hg'
  have hE2 : T.EntKept w (w'.setCell ⟨F, 1, none⟩ dv') := hE.trans (T.entKept_set hF (by decide) _ _)
  have hn : ∀ (b : Nat) (x : Array Value) (t : TypeId) (mk : Nat × Nat), w'.heap[b]? = some (.cells x t mk) → t ≠ 37 → (w'.setCell ⟨F, 1, none⟩ dv').heap[b]? = w'.heap[b]? := fun b x t mk hb ht => RowKit.Below.heap_setCell _ _ _ _ (fun e => by
    subst e
    rw [hF] at hb
    cases hb
    exact ht rfl)
  have hR' : MRow B 112 dv' (raw st.d ++ [m]) w' := MRow.snoc (by rw [length_raw]; exact hR)
  refine ⟨⟨h.bf, ?_, ⟨l, h1, row_same h2 fun g hg' => ?_, fun p hp => T.own_kept (h3 p hp) hE2⟩, ?_⟩, ?_⟩
  · simp [World.setCell, Array.getElem?_modify, hF]
  · obtain ⟨_, cur, hc⟩ := row_block h2 hg'
    have hc' : w'.heap[g]? = w.heap[g]? := hg.block g (Array.getElem?_eq_some_iff.1 hc).1 fun e => by
      obtain ⟨_, cur', hc2⟩ := h.devs.block e.symm
      exact ne_type hc hc2 (by decide) rfl
    exact (hn _ _ _ _ (hc'.trans hc) (by decide)).trans hc'
  · show MRow B 112 dv' (raw d') _
    rw [hd]
    exact hR'.same fun g hg' => by
      obtain ⟨_, cur, hc⟩ := hR'.block hg'
      exact hn _ _ _ _ hc (by decide)
  · refine ⟨hg.os, hg.tape, hg.output, by rw [World.size_setCell]; exact hg.size, fun k hk hn' => ?_⟩
    rw [RowKit.Below.heap_setCell _ _ _ _ (fun e => hn' (.inl e))]
    exact hg.block k hk fun e => hn' (fS_dev e.symm)
theorem Fs.dgrown (h : Fs ex B F nv dv st w) (hg : w.grownBy w' dv.ownBlock) : w'.cell? ⟨F, 1, none⟩ = some dv ∧ w'.frozen? ⟨F, 1, none⟩ = false := by
  have hX : w'.heap[F]? = some (.cells #[nv, dv, .int .i64 st.last, .int .i64 ex.now, .int .i64 ex.cnt, ex.plan, .bool ex.dead] 37 (0, 0)) := (hg.block F h.ltF fun e => by
    obtain ⟨_, cur, hc⟩ := h.devs.block e.symm
    exact ne_type h.head hc (by decide) rfl).trans h.head
  exact ⟨by rw [Lib.cell_of_heap hX]; rfl, Lib.frozen_of_heap hX 1⟩
/-- what root adds -/
theorem Fs.addRoot (h : Fs ex B F nv dv st w) (dd : Int) (hB : B ≤ w.heap.size) (hlen : st.n.length < 800000) (h0 : 0 ≤ st.last) (hlast : st.last < 800000) :
    Calls Tryz.prog 79 #[.pointer (some ⟨F, 0, none⟩), (made dd).v (.slice none 0 0)] w fun e w' =>
    e = .returned (.int .i64 (st.last + 1)) ∧ ∃ nv', Fs ex B F nv' dv ⟨st.last + 1, st.n ++ [(made dd).as (st.last + 1)], st.d⟩ w' ∧ Turn (fS F nv dv) w w' ∧ ∀ k, fS F nv' dv k → fS F nv dv k ∨ w.heap.size ≤ k :=
  refAdd_any h (made dd) (.slice none 0 0) (E.Own.nil _ _) hB (by omega) h0 (by omega)
theorem Fs.getRoot {last dd : Int} {n : List T.Nd} {d : List Mt} (h : Fs ex B F nv dv ⟨last + 1, n ++ [(made dd).as (last + 1)], d⟩ w) (hn : ∀ p ∈ n, p.no ≤ last) (hlen : n.length < 800000) :
    Calls Tryz.prog 12 #[.pointer (some ⟨F, 0, none⟩), .int .i64 (last + 1)] w fun e w' => ∃ oa c, e = .returned (((made dd).as (last + 1)).v (.slice oa 0 c)) ∧ E.Own B (.slice oa 0 c) [] w' ∧ Below w.heap.size w w' := by
  have hg : get (n ++ [(made dd).as (last + 1)]) (last + 1) = some ((made dd).as (last + 1)) := get_snoc (x := (made dd).as (last + 1)) fun p hp e => by have := hn p hp; have e' : p.no = last + 1 := e; omega
  have := refGet_any h (last + 1) (by show (n ++ [_]).length ≤ _; rw [List.length_append]; show n.length + 1 ≤ _; omega)
  dsimp only at this
  rw [gets_some hg] at this
  refine this.mono ?_
  rintro e w' ⟨u, rfl, hO, hb⟩
  obtain ⟨oa, c, rfl⟩ := T.own_slice hO
  exact ⟨oa, c, rfl, hO, hb⟩
theorem Fs.setRoot {last dd : Int} {n : List T.Nd} {d : List Mt} {s : Value} (h : Fs ex B F nv dv ⟨last + 1, n ++ [(made dd).as (last + 1)], d⟩ w) (hS : E.Own B s [] w) (hr : n.Pairwise fun p q => p.no < q.no) (hn : ∀ p ∈ n, p.no ≤ last) (hlen : n.length < 800000) :
    Calls Tryz.prog 51 #[.pointer (some ⟨F, 0, none⟩), .agg #[.int .i64 (last + 1), .int .i64 dd, .int .i64 1, .int .i64 493, .int .i64 0, .int .i64 0, .int .i64 0, .int .i64 0, .int .i64 1, .int .i64 (last + 1), .string ⟨#[]⟩, s]] w fun e w' =>
    e = .returned (.tuple #[]) ∧ Fs ex B F nv dv ⟨last + 1, n ++ [rootNode (last + 1) dd], d⟩ w' ∧ Turn (fS F nv dv) w w' := by
  have hne : ∀ p ∈ n, p.no ≠ last + 1 := fun p hp e => by have := hn p hp; omega
  have hrise : (n ++ [(made dd).as (last + 1)]).Pairwise fun p q => p.no < q.no := List.pairwise_append.2 ⟨hr, List.pairwise_singleton _ _, fun p hp q hq => by
    obtain rfl := List.mem_singleton.1 hq
    have := hn p hp
    show p.no < last + 1
    omega⟩
  have := refSet_any h hrise (rootNode (last + 1) dd) s hS (by show (n ++ [_]).length ≤ _; rw [List.length_append]; show n.length + 1 ≤ _; omega)
  have e : setN (n ++ [(made dd).as (last + 1)]) (rootNode (last + 1) dd) = n ++ [rootNode (last + 1) dd] := setN_snoc (y := rootNode (last + 1) dd) hne rfl
  dsimp only at this
  rw [e] at this
  exact this
set_option maxRecDepth 100000 in
set_option maxHeartbeats 8000000 in
theorem refroot_any (H0 : Fs ex B F nv dv st w) (k b c : Int) (d' : List Mt) (hd' : raw d' = raw st.d ++ [⟨st.last + 1, k, ⟨1, 1, b, c⟩⟩]) (hr : st.n.Pairwise fun p q => p.no < q.no) (hgv : ∀ p ∈ st.n, p.no ≤ st.last) (hB : B ≤ w.heap.size) (hdl : st.d.length < 1000) (hlen : st.n.length < 800000) (h0 : 0 ≤ st.last) (hlast : st.last < 800000) :
    Calls Tryz.prog 44 #[.pointer (some ⟨F, 0, none⟩), .int .i64 k, .int .i64 b, .int .i64 c] w fun e w' =>
    e = .returned (.int .i64 (st.last + 1)) ∧ ∃ nv' dv', Fs ex B F nv' dv' ⟨st.last + 1, st.n ++ [rootNode (st.last + 1) (st.d.length + 1)], d'⟩ w' ∧ Turn (fS F nv dv) w w' ∧ ∀ i, fS F nv' dv' i → fS F nv dv i ∨ w.heap.size ≤ i := by
  obtain ⟨i0, hi, hz0, hz1, hz2⟩ := E.info_parts infoD
  obtain ⟨oa, cap, rfl⟩ := H0.dlen
  obtain ⟨_, x1, _⟩ := H0.facts
  have ca := H0.addRoot (st.d.length + 1) hB hlen h0 hlast
  have HR := Lib.hid hr
  have HG := Lib.hid hgv
  have HD := Lib.hid hd'
  have HH := Lib.hid H0
  clear H0 hr hgv hd'
  dsimp only [made, T.Nd.v] at ca
  go_enter Tryz.func44, Tryz.ntmps44
  go_upto_region 3 with (go_at_call 79; refine ca.mono ?_; rintro e w2 ⟨rfl, nv2, H2, t2, k2⟩)
  have cg := H2.getRoot HG.out hlen
  have hs2 := t2.size
  dsimp only [made, T.Nd.v, T.Nd.as] at cg
  clear ca x1
  go_upto_region 4 with (go_at_call 12; refine cg.mono ?_; rintro e w3 ⟨oe, ce, rfl, hO, hb3⟩; have B3 := T.BoxN.new ((made (st.d.length + 1)).as (st.last + 1)) (.slice oe 0 ce) w3)
  dsimp only [made, T.Nd.as] at B3
  have hb4 : Below w2.heap.size w2 (w3.alloc (.cells #[.int .i64 (st.last + 1), .int .i64 ((st.d.length : Int) + 1), .int .i64 1, .int .i64 493, .int .i64 0, .int .i64 0, .int .i64 0, .int .i64 0, .int .i64 1, .int .i64 0, .string ⟨#[]⟩, .slice oe 0 ce] 48)) := hb3.alloc hb3.size _
  have hO4 : E.Own B (.slice oe 0 ce) [] _ := T.own_kept hO (T.EntKept.below ((Below.refl w3.heap.size w3).alloc (Nat.le_refl _) (.cells #[.int .i64 (st.last + 1), .int .i64 ((st.d.length : Int) + 1), .int .i64 1, .int .i64 493, .int .i64 0, .int .i64 0, .int .i64 0, .int .i64 0, .int .i64 1, .int .i64 0, .string ⟨#[]⟩, .slice oe 0 ce] 48)))
  have hs3 := hb3.size
  generalize w3.alloc (.cells #[.int .i64 (st.last + 1), .int .i64 ((st.d.length : Int) + 1), .int .i64 1, .int .i64 493, .int .i64 0, .int .i64 0, .int .i64 0, .int .i64 0, .int .i64 1, .int .i64 0, .string ⟨#[]⟩, .slice oe 0 ce] 48) = W4 at B3 hb4 hO4 ⊢
  generalize w3.heap.size = b0 at B3 hs3 ⊢
  have H4 := H2.below hb4
  have t4 := t2.next hb4
  have hnv : ∀ g, nv2.ownBlock = some g → g ≠ b0 := fun g hg => by have := H2.lt (fS_row hg); omega
  clear cg hO hb3 hb4 H2 t2
  have a9 := B3.facts.2.2.2.2.2.2.2.2.2.1
  have f9 := B3.open.2.2.2.2.2.2.2.2.2.1
  dsimp only at a9
  go_upto_region 5 with fail
  have D5 := box_set9 B3 (st.last + 1)
  have H5 := H4.boxed B3 hnv 9 (.int .i64 (st.last + 1))
  have hO5 := T.own_kept hO4 (box_entKept B3 9 (.int .i64 (st.last + 1)))
  have t5 := t4.more ((Below.refl b0 W4).setCell (p := ⟨b0, 9, none⟩) (Nat.le_refl b0) (.int .i64 (st.last + 1))) (by omega)
  dsimp only at D5
  clear a9 f9 B3 H4 hO4 t4
  generalize W4.setCell ⟨b0, 9, none⟩ (.int .i64 (st.last + 1)) = W5 at *
  have cs := H5.setRoot hO5 HR.out HG.out hlen
  obtain ⟨a0, a1, a2, a3, a4, a5, a6, a7, a8, a9, a10, a11⟩ := D5.facts
  dsimp only at a0 a1 a2 a3 a4 a5 a6 a7 a8 a9 a10 a11
  have HT5 := Lib.hid t5
  have HF5 := Lib.hid H5
  clear H5 t5 D5 hO5
  go_upto_region 6 with (go_at_call 51; refine cs.mono ?_; rintro e w6 ⟨rfl, H6, t6⟩)
  have t66 := HT5.out.late t6 k2
  have hs6 := t66.size
  have hR := H6.devs
  unfold MRow at hR
  dsimp only at hR
  rw [length_raw] at hR
  have HR6 := Lib.hid hR
  have H6h := Lib.hid H6
  have HT6 := Lib.hid t66
  have HK := Lib.hid k2
  have x1 := H6.facts.2.1
  have hcs := cs_one ⟨st.last + 1, k, ⟨1, 1, b, c⟩⟩
  clear hR H6 t66 t6 cs k2 a0 a1 a2 a3 a4 a5 a6 a7 a8 a9 a10 a11 HF5 HT5 HR HG
  go_upto_region 7 with (at_builtin; refine wpList_append_fresh _ rfl _ _ 34 rfl B 112 i0 (.agg #[.int .i64 0, .int .i64 0, .int .i64 0, .int .i64 0, .int .i64 0, .int .i64 0]) 6 48 Tryz.underlying34 hi hz0 hz1 hz2 rfl (by decide) (.slice oa st.d.length cap) st.d.length (flat (raw st.d)) rfl (HR6.out.alloc _) ⟨w6.heap.size, 0, none⟩ 1 1 (Mt.cs ⟨st.last + 1, k, ⟨1, 1, b, c⟩⟩) rfl rfl (one_mount _ _ _) hcs (by unfold maxLen; omega) (by omega) (by simp; omega) ?_; intro v' w7 hown7 hgr7 hnew7; have hg8 := Fs.dgrown (H6h.out.alloc _) hgr7; obtain ⟨hg9, hg10⟩ := hg8; obtain ⟨ov, cv, hv⟩ := row_form hown7; subst hv)
  obtain ⟨H8, t8⟩ := Fs.dsnoc (H6h.out.alloc _) HD.out hown7 hgr7
  go_wp2
  go_ret
  have hal : Below w6.heap.size w6 (w6.alloc (.cells #[.int .i64 (st.last + 1), .int .i64 k, .int .i64 1, .int .i64 1, .int .i64 b, .int .i64 c] 112)) := (Below.refl _ _).alloc (Nat.le_refl _) _
  refine ⟨rfl, nv2, _, H8, (HT6.out.next hal).late t8 HK.out, fun i hi => ?_⟩
  rcases hi with h | h | h
  · exact .inl (.inl h)
  · exact (HK.out i (fS_row h)).imp id fun h => by omega
  · rcases hnew7 i h with h | h
    · exact .inl (fS_dev h)
    · refine .inr ?_
      simp at h
      omega
end
end Go.Proofs.YtenopnfclbegbaaGreat.G
/-
  The reference's Mount and New.
-/
namespace Go.Proofs.YtenopnfclbegbaaGreat.G
open Go.RowKit Go.Shelf
attribute [local go_sem] Oper.semAt_some

section
variable {B F : Nat} {ex : Ext} {nv nv' dv dv' : Value} {st : St} {w w' : World}
set_option maxRecDepth 100000 in
set_option maxHeartbeats 8000000 in
theorem refMount_any (hI : Inv st) (h : Fs ex B F nv dv st w) (k b c : Int) (hB : B ≤ w.heap.size) (hlen : st.n.length < 800000) (hlast : st.last < 800000) :
    Calls Tryz.prog 46 #[.pointer (some ⟨F, 0, none⟩), .int .i64 k, .int .i64 b, .int .i64 c] w fun e w' =>
    e = .returned (.tuple #[.int .i64 (mount st k b c).2.1, .int .i64 (mount st k b c).2.2]) ∧ ∃ nv' dv', Fs ex B F nv' dv' (mount st k b c).1 w' ∧ Turn (fS F nv dv) w w' ∧ ∀ i, fS F nv' dv' i → fS F nv dv i ∨ w.heap.size ≤ i := by
  obtain ⟨r, hr⟩ : ∃ r, mount st k b c = r := ⟨_, rfl⟩
  rw [hr]
  have HR := Lib.hid hr
  have hdl := hI.mounts
  have hl0 := hI.lo
  have hgv : ∀ p ∈ st.n, p.no ≤ st.last := fun p hp => (hI.given p hp).2
  have hne : st.d ≠ [] := fun e => by
    obtain ⟨q, hq⟩ := hI.top
    rw [e] at hq; cases hq
  have c1 := refGet_any h k (by omega)
  have H := Lib.hid h
  obtain ⟨oa, cap, rfl⟩ := h.dlen
  have co := fun W (hW : Fs ex B F nv (.slice oa st.d.length cap) st W) => refOver_any hW k (by omega)
  have ho : refOver st.d k = over st.d k := (hI.over_raw k).symm
  rw [ho] at co
  have cr := fun W (hW : Fs ex B F nv (.slice oa st.d.length cap) st W) => refRoot_any hW (gets st.n k).dev (by omega)
  have cl := fun W => U.Limits_any b c W
  have cg := fun W (hW : Fs ex B F nv (.slice oa st.d.length cap) st W) (hBW : B ≤ W.heap.size) => refroot_any hW k b c (st.d ++ [⟨st.last + 1, k, ⟨1, 1, b, c⟩⟩]) (raw_snoc hne _) hI.rise hgv hBW (by omega) hlen hl0 hlast
  have hno : (get st.n k).isSome = false → (gets st.n k).no = 0 ∧ True := fun e => by
    rw [gets_none (by simpa using e)]; exact ⟨rfl, trivial⟩
  have hyes : (get st.n k).isSome = true → (gets st.n k).no ≠ 0 := fun e => by
    obtain ⟨y, hy⟩ := Option.isSome_iff_exists.1 e
    rw [gets_some hy]
    have := (hI.given y (get_some hy).1).1
    omega
  have hrt : (get st.n k).isSome = true → (isRoot st.d k = true ↔ rootOf st.d (gets st.n k).dev = k) := fun e => by
    obtain ⟨y, hy⟩ := Option.isSome_iff_exists.1 e
    rw [gets_some hy]
    exact hI.root_iff hy
  have hlm : limits b c = (U.btw 1 b 1073741824 && U.btw 1 c 65536) := rfl
  rw [← hlm] at cl
  have G1 := Lib.hid (@mount_none st k b c)
  have G2 := Lib.hid (@mount_kind st k b c)
  have G3 := Lib.hid (@mount_busy st k b c)
  have G4 := Lib.hid (@mount_full st k b c)
  have G5 := Lib.hid (@mount_go st k b c)
  have HNO := Lib.hid hno
  have HYES := Lib.hid hyes
  have HRT := Lib.hid hrt
  clear h hr hlen hlast hI hgv hne hno hyes hrt hlm ho hl0
  rw [HR.out] at G1 G2 G3 G4 G5
  generalize isRoot st.d k = rr at *
  generalize over st.d k = ov at *
  generalize hnd : gets st.n k = nd at *
  clear hnd
  generalize rootOf st.d nd.dev = ro at *
  generalize (get st.n k).isSome = bb at *
  obtain ⟨no, dev, kind, mode, uid, gid, mt, ct', links, up, data, es⟩ := nd
  dsimp only [T.Nd.v] at *
  go_enter Tryz.func46, Tryz.ntmps46
  go_upto_region 2 with (go_at_call 12; refine c1.mono ?_; rintro e w3 ⟨u, rfl, hO, hb3⟩; obtain ⟨ou, cu, rfl⟩ := T.own_slice hO; have D3 := T.BoxN.new ⟨no, dev, kind, mode, uid, gid, mt, ct', links, up, data, es⟩ (.slice ou es.length cu) w3)
  have hb4 : Below w.heap.size w (w3.alloc (.cells #[.int .i64 no, .int .i64 dev, .int .i64 kind, .int .i64 mode, .int .i64 uid, .int .i64 gid, .int .i64 mt, .int .i64 ct', .int .i64 links, .int .i64 up, .string data, .slice ou es.length cu] 48)) := hb3.alloc hb3.size _
  generalize w3.alloc (.cells #[.int .i64 no, .int .i64 dev, .int .i64 kind, .int .i64 mode, .int .i64 uid, .int .i64 gid, .int .i64 mt, .int .i64 ct', .int .i64 links, .int .i64 up, .string data, .slice ou es.length cu] 48) = W4 at D3 hb4 ⊢
  generalize w3.heap.size = b3 at D3 ⊢
  clear hb3 hO c1
  have H4 := H.out.below hb4
  have ht4 : Turn (fS F nv (.slice oa st.d.length cap)) w W4 := Turn.of_below hb4
  have co4 := co W4 H4
  have cr4 := cr W4 H4
  have hBW : B ≤ W4.heap.size := Nat.le_trans hB ht4.size
  have cg4 := cg W4 H4 hBW
  obtain ⟨a0, a1, a2, _⟩ := D3.facts
  dsimp only at a0 a1 a2
  have x1 := H4.facts.2.1
  have H4h := Lib.hid H4
  have ht4h := Lib.hid ht4
  clear co cr cg H4 ht4 hB hb4 D3
  cases bb with
  | false =>
    obtain rfl := G1.out rfl
    obtain ⟨e0, _⟩ := HNO.out rfl
    subst e0
    go_wp2
    go_ret2
    exact ⟨rfl, nv, _, H4h.out, ht4h.out, fun i hi => .inl hi⟩
  | true =>
    have hn0 : (no == 0) = false := by have := HYES.out rfl; simpa using this
    have hrt := HRT.out rfl
    by_cases hk1 : kind = 1
    · subst hk1
      by_cases hov : ov = k
      · subst hov
        cases rr with
        | true =>
          obtain rfl := G3.out rfl rfl (.inr rfl)
          obtain rfl : ro = ov := hrt.1 rfl
          clear hrt
          go_wp2_with (first
            | (go_at_call 67; refine co4.mono ?_; rintro e w5 ⟨rfl, rfl⟩)
            | (go_at_call 60; refine cr4.mono ?_; rintro e w5 ⟨rfl, rfl⟩))
          go_ret2
          exact ⟨rfl, nv, _, H4h.out, ht4h.out, fun i hi => .inl hi⟩
        | false =>
          have hro : (ro == ov) = false := by
            have : ¬ ro = ov := fun e => by have := hrt.2 e; cases this
            simpa using this
          clear hrt
          go_upto_region 8 with (first
            | (go_at_call 67; refine co4.mono ?_; rintro e w5 ⟨rfl, rfl⟩)
            | (go_at_call 60; refine cr4.mono ?_; rintro e w5 ⟨rfl, rfl⟩))
          by_cases h8 : 8 ≤ st.d.length
          · obtain rfl := G4.out (by trivial) (by trivial) (by trivial) (by trivial) h8
            have h8' : (8 : Int) ≤ st.d.length := by omega
            go_wp2
            go_ret2
            exact ⟨rfl, nv, _, H4h.out, ht4h.out, fun i hi => .inl hi⟩
          · have hG := G5.out (by trivial) (by trivial) (by trivial) (by trivial) h8
            have h8' : ¬ (8 : Int) ≤ st.d.length := by omega
            generalize limits b c = lm at *
            cases lm with
            | false =>
              rw [if_neg (by simp)] at hG
              subst hG
              go_wp2_with (go_at_call 43; refine (cl _).mono ?_; rintro e w9 ⟨rfl, rfl⟩)
              go_ret2
              exact ⟨rfl, nv, _, H4h.out, ht4h.out, fun i hi => .inl hi⟩
            | true =>
              rw [if_pos rfl] at hG
              subst hG
              go_wp2_with (first
                | (go_at_call 43; refine (cl _).mono ?_; rintro e w9 ⟨rfl, rfl⟩)
                | (go_at_call 44; refine cg4.mono ?_; rintro e w9 ⟨rfl, nv', dv', H9, t9, k9⟩))
              go_ret2
              exact ⟨rfl, nv', dv', H9, ht4h.out.trans t9, fun i hi => (k9 i hi).imp id fun h => by have := ht4h.out.size; omega⟩
      · obtain rfl := G3.out rfl rfl (.inl hov)
        have hov' : (ov == k) = false := by simpa using hov
        clear hrt
        go_wp2_with (go_at_call 67; refine co4.mono ?_; rintro e w5 ⟨rfl, rfl⟩)
        go_ret2
        exact ⟨rfl, nv, _, H4h.out, ht4h.out, fun i hi => .inl hi⟩
    · obtain rfl := G2.out rfl hk1
      have hk1' : (kind == 1) = false := by simpa using hk1
      clear hrt
      go_wp2
      go_ret2
      exact ⟨rfl, nv, _, H4h.out, ht4h.out, fun i hi => .inl hi⟩
end
theorem Fs.bare {B : Nat} {w : World} (hB : B ≤ w.heap.size) : Fs ex0 B w.heap.size (.slice none 0 0) (.slice none 0 0) bare (w.alloc (.cells #[.slice none 0 0, .slice none 0 0, .int .i64 0, .int .i64 0, .int .i64 0, .slice none 0 0, .bool false] 37)) :=
  ⟨hB, heap_alloc_new w _, ⟨[], rfl, T.RowOwn.nil _ _, fun p hp => by cases hp⟩, MRow.nil _ _ _⟩
set_option maxHeartbeats 4000000 in
theorem refNew_yes (b c : Int) (h : limits b c = true) (w : World) : Calls Tryz.prog 22 #[.int .i64 b, .int .i64 c] w fun e w' =>
    (∃ F nv dv, e = .returned (.pointer (some ⟨F, 0, none⟩)) ∧ Fs ex0 w.heap.size F nv dv (begin_ bare 1 b c) w') ∧ Below w.heap.size w w' := by
  have cl := fun W => U.Limits_any b c W
  have hlm : limits b c = (U.btw 1 b 1073741824 && U.btw 1 c 65536) := rfl
  rw [← hlm, h] at cl
  have H1 := Fs.bare (B := w.heap.size) (w := w) (Nat.le_refl _)
  have hb1 : Below w.heap.size w (w.alloc (.cells #[.slice none 0 0, .slice none 0 0, .int .i64 0, .int .i64 0, .int .i64 0, .slice none 0 0, .bool false] 37)) := (Below.refl _ _).alloc (Nat.le_refl _) _
  have cg := refroot_any H1 0 b c [⟨1, 1, ⟨1, 1, b, c⟩⟩] rfl List.Pairwise.nil (fun p hp => by cases hp) hb1.size (by decide) (by decide) (by decide) (by decide)
  rw [show bare.last + 1 = 1 from rfl] at cg
  have HB := Lib.hid hb1
  have HF := Lib.hid H1
  clear h hlm H1 hb1
  go_enter Tryz.func22, Tryz.ntmps22
  go_wp2_with (first
    | (go_at_call 43; refine (cl _).mono ?_; rintro e w2 ⟨rfl, rfl⟩)
    | (go_at_call 44; refine cg.mono ?_; rintro e w2 ⟨rfl, nv, dv, H2, t2, k2⟩))
  go_ret
  exact ⟨⟨_, nv, dv, rfl, H2⟩, HB.out.trans (HF.out.ofTurn t2 HB.out.size)⟩
end Go.Proofs.YtenopnfclbegbaaGreat.G
/-
  The reference's Find and Put.
-/
namespace Go.Proofs.YtenopnfclbegbaaGreat.E
open Go.RowKit Go.Shelf

/-- the number of a name; 0: it is not there -/
def numOf (ls : List Ent) (n : List UInt8) : Int := match ls.find? (fun x => decide (x.name = n)) with | some x => x.no | none => 0
set_option maxRecDepth 100000 in
set_option maxHeartbeats 4000000 in
theorem refFind_any {v : Value} {ls : List Ent} {w : World} (hS : Sees v ls w) (n : List UInt8) (hl : ls.length ≤ 100000) :
    Calls Tryz.prog 18 #[v, .string ⟨n.toArray⟩] w fun e w' => e = .returned (.int .i64 (numOf ls n)) ∧ w = w' := by
  obtain ⟨oa, cap, rfl, _, hcells⟩ := hS
  have HC := Lib.hid hcells
  clear hcells
  go_enter Tryz.func18, Tryz.ntmps18
  go_wp2
  go_loopw [5] (fun i wr => ∃ k : Nat, k ≤ ls.length ∧ i = .int .i64 k ∧ (∀ y ∈ ls.take k, decide (y.name = n) = false) ∧ wr = w) (fun i _ => ls.length - (RowKit.intOf i).toNat)
  case atStart => exact ⟨0, Nat.zero_le _, rfl, fun y hy => by simp at hy, rfl⟩
  case round =>
    obtain ⟨k, hk, rfl, hno, rfl⟩ := hrel
    have HB := Lib.hid hno
    clear hno
    by_cases hlt : k < ls.length
    · obtain ⟨x, hx⟩ : ∃ x, ls[k]? = some x := ⟨_, List.getElem?_eq_getElem hlt⟩
      obtain ⟨g, o, rfl, h0, h1⟩ := HC.out k x hx
      have HF := Lib.hid (G.seek_take (fun x : Ent => decide (x.name = n)) hx HB.out)
      clear hx
      by_cases hn : x.name = n
      · have HN := Lib.hid (HF.out.1 (by simpa using hn))
        subst hn
        clear HF
        go_wp2
        go_ret
        exact ⟨by unfold numOf; rw [HN.out]; rfl, by first | rfl | trivial⟩
      · have HN := Lib.hid (HF.out.2 (by simpa using hn))
        have hn' : (x.name == n) = false := by simpa using hn
        clear HF hn
        go_wp2
        go_roundw
        case rel => exact ⟨k + 1, by omega, by go_num, HN.out, by first | rfl | trivial⟩
        case measure => simp [RowKit.intOf]; omega
    · have HE := Lib.hid (G.seek_end (fun x : Ent => decide (x.name = n)) (l := ls) (by have := HB.out; rwa [List.take_of_length_le (by omega)] at this))
      go_wp2
      go_ret
      exact ⟨by unfold numOf; rw [HE.out]; rfl, by first | rfl | trivial⟩
theorem str_gtr (a b : List UInt8) (W : World) : (binOp .gtr 9 (.string ⟨a.toArray⟩) (.string ⟨b.toArray⟩)).run Tryz.prog W = .ok (.bool (!(Op.bytesLess a b || a == b))) W := by
  simp [binOp, go_sem, Op.stringOp, ByteArray.toList_eq]
theorem cell_two_new (w : World) (a b : Value) (t : TypeId) : ∀ j u, [a, b][j]? = some u → (w.alloc (.cells #[a, b] t)).cell? ((⟨w.heap.size, 0, none⟩ : Addr).add j) = some u := by
  intro j u h
  rw [add_at, Nat.zero_add, World.cell?_alloc_new]
  match j, h with
  | 0, h => cases h; rfl
  | 1, h => cases h; rfl
  | j + 2, h => simp at h
theorem app_room {ls : List Ent} {k : Nat} {n : List UInt8} {y : Ent} {m : Nat} (h : ls.length ≤ 100000) (hm : m = ((lo ls n ++ [y]) ++ hi (ls.take k) n).length) : m ≤ 200001 := by
  have h1 := lo_len ls n
  have h2 := hi_len (ls.take k) n
  rw [List.length_take] at h2
  simp at hm; omega
set_option maxRecDepth 100000 in
set_option maxHeartbeats 8000000 in
theorem refPut_any {v : Value} {ls : List Ent} (y : Ent) {w : World} (hR : Sees v ls w) (hl : ls.length ≤ 100000) :
    Calls Tryz.prog 50 #[v, .string ⟨y.name.toArray⟩, .int .i64 y.no] w fun e w' => ∃ u, e = .returned u ∧ Own w.heap.size u (put ls y) w' ∧ Below w.heap.size w w' := by
  obtain ⟨i0, hi0, hz0, hz1, hz2⟩ := info_parts infoE
  obtain ⟨oa, cap, rfl, _, hcells⟩ := hR
  have HC := Lib.hid hcells
  clear hcells
  go_enter Tryz.func50, Tryz.ntmps50
  go_wp2_with fail
  go_loopw [7, 8] (fun u i wr => ∃ k : Nat, k ≤ ls.length ∧ i = .int .i64 k ∧ Own w.heap.size u (lo (ls.take k) y.name) wr ∧ Below w.heap.size w wr) (fun _ i _ => ls.length - (RowKit.intOf i).toNat)
  case atStart => exact ⟨0, Nat.zero_le _, rfl, Own.nil _ _, Below.refl _ _⟩
  case round =>
    obtain ⟨k, hk, rfl, hO, hb⟩ := hrel
    by_cases hlt : k < ls.length
    · obtain ⟨x, hx⟩ : ∃ x, ls[k]? = some x := ⟨_, List.getElem?_eq_getElem hlt⟩
      obtain ⟨g, o, rfl, h0, h1⟩ := HC.out k x hx
      have hg := World.block_lt_of_cell? _ _ h0
      have HS := Lib.hid (lo_take y.name hx)
      have d0 := (hb.cell (p := ⟨g, o + k * 2, none⟩) hg).trans h0
      have d1 := (hb.cell (p := ⟨g, o + k * 2 + 1, none⟩) hg).trans h1
      have hlen := lo_len (ls.take k) y.name
      rw [List.length_take] at hlen
      clear h0 h1 hx
      by_cases hn : x.name < y.name
      · have HD := Lib.hid (HS.out.trans (by rw [if_pos hn]))
        have hn' := less_yes hn
        unfold Own at hO
        generalize lo (ls.take k) y.name = ds at HD hO hlen
        clear hn
        go_wp2_with (at_builtin; refine wpList_append_own _ rfl _ _ 46 rfl w.heap.size 89 i0 (.agg #[.string ⟨#[]⟩, .int .i64 0]) 2 24 Tryz.underlying46 hi0 hz0 hz1 hz2 rfl (by decide) _ _ _ rfl (hO.alloc _) ⟨wr.heap.size, 0, none⟩ 1 1 [.string ⟨x.name.toArray⟩, .int .i64 x.no] rfl rfl (cell_two_new _ _ _ _) (enc_one x) (by unfold maxLen; omega) (by omega) (by have := hb.size; simp; omega) ?_; intro v' w1 hown' hgrow _)
        have HO := Lib.hid hown'
        clear hown'
        go_roundw
        case rel => exact ⟨k + 1, by omega, by go_num, by rw [HD.out]; exact Own.snoc HO.out, (hb.alloc hb.size _).grown hgrow (by have := hb.size; simp; omega) (fun k hk => (hO.lt k hk).1)⟩
        case measure => simp [RowKit.intOf]; omega
      · have HD := Lib.hid (HS.out.trans (by rw [if_neg hn, List.append_nil]))
        have hn' := less_no hn
        have HO := Lib.hid hO
        clear hn hO
        go_wp2
        go_roundw
        case rel => exact ⟨k + 1, by omega, by go_num, by rw [HD.out]; exact HO.out, hb⟩
        case measure => simp [RowKit.intOf]; omega
    · have hall : ls.take k = ls := List.take_of_length_le (by omega)
      rw [hall] at hO
      have hlen := lo_len ls y.name
      clear hall
      unfold Own at hO
      obtain ⟨ds, hds⟩ : ∃ ds, lo ls y.name = ds := ⟨_, rfl⟩
      have HDS := Lib.hid hds
      rw [hds] at hO hlen
      clear hds
      go_wp2_with (at_builtin; refine wpList_append_own _ rfl _ _ 46 rfl w.heap.size 89 i0 (.agg #[.string ⟨#[]⟩, .int .i64 0]) 2 24 Tryz.underlying46 hi0 hz0 hz1 hz2 rfl (by decide) _ _ _ rfl (hO.alloc _) ⟨wr.heap.size, 0, none⟩ 1 1 [.string ⟨y.name.toArray⟩, .int .i64 y.no] rfl rfl (cell_two_new _ _ _ _) (enc_one y) (by unfold maxLen; omega) (by omega) (by have := hb.size; simp; omega) ?_; intro v' w1 hown' hgrow _)
      have HO := Lib.hid (Own.snoc hown')
      have hb2 : Below w.heap.size w w1 := (hb.alloc hb.size _).grown hgrow (by have := hb.size; simp; omega) (fun k hk => (hO.lt k hk).1)
      clear hown' hgrow hb hO
      go_loopw [7, 9] (fun u i wr => ∃ k : Nat, k ≤ ls.length ∧ i = .int .i64 k ∧ Own w.heap.size u ((ds ++ [y]) ++ hi (ls.take k) y.name) wr ∧ Below w.heap.size w wr) (fun _ i _ => ls.length - (RowKit.intOf i).toNat)
      case atStart => exact ⟨0, Nat.zero_le _, rfl, by simpa [hi] using HO.out, hb2⟩
      case round =>
        clear hb2
        obtain ⟨k, hk, rfl, hO, hb⟩ := hrel
        by_cases hlt : k < ls.length
        · obtain ⟨x, hx⟩ : ∃ x, ls[k]? = some x := ⟨_, List.getElem?_eq_getElem hlt⟩
          obtain ⟨g, o, rfl, h0, h1⟩ := HC.out k x hx
          have hg := World.block_lt_of_cell? _ _ h0
          have HS := Lib.hid (hi_take y.name hx)
          have d0 := (hb.cell (p := ⟨g, o + k * 2, none⟩) hg).trans h0
          have d1 := (hb.cell (p := ⟨g, o + k * 2 + 1, none⟩) hg).trans h1
          have hroom : ((ds ++ [y]) ++ hi (ls.take k) y.name).length ≤ 200001 := app_room (n := y.name) (y := y) hl (by rw [HDS.out])
          clear h0 h1 hx
          by_cases hn : y.name < x.name
          · have HD : Hid ((ds ++ [y]) ++ hi (ls.take (k + 1)) y.name = ((ds ++ [y]) ++ hi (ls.take k) y.name) ++ [x]) := Lib.hid (by rw [HS.out, if_pos hn, List.append_assoc (ds ++ [y])])
            have hn0 := less_yes hn
            have hn1 := less_no (lt_asymm hn)
            have hn2 : (x.name == y.name) = false := by
              rw [beq_eq_false_iff_ne]; intro e; rw [e] at hn; exact lt_irrefl _ hn
            have hraw : ∀ W, (binOp .gtr 9 (.string ⟨x.name.toArray⟩) (.string ⟨y.name.toArray⟩)).run Tryz.prog W = .ok (.bool true) W := fun W => by rw [str_gtr]; simp [hn1, hn2]
            unfold Own at hO
            generalize (ds ++ [y]) ++ hi (ls.take k) y.name = es at HD hO hroom
            clear hn
            go_wp2_with (at_builtin; refine wpList_append_own _ rfl _ _ 46 rfl w.heap.size 89 i0 (.agg #[.string ⟨#[]⟩, .int .i64 0]) 2 24 Tryz.underlying46 hi0 hz0 hz1 hz2 rfl (by decide) _ _ _ rfl (hO.alloc _) ⟨wr.heap.size, 0, none⟩ 1 1 [.string ⟨x.name.toArray⟩, .int .i64 x.no] rfl rfl (cell_two_new _ _ _ _) (enc_one x) (by unfold maxLen; omega) (by omega) (by have := hb.size; simp; omega) ?_; intro v' w1 hown' hgrow _)
            have HO3 := Lib.hid hown'
            clear hown'
            go_roundw
            case rel => exact ⟨k + 1, by omega, by go_num, by rw [HD.out]; exact Own.snoc HO3.out, (hb.alloc hb.size _).grown hgrow (by have := hb.size; simp; omega) (fun k hk => (hO.lt k hk).1)⟩
            case measure => simp [RowKit.intOf]; omega
          · have HD := Lib.hid (HS.out.trans (by rw [if_neg hn, List.append_nil]))
            have HO3 := Lib.hid hO
            have hn0 := less_no hn
            clear hO
            by_cases he : x.name = y.name
            · have hn2 : (x.name == y.name) = true := by rw [he]; exact beq_self_eq_true _
              have hn1 : Op.bytesLess x.name y.name = false := less_no (by rw [he]; exact lt_irrefl _)
              have hraw : ∀ W, (binOp .gtr 9 (.string ⟨x.name.toArray⟩) (.string ⟨y.name.toArray⟩)).run Tryz.prog W = .ok (.bool false) W := fun W => by rw [str_gtr]; simp [hn2]
              clear he hn
              go_wp2
              go_roundw
              case rel => exact ⟨k + 1, by omega, by go_num, by rw [HD.out]; exact HO3.out, hb⟩
              case measure => simp [RowKit.intOf]; omega
            · have hn1 : Op.bytesLess x.name y.name = true := less_yes (by
                rcases tri x.name y.name with h | h | h
                · exact h
                · exact absurd h he
                · exact absurd h hn)
              have hraw : ∀ W, (binOp .gtr 9 (.string ⟨x.name.toArray⟩) (.string ⟨y.name.toArray⟩)).run Tryz.prog W = .ok (.bool false) W := fun W => by rw [str_gtr]; simp [hn1]
              clear he hn
              go_wp2
              go_roundw
              case rel => exact ⟨k + 1, by omega, by go_num, by rw [HD.out]; exact HO3.out, hb⟩
              case measure => simp [RowKit.intOf]; omega
        · have HP : Hid ((ds ++ [y]) ++ hi (ls.take k) y.name = put ls y) := Lib.hid (by rw [List.take_of_length_le (by omega), ← HDS.out]; rfl)
          have HO3 := Lib.hid hO
          clear hO
          go_wp2
          go_ret
          exact ⟨_, rfl, by rw [← HP.out]; exact HO3.out, hb⟩
end Go.Proofs.YtenopnfclbegbaaGreat.E
