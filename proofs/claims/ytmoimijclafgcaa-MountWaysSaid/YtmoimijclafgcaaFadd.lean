/-
  The reference's Add.
-/
import Derived.Test.YtmoimijclafgcaaFset
namespace Go.Proofs.Ytmoimijclafgcaa.G
open Go.RowKit Go.Shelf
attribute [local go_sem] Oper.semAt_some

section
variable {B F : Nat} {nv nv' dv : Value} {st : St} {w w' : World}
/-- the number given last is another one -/
theorem Fs.bump (h : Fs B F nv dv st w) (k : Int) : Fs B F nv dv ⟨k, st.n, st.d⟩ (w.setCell ⟨F, 2, none⟩ (.int .i64 k)) := by
  obtain ⟨l, h1, h2, h3⟩ := h.nodes
  have hn : ∀ (b : Nat) (x : Array Value) (t : TypeId) (mk : Nat × Nat), w.heap[b]? = some (.cells x t mk) → t ≠ 47 → (w.setCell ⟨F, 2, none⟩ (.int .i64 k)).heap[b]? = w.heap[b]? := fun b x t mk hb ht => RowKit.Below.heap_setCell _ _ _ _ (fun e => by
    subst e
    rw [h.head] at hb
    cases hb
    exact ht rfl)
  refine ⟨h.bf, ?_, ⟨l, h1, row_same h2 fun g hg => ?_, fun p hp => T.own_kept (h3 p hp) (T.entKept_set h.head (by decide) _ _)⟩, h.devs.same fun g hg => ?_⟩
  · simp [World.setCell, Array.getElem?_modify, h.head]
  · obtain ⟨_, cur, hc⟩ := row_block h2 hg
    exact hn _ _ _ _ hc (by decide)
  · obtain ⟨_, cur, hc⟩ := h.devs.block hg
    exact hn _ _ _ _ hc (by decide)
theorem Fs.turnF (w : World) (i : Nat) (u : Value) : Turn (fS F nv dv) w (w.setCell ⟨F, i, none⟩ u) :=
  ⟨rfl, rfl, rfl, by rw [World.size_setCell]; exact Nat.le_refl _, fun k _ hn => RowKit.Below.heap_setCell _ _ _ _ fun e => hn (.inl e)⟩
/-- a box of a node lies beside -/
theorem Fs.boxed (h : Fs B F nv dv st w) {b : Nat} {n : T.Nd} {s : Value} (D : T.BoxN b n s w) (hg : ∀ g, nv.ownBlock = some g → g ≠ b) (i : Nat) (u : Value) : Fs B F nv dv st (w.setCell ⟨b, i, none⟩ u) := by
  refine h.stays (fun k hk => RowKit.Below.heap_setCell _ _ _ _ fun e => ?_) (T.entKept_set D (by decide) i u)
  subst e
  obtain ⟨l, _, h2, _⟩ := h.nodes
  rcases hk with rfl | hk | hk
  · exact ne_type h.head D (by decide) rfl
  · exact hg _ hk rfl
  · obtain ⟨_, cur, hc⟩ := h.devs.block hk
    exact ne_type hc D (by decide) rfl
theorem Fs.lastly (h : Fs B F nv dv st w) {last : Int} (hl : last = st.last) : Fs B F nv dv ⟨last, st.n, st.d⟩ w := by subst hl; exact h
theorem Fs.notBox (h : Fs B F nv dv st w) {b : Nat} {n : T.Nd} {s : Value} (D : T.BoxN b n s w) (hg : ∀ g, nv.ownBlock = some g → g ≠ b) : ¬ fS F nv dv b := by
  obtain ⟨l, _, h2, _⟩ := h.nodes
  rintro (rfl | hk | hk)
  · exact ne_type h.head D (by decide) rfl
  · exact hg _ hk rfl
  · obtain ⟨_, cur, hc⟩ := h.devs.block hk
    exact ne_type hc D (by decide) rfl
/-- one more node -/
theorem Fs.snoc (h : Fs B F nv dv st w) {n : T.Nd} {s : Value} {l : T.Row} (h1 : l.map Prod.fst = st.n) (h2 : T.RowOwn B nv l w) (h3 : ∀ p ∈ l, E.Own B p.2 p.1.es w) (hS : E.Own B s n.es w) (hR : w'.ownsRow B 71 12 nv' (l.length + 1) (T.flat l ++ n.cs s)) (hg : w.grownBy w' nv.ownBlock) :
    Fs B F nv' dv ⟨st.last, st.n ++ [n], st.d⟩ (w'.setCell ⟨F, 0, none⟩ nv') ∧ Turn (fS F nv dv) w (w'.setCell ⟨F, 0, none⟩ nv') := by
  have hF : w'.heap[F]? = some (.cells #[nv, dv, .int .i64 st.last, .int .i64 0, .int .i64 0, .slice none 0 0, .bool false] 47 (0, 0)) := (hg.block F h.ltF fun e => by
    obtain ⟨_, cur, hc⟩ := row_block h2 e.symm
    exact ne_type h.head hc (by decide) rfl).trans h.head
  have hE : T.EntKept w w' := fun g cur hg' => (hg.block g (Array.getElem?_eq_some_iff.1 hg').1 fun e => by
    obtain ⟨_, cur', hc⟩ := row_block h2 e.symm
    exact ne_type hg' hc (by decide) rfl).trans hg'
  have hE2 : T.EntKept w (w'.setCell ⟨F, 0, none⟩ nv') := hE.trans (T.entKept_set hF (by decide) _ _)
  have hn : ∀ (b : Nat) (x : Array Value) (t : TypeId) (mk : Nat × Nat), w'.heap[b]? = some (.cells x t mk) → t ≠ 47 → (w'.setCell ⟨F, 0, none⟩ nv').heap[b]? = w'.heap[b]? := fun b x t mk hb ht => RowKit.Below.heap_setCell _ _ _ _ (fun e => by
    subst e
    rw [hF] at hb
    cases hb
    exact ht rfl)
  have hR' : T.RowOwn B nv' (l ++ [(n, s)]) w' := T.RowOwn.snoc hR
  refine ⟨⟨h.bf, ?_, ⟨l ++ [(n, s)], by rw [fst_snoc, h1], row_same hR' fun g hg' => ?_, fun p hp => ?_⟩, h.devs.same fun g hg' => ?_⟩, ?_⟩
  · simp [World.setCell, Array.getElem?_modify, hF]
  · obtain ⟨_, cur, hc⟩ := row_block hR' hg'
    exact hn _ _ _ _ hc (by decide)
  · rcases List.mem_append.1 hp with hp | hp
    · exact T.own_kept (h3 p hp) hE2
    · obtain rfl := List.mem_singleton.1 hp
      exact T.own_kept hS hE2
  · obtain ⟨_, cur, hc⟩ := h.devs.block hg'
    have hc' : w'.heap[g]? = w.heap[g]? := hg.block g (h.devs.lt hg') fun e => by
      obtain ⟨_, cur', hc2⟩ := row_block h2 e.symm
      exact ne_type hc hc2 (by decide) rfl
    exact (hn _ _ _ _ (hc'.trans hc) (by decide)).trans hc'
  · refine ⟨hg.os, hg.tape, hg.output, by rw [World.size_setCell]; exact hg.size, fun k hk hn' => ?_⟩
    rw [RowKit.Below.heap_setCell _ _ _ _ (fun e => hn' (.inl e))]
    exact hg.block k hk fun e => hn' (fS_row e.symm)
theorem Fs.grown (h : Fs B F nv dv st w) (hg : w.grownBy w' nv.ownBlock) : w'.cell? ⟨F, 0, none⟩ = some nv ∧ w'.frozen? ⟨F, 0, none⟩ = false := by
  obtain ⟨l, _, h2, _⟩ := h.nodes
  have hX : w'.heap[F]? = some (.cells #[nv, dv, .int .i64 st.last, .int .i64 0, .int .i64 0, .slice none 0 0, .bool false] 47 (0, 0)) := (hg.block F h.ltF fun e => by
    obtain ⟨_, cur, hc⟩ := row_block h2 e.symm
    exact ne_type h.head hc (by decide) rfl).trans h.head
  exact ⟨by rw [Lib.cell_of_heap hX]; rfl, Lib.frozen_of_heap hX 0⟩
set_option maxRecDepth 100000 in
set_option maxHeartbeats 8000000 in
theorem refAdd_any (h : Fs B F nv dv st w) (n : T.Nd) (s : Value) (hS : E.Own B s n.es w) (hB : B ≤ w.heap.size) (hlen : st.n.length < 900000) (h0 : 0 ≤ st.last) (hlast : st.last < 900000) :
    Calls Try.prog 71 #[.pointer (some ⟨F, 0, none⟩), n.v s] w fun e w' =>
    e = .returned (.int .i64 (st.last + 1)) ∧ ∃ nv', Fs B F nv' dv ⟨st.last + 1, st.n ++ [n.as (st.last + 1)], st.d⟩ w' ∧ Turn (fS F nv dv) w w' ∧ ∀ k, fS F nv' dv k → fS F nv dv k ∨ w.heap.size ≤ k := by
  have mixed : Try.prog.follows Departure.mixedOrders = true := by kernel_rfl
  obtain ⟨i0, hi, hz0, hz1, hz2⟩ := E.info_parts T.infoN
  have hb1 : Below w.heap.size w (w.alloc (.cells #[.int .i64 n.no, .int .i64 n.dev, .int .i64 n.kind, .int .i64 n.mode, .int .i64 n.uid, .int .i64 n.gid, .int .i64 n.mt, .int .i64 n.ct, .int .i64 n.links, .int .i64 n.up, .string n.data, s] 71)) := (Below.refl _ _).alloc (Nat.le_refl _) _
  have B1 := T.BoxN.new n s w
  have hnv : ∀ g, nv.ownBlock = some g → g ≠ w.heap.size := fun g hg => by
    have := h.lt (fS_row hg)
    omega
  have H := h.below hb1
  have hS1 := T.own_kept hS (T.EntKept.below hb1)
  obtain ⟨os, cs, rfl⟩ := T.own_slice hS
  obtain ⟨oa, cap, rfl⟩ : ∃ oa cap, nv = .slice oa st.n.length cap := by
    obtain ⟨l, h1, h2, _⟩ := h.nodes
    obtain ⟨oa, cap, e, _⟩ := h2.sees
    exact ⟨oa, cap, by rw [e, ← h1, List.length_map]⟩
  clear h hS
  obtain ⟨no, dev, kind, mode, uid, gid, mt, ct, links, up, data, es⟩ := n
  dsimp only [T.Nd.v] at *
  go_enter Try.func71, Try.ntmps71
  go_upto_region 1 with fail
  generalize w.alloc (.cells #[.int .i64 no, .int .i64 dev, .int .i64 kind, .int .i64 mode, .int .i64 uid, .int .i64 gid, .int .i64 mt, .int .i64 ct, .int .i64 links, .int .i64 up, .string data, .slice os es.length cs] 71) = W1 at *
  obtain ⟨b0, hbd⟩ : ∃ b, w.heap.size = b := ⟨_, rfl⟩
  rw [hbd] at B1 hnv ⊢
  have HBd := Lib.hid hbd
  clear hbd
  obtain ⟨x0, x1, x2, y0, y1, y2⟩ := H.facts
  have hFl := H.ltF
  go_upto_region 2 with fail
  have H2 := H.bump (st.last + 1)
  have t2 : Turn (fS F (.slice oa st.n.length cap) dv) W1 _ := Fs.turnF (nv := .slice oa st.n.length cap) (dv := dv) (F := F) W1 2 (.int .i64 (st.last + 1))
  have B2 := B1.other (fun e => ne_type B1 H.head (by decide) e) 2 (.int .i64 (st.last + 1)) (a := F)
  have hS2 := T.own_kept hS1 (T.entKept_set H.head (by decide) 2 (.int .i64 (st.last + 1)))
  clear H B1 hS1 x0 x1 x2 y0 y1 y2 hFl
  generalize W1.setCell ⟨F, 2, none⟩ (.int .i64 (st.last + 1)) = W2 at *
  obtain ⟨x0, x1, x2, y0, y1, y2⟩ := H2.facts
  obtain ⟨f0, f1, f2, f3, f4, f5, f6, f7, f8, f9, f10, f11⟩ := B2.open
  have a0 := B2.facts.1
  dsimp only at a0
  go_upto_region 3 with fail
  have B3 := B2.set0 (st.last + 1)
  have hS3 := T.own_kept hS2 (box_entKept B2 0 (.int .i64 (st.last + 1)))
  have H3 := H2.boxed B2 hnv 0 (.int .i64 (st.last + 1))
  have hb3 : Below b0 W2 (W2.setCell ⟨b0, 0, none⟩ (.int .i64 (st.last + 1))) := (Below.refl b0 W2).setCell (p := ⟨b0, 0, none⟩) (Nat.le_refl b0) _
  have t3 : Turn (fS F (.slice oa st.n.length cap) dv) w (W2.setCell ⟨b0, 0, none⟩ (.int .i64 (st.last + 1))) := ((Turn.of_below hb1).trans t2).more hb3 (by rw [HBd.out]; exact Nat.le_refl _)
  clear a0 H2 B2 hS2 x0 x1 x2 y0 y1 y2 f0 f1 f2 f3 f4 f5 f6 f7 f8 f9 f10 f11 hb3 t2 hb1
  generalize W2.setCell ⟨b0, 0, none⟩ (.int .i64 (st.last + 1)) = W3 at *
  obtain ⟨l, h1, h2, h3⟩ := H3.nodes
  have hll : l.length = st.n.length := by rw [← h1, List.length_map]
  have hw3 : w.heap.size ≤ W3.heap.size := t3.size
  have hR := (h2.below ((Below.refl W3.heap.size W3).drew))
  unfold T.RowOwn at hR
  rw [hll] at hR
  obtain ⟨x0, x1, x2, y0, y1, y2⟩ := H3.facts
  obtain ⟨a0, a1, a2, a3, a4, a5, a6, a7, a8, a9, a10, a11⟩ := B3.facts
  dsimp only [T.Nd.as] at a0 a1 a2 a3 a4 a5 a6 a7 a8 a9 a10 a11
  have hFl := H3.ltF
  have hbl := B3.lt
  have hcs := T.cs_one (⟨st.last + 1, dev, kind, mode, uid, gid, mt, ct, links, up, data, es⟩ : T.Nd) (s := .slice os es.length cs) ⟨_, _, _, rfl⟩
  have HR := Lib.hid hR
  have HH := Lib.hid H3
  have HRO := Lib.hid h2
  have HNV := Lib.hid hnv
  have HN := Lib.hid h1
  have HT := Lib.hid t3
  have HE := Lib.hid h3
  have HS := Lib.hid hS3
  have HBX := Lib.hid B3
  clear hR H3 h1 h2 h3 t3 B3 hS3 hnv
  go_region_law (refine step_append_fresh rfl (.tmp 21) (.tmp 23) 43 rfl B 71 i0 (.agg #[.int .i64 0, .int .i64 0, .int .i64 0, .int .i64 0, .int .i64 0, .int .i64 0, .int .i64 0, .int .i64 0, .int .i64 0, .int .i64 0, .string ⟨#[]⟩, .slice none 0 0]) 12 120 Try.underlying43 hi hz0 hz1 hz2 rfl (by decide) (.slice oa st.n.length cap) st.n.length (T.flat l) (by simp [Act.eval]) (HR.out.alloc _) ⟨W3.heap.size, 0, none⟩ 1 1 (T.Nd.cs ⟨st.last + 1, dev, kind, mode, uid, gid, mt, ct, links, up, data, es⟩ (.slice os es.length cs)) (by simp [Act.eval]) rfl (T.cell_new W3.drew ⟨st.last + 1, dev, kind, mode, uid, gid, mt, ct, links, up, data, es⟩ _ _) hcs (by unfold maxLen; omega) (by omega) (by simp; omega) ?_; intro v' w3 hown3 hgr3 hnew3; have hg4 := Fs.grown (HH.out.drew.alloc _) hgr3; obtain ⟨hg5, hg6⟩ := hg4; obtain ⟨ov, cv, hv⟩ := row_form hown3; subst hv)
  all_goals
    have hal : Below W3.heap.size W3 (W3.drew.alloc (.cells #[.int .i64 (st.last + 1), .int .i64 dev, .int .i64 kind, .int .i64 mode, .int .i64 uid, .int .i64 gid, .int .i64 mt, .int .i64 ct, .int .i64 links, .int .i64 up, .string data, .slice os es.length cs] 71)) := ((Below.refl W3.heap.size W3).drew).alloc (by simp) _
    obtain ⟨H5, t5⟩ := Fs.snoc (HH.out.below hal) (n := ⟨st.last + 1, dev, kind, mode, uid, gid, mt, ct, links, up, data, es⟩) (s := .slice os es.length cs) HN.out (HRO.out.below hal) (fun p hp => T.own_kept (HE.out p hp) (T.EntKept.below hal)) (T.own_kept HS.out (T.EntKept.below hal)) (by rw [hll]; exact hown3) hgr3
    have ht5 := (HT.out.next hal).trans t5
    have D5 : T.BoxN b0 _ _ _ := (t5.block b0 (HBX.out.below hal).lt ((HH.out.below hal).notBox (HBX.out.below hal) HNV.out)).trans (HBX.out.below hal)
    have hnew : ∀ k, fS F (.slice ov (st.n.length + 1) cv) dv k → fS F (.slice oa st.n.length cap) dv k ∨ b0 ≤ k := fun k hk => by
      rcases hk with hk | hk | hk
      · exact .inl (.inl hk)
      · rcases hnew3 k hk with h | h
        · exact .inl (fS_row h)
        · refine .inr ?_
          have := hal.size
          simp at h
          omega
      · exact .inl (fS_dev hk)
    have HK := Lib.hid hnew
    have HF5 := Lib.hid H5
    have HT5 := Lib.hid ht5
    clear hnew H5 ht5 t5 hal hown3 hgr3 hnew3 hg5 hg6 a0 a1 a2 a3 a4 a5 a6 a7 a8 a9 a10 a11 x0 x1 x2 y0 y1 y2 HR HH HRO HN HT HE HS HBX HNV hi hz0 hz1 hz2 hcs
    generalize w3.setCell ⟨F, 0, none⟩ (.slice ov (st.n.length + 1) cv) = W5 at *
    have a0 := D5.facts.1
    dsimp only [T.Nd.as] at a0
    go_wp2
    go_ret
    exact ⟨rfl, _, HF5.out, HT5.out, by rw [HBd.out]; exact HK.out⟩
end
end Go.Proofs.Ytmoimijclafgcaa.G
