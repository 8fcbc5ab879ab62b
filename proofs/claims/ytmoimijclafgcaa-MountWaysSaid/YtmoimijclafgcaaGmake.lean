/-
  take at any mount; Make.
-/
import Derived.Test.YtmoimijclafgcaaGtab
namespace Go.Proofs.Ytmoimijclafgcaa.G
open Go.RowKit Go.Shelf
attribute [local go_sem] Oper.semAt_some

theorem terr_some {d : List Mt} {k x y : Int} {m : Mt} (h : mt d k = some m) : terr d k x y = (U.took m.q x y).2 := by unfold terr; rw [h]
theorem terr_none {d : List Mt} {k x y : Int} (h : mt d k = none) : terr d k x y = 1 := by unfold terr; rw [h]
theorem taken_some {d : List Mt} {k x y : Int} {m : Mt} (h : mt d k = some m) : taken d k x y = settle d k (U.took m.q x y).1 := by unfold taken; rw [h]
theorem taken_none {d : List Mt} {k x y : Int} (h : mt d k = none) : taken d k x y = d := by unfold taken; rw [h]
theorem useOf_some {d : List Mt} {k : Int} {m : Mt} (h : mt d k = some m) : useOf d k = m.q := by unfold useOf; rw [h]
theorem taken_err {d : List Mt} {k x y : Int} (h : terr d k x y ≠ 0) : taken d k x y = d := by
  cases hm : mt d k with
  | none => exact taken_none hm
  | some m =>
    rw [terr_some hm] at h
    rw [taken_some hm, U.took_err _ _ _ h, ← useOf_some hm, settle_same]
theorem and12 {a0 a1 a2 a3 a4 a5 a6 a7 a8 a9 a10 a11 z : Prop} (h : a0 ∧ a1 ∧ a2 ∧ a3 ∧ a4 ∧ a5 ∧ a6 ∧ a7 ∧ a8 ∧ a9 ∧ a10 ∧ a11) (hz : z) : a0 ∧ a1 ∧ a2 ∧ a3 ∧ a4 ∧ a5 ∧ a6 ∧ a7 ∧ a8 ∧ a9 ∧ a10 ∧ a11 ∧ z := by
  obtain ⟨h0, h1, h2, h3, h4, h5, h6, h7, h8, h9, h10, h11⟩ := h
  exact ⟨h0, h1, h2, h3, h4, h5, h6, h7, h8, h9, h10, h11, hz⟩
section
variable {B X A M : Nat} {mv : Value} {st : St} {w w' : World}
theorem Turn.row (h : Turn (fun b => mv.ownBlock = some b) w w') : Turn (wS X A M mv) w w' := h.mono fun _ e => wS_row e
theorem Turn.tab (h : Turn (fun k => k = A ∨ k = M) w w') : Turn (wS X A M mv) w w' := h.mono fun _ e => wS_tab e
theorem take_any (h : Wd B X A M mv st w) (k x y : Int) : Calls Try.prog 27 #[.pointer (some ⟨X, 0, none⟩), .int .i64 k, .int .i64 x, .int .i64 y] w fun e w' =>
    e = .returned (.int .i64 (terr st.d k x y)) ∧ Wd B X A M mv ⟨st.last, st.n, taken st.d k x y⟩ w' ∧ Turn (fun b => mv.ownBlock = some b) w w' := by
  cases hm : mt st.d k with
  | none =>
    rw [terr_none hm, taken_none hm]
    exact (take_none h k x y hm).mono (by rintro e w' ⟨rfl, rfl⟩; exact ⟨rfl, h, Turn.refl _⟩)
  | some m =>
    rw [terr_some hm, taken_some hm]
    exact take_some h k x y hm
theorem Wd.head1 (h : Wd B X A M mv st w) : w.cell? ⟨X, 0, none⟩ = some (.pointer (some ⟨A, 0, none⟩)) := h.facts.1
set_option maxRecDepth 100000 in
set_option maxHeartbeats 8000000 in
theorem Make_any (h : Wd B X A M mv st w) (n : T.Nd) (s : Value) (hS : ∀ W, E.Sees s n.es W) (hl : T.Fits n.es) (hd : n.data.size ≤ 2000000) (hlen : st.n.length < 1000000) (hlast : st.last < 1000000) :
    Calls Try.prog 60 #[.pointer (some ⟨X, 0, none⟩), n.v s] w fun e w' =>
    e = .returned (.tuple #[.int .i64 (make st n).2.1, .int .i64 (make st n).2.2]) ∧ Wd B X A M mv (make st n).1 w' ∧ Turn (wS X A M mv) w w' := by
  have hs : T.Slc s := by obtain ⟨oa, c, rfl, _⟩ := hS w; exact ⟨_, _, _, rfl⟩
  have cb := fun W => blocksOf_any n s hs hd W
  have hb1 : Below w.heap.size w (w.alloc (.cells #[.int .i64 n.no, .int .i64 n.dev, .int .i64 n.kind, .int .i64 n.mode, .int .i64 n.uid, .int .i64 n.gid, .int .i64 n.mt, .int .i64 n.ct, .int .i64 n.links, .int .i64 n.up, .string n.data, s] 71)) := (Below.refl _ _).alloc (Nat.le_refl _) _
  have D1 := T.BoxN.new n s w
  have H1 := h.below hb1
  have ct := fun W (hW : Wd B X A M mv st W) => take_any hW n.dev (blk n) 1
  have ca := fun W (hW : Wd B X A M mv ⟨st.last, st.n, taken st.d n.dev (blk n) 1⟩ W) => Add_st hW n s (hS W) hl hlen hlast
  have hne := fun (e : terr st.d n.dev (blk n) 1 ≠ 0) => taken_err e
  unfold make
  clear h hS hd hlen hlast hl
  generalize terr st.d n.dev (blk n) 1 = er at *
  generalize taken st.d n.dev (blk n) 1 = d2 at *
  generalize n.as (st.last + 1) = nn at *
  generalize blk n = z at *
  obtain ⟨last, ns, d⟩ := st
  obtain ⟨oa, m, c, rfl⟩ := hs
  obtain ⟨no, dev, kind, mode, uid, gid, mt, ct', links, up, data, es⟩ := n
  dsimp only [T.Nd.v] at *
  have HN := Lib.hid hne
  clear hne
  go_enter Try.func60, Try.ntmps60
  go_upto_region 1 with fail
  generalize w.alloc (.cells #[.int .i64 no, .int .i64 dev, .int .i64 kind, .int .i64 mode, .int .i64 uid, .int .i64 gid, .int .i64 mt, .int .i64 ct', .int .i64 links, .int .i64 up, .string data, .slice oa m c] 71) = W1 at D1 hb1 H1 ⊢
  have hdr : Below W1.heap.size W1 W1.drew := (Below.refl _ _).drew
  have D2 := D1.below hdr
  have H2 := H1.below hdr
  have hb2 := below_two hb1 hdr
  obtain ⟨b0, hbd⟩ : ∃ b, w.heap.size = b := ⟨_, rfl⟩
  rw [hbd] at D1 D2 hb1 hb2 ⊢
  have HB := Lib.hid hbd
  clear D1 hb1 H1 hdr hbd
  go_region_held3 (fun w' => w'.cell? ⟨b0, 0, none⟩ = some (.int .i64 no) ∧ w'.cell? ⟨b0, 1, none⟩ = some (.int .i64 dev) ∧ w'.cell? ⟨b0, 2, none⟩ = some (.int .i64 kind) ∧ w'.cell? ⟨b0, 3, none⟩ = some (.int .i64 mode) ∧
      w'.cell? ⟨b0, 4, none⟩ = some (.int .i64 uid) ∧ w'.cell? ⟨b0, 5, none⟩ = some (.int .i64 gid) ∧ w'.cell? ⟨b0, 6, none⟩ = some (.int .i64 mt) ∧ w'.cell? ⟨b0, 7, none⟩ = some (.int .i64 ct') ∧
      w'.cell? ⟨b0, 8, none⟩ = some (.int .i64 links) ∧ w'.cell? ⟨b0, 9, none⟩ = some (.int .i64 up) ∧ w'.cell? ⟨b0, 10, none⟩ = some (.string data) ∧ w'.cell? ⟨b0, 11, none⟩ = some (.slice oa m c))
    (with_reducible first | exact D4.facts | exact D3.facts | exact D2.facts)
    (first
      | (go_at_call 28; refine (cb _).mono ?_; rintro e w3 ⟨rfl, hb3⟩; have D3 := D2.below hb3; have H3 := H2.below hb3; have hb4 := hb2.trans (hb3.mono (Nat.le_of_lt D2.lt)))
      | (go_at_call 27; refine (ct _ H3).mono ?_; rintro e w4 ⟨rfl, H4, t4⟩; have D4 := box_turn D3 H3 t4.row (fun _ e => e)))
  have ht4 := (Turn.of_below (S := wS X A M mv) (w := w) (by rw [HB.out]; exact hb4)).trans t4.row
  clear D2 D3 H2 H3 hb2 hb3 hb4 cb ct t4
  by_cases he : er = 0
  · subst he
    have hdr : Below w4.heap.size w4 w4.drew := (Below.refl _ _).drew
    have D5 := D4.below hdr
    have H5 := H4.below hdr
    have ht5 := ht4.next hdr
    have x0 := H5.head1
    have ca5 := ca _ H5
    clear D4 H4 ht4 hdr ca
    go_upto_region 4 with fail
    go_region_held3 (fun w' => w'.cell? ⟨b0, 0, none⟩ = some (.int .i64 no) ∧ w'.cell? ⟨b0, 1, none⟩ = some (.int .i64 dev) ∧ w'.cell? ⟨b0, 2, none⟩ = some (.int .i64 kind) ∧ w'.cell? ⟨b0, 3, none⟩ = some (.int .i64 mode) ∧
        w'.cell? ⟨b0, 4, none⟩ = some (.int .i64 uid) ∧ w'.cell? ⟨b0, 5, none⟩ = some (.int .i64 gid) ∧ w'.cell? ⟨b0, 6, none⟩ = some (.int .i64 mt) ∧ w'.cell? ⟨b0, 7, none⟩ = some (.int .i64 ct') ∧
        w'.cell? ⟨b0, 8, none⟩ = some (.int .i64 links) ∧ w'.cell? ⟨b0, 9, none⟩ = some (.int .i64 up) ∧ w'.cell? ⟨b0, 10, none⟩ = some (.string data) ∧ w'.cell? ⟨b0, 11, none⟩ = some (.slice oa m c) ∧ w'.cell? ⟨X, 0, none⟩ = some (.pointer (some ⟨A, 0, none⟩)))
      (with_reducible first | exact and12 D6.facts H6.head1 | exact and12 D5.facts x0)
      (first | (go_at_call 79; refine ca5.mono ?_; rintro e w6 ⟨rfl, H6, t6⟩; have D6 := box_turn D5 H5 t6.tab (fun _ e => e)))
    go_wp2
    go_ret2
    exact ⟨rfl, H6, ht5.trans t6.tab⟩
  · go_wp2
    go_ret2
    obtain rfl := HN.out he
    exact ⟨rfl, H4, ht4⟩
end
end Go.Proofs.Ytmoimijclafgcaa.G
