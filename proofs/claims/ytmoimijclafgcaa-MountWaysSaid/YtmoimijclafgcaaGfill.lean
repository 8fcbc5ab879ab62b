/-
  Fill.
-/
import Derived.Test.YtmoimijclafgcaaGkill
namespace Go.Proofs.Ytmoimijclafgcaa.G
open Go.RowKit Go.Shelf
attribute [local go_sem] Oper.semAt_some

theorem box_set10 {b : Nat} {n : T.Nd} {s : Value} {w : World} (h : T.BoxN b n s w) (x : ByteArray) : T.BoxN b { n with data := x } s (w.setCell ⟨b, 10, none⟩ (.string x)) := by
  unfold T.BoxN at *
  simp [World.setCell, Array.getElem?_modify, h]
theorem box_entKept {b : Nat} {n : T.Nd} {s : Value} {w : World} (h : T.BoxN b n s w) (i : Nat) (u : Value) : T.EntKept w (w.setCell ⟨b, i, none⟩ u) := T.entKept_set h (by decide) i u
section
variable {B X A M : Nat} {mv : Value} {st : St} {w w' : World}
theorem Wd.fits (h : Wd B X A M mv st w) (k : Int) : T.Fits (gets st.n k).es := by
  obtain ⟨l, h1, h2⟩ := h.tab
  have := (h2.found_own k).2
  rw [found_fst, h1] at this
  exact this
set_option maxRecDepth 100000 in
set_option maxHeartbeats 8000000 in
theorem Fill_any (h : Wd B X A M mv st w) (k : Int) (x : ByteArray) (hk : T.Wf k) (hd : (gets st.n k).data.size ≤ 2000000) (hx : x.size ≤ 2000000) (hlen : st.n.length < 1000000) :
    Calls Try.prog 10 #[.pointer (some ⟨X, 0, none⟩), .int .i64 k, .string x] w fun e w' =>
    e = .returned (.int .i64 (fill st k x).2) ∧ Wd B X A M mv (fill st k x).1 w' ∧ Turn (wS X A M mv) w w' := by
  obtain ⟨r, hr⟩ : ∃ r, fill st k x = r := ⟨_, rfl⟩
  rw [hr]
  unfold fill at hr
  have c1 := node_any h k hk
  have H := Lib.hid h
  have cb := fun s (hs : T.Slc s) W => blocksOf_any (gets st.n k) s hs hd W
  have cb2 := fun s (hs : T.Slc s) W => blocksOf_any (filled st k x) s hs hx W
  have ct := fun W (hW : Wd B X A M mv st W) => take_any hW (gets st.n k).dev (blk (filled st k x) - blk (gets st.n k)) 0
  have hf := h.fits k
  have cs := fun W (hW : Wd B X A M mv ⟨st.last, st.n, taken st.d (gets st.n k).dev (blk (filled st k x) - blk (gets st.n k)) 0⟩ W) (hn : (gets st.n k).no = k) s (hS : E.Sees s (gets st.n k).es W) => Set_st hW (filled st k x) s hS hf (by show T.Wf (gets st.n k).no; rw [hn]; exact hk) hlen
  have hno : (get st.n k).isSome = true → (gets st.n k).no = k := fun e => by
    obtain ⟨y, hy⟩ := Option.isSome_iff_exists.1 e
    rw [gets_some hy]; exact (get_some hy).2
  have hne := fun (e : terr st.d (gets st.n k).dev (blk (filled st k x) - blk (gets st.n k)) 0 ≠ 0) => taken_err e
  obtain ⟨y0, y1⟩ := blk_range _ hd
  obtain ⟨z0, z1⟩ := blk_range (filled st k x) hx
  obtain ⟨last, ns, d⟩ := st
  unfold filled at *
  dsimp only at *
  clear h hd hx hlen hf
  generalize setN ns { gets ns k with data := x } = n2 at *
  generalize gets ns k = nd at *
  obtain ⟨no, dev, kind, mode, uid, gid, mt, ct', links, up, data, es⟩ := nd
  dsimp only [T.Nd.v] at *
  generalize (get ns k).isSome = bb at *
  generalize blk ⟨no, dev, kind, mode, uid, gid, mt, ct', links, up, x, es⟩ = z at *
  generalize blk ⟨no, dev, kind, mode, uid, gid, mt, ct', links, up, data, es⟩ = y at *
  have zw := wrap_id (x := z - y) (by omega) (by omega)
  clear y0 y1 z0 z1
  obtain ⟨zy, hzy⟩ : ∃ a, z - y = a := ⟨_, rfl⟩
  rw [hzy] at ct cs hne hr
  have zw' : IntKind.i64.wrap (z - y) = zy := by rw [← hzy]; exact zw
  clear hzy zw
  generalize terr d dev zy 0 = er at *
  generalize taken d dev zy 0 = d2 at *
  have HR := Lib.hid hr
  have HE := Lib.hid hne
  have HN := Lib.hid hno
  clear hr hne hno
  go_enter Try.func10, Try.ntmps10
  go_upto_region 2 with (go_at_call 25; refine c1.mono ?_; rintro e w3 ⟨u, rfl, hO, hb3⟩; obtain ⟨ou, cu, rfl⟩ := T.own_slice hO; have D3 := T.BoxN.new ⟨no, dev, kind, mode, uid, gid, mt, ct', links, up, data, es⟩ (.slice ou es.length cu) w3)
  have hO4 := T.own_kept hO (T.EntKept.below ((Below.refl w3.heap.size w3).alloc (Nat.le_refl _) (.cells #[.int .i64 no, .int .i64 dev, .int .i64 kind, .int .i64 mode, .int .i64 uid, .int .i64 gid, .int .i64 mt, .int .i64 ct', .int .i64 links, .int .i64 up, .string data, .slice ou es.length cu] 71)))
  have hb4 : Below w.heap.size w (w3.alloc (.cells #[.int .i64 no, .int .i64 dev, .int .i64 kind, .int .i64 mode, .int .i64 uid, .int .i64 gid, .int .i64 mt, .int .i64 ct', .int .i64 links, .int .i64 up, .string data, .slice ou es.length cu] 71)) := hb3.alloc hb3.size _
  generalize w3.alloc (.cells #[.int .i64 no, .int .i64 dev, .int .i64 kind, .int .i64 mode, .int .i64 uid, .int .i64 gid, .int .i64 mt, .int .i64 ct', .int .i64 links, .int .i64 up, .string data, .slice ou es.length cu] 71) = W4 at D3 hb4 hO4 ⊢
  have hlt : w.heap.size ≤ w3.heap.size := hb3.size
  generalize w3.heap.size = b3 at D3 hlt ⊢
  have H4 := H.out.below hb4
  clear c1 hO hb3
  cases bb with
  | false =>
    obtain rfl : (⟨last, ns, d⟩, 5) = r := by have := HR.out; simpa using this
    go_wp2
    go_ret
    exact ⟨rfl, H4, Turn.of_below hb4⟩
  | true =>
    obtain ⟨a0, a1, a2, a3, a4, a5, a6, a7, a8, a9, a10, a11⟩ := D3.facts
    have cb4 := cb (.slice ou es.length cu) ⟨_, _, _, rfl⟩
    have cb5 := cb2 (.slice ou es.length cu) ⟨_, _, _, rfl⟩
    clear cb cb2
    go_upto_region 5 with (go_at_call 28; refine (cb4 _).mono ?_; rintro e w5 ⟨rfl, hb5⟩)
    have D5 := D3.below hb5
    have hO5 := hO4.below hb5
    have hb6 := hb4.trans (hb5.mono (by have := hb4.size; exact this))
    clear a0 a1 a2 a3 a4 a5 a6 a7 a8 a9 a10 a11
    obtain ⟨a0, a1, a2, a3, a4, a5, a6, a7, a8, a9, a10, a11⟩ := D5.facts
    obtain ⟨f0, f1, f2, f3, f4, f5, f6, f7, f8, f9, f10, f11⟩ := D5.open
    go_upto_region 6 with fail
    have D6 := box_set10 D5 x
    have hO6 := T.own_kept hO5 (box_entKept D5 10 (.string x))
    have hb7 := hb6.setCell (p := ⟨b3, 10, none⟩) hlt (.string x)
    dsimp only at D6
    generalize w5.setCell ⟨b3, 10, none⟩ (.string x) = W6 at D6 hO6 hb7 ⊢
    have hdr : Below W6.heap.size W6 W6.drew := (Below.refl _ _).drew
    have D7 := D6.below hdr
    have H7 := (H.out.below hb7).below hdr
    have hO7 := hO6.below hdr
    have hb8 := below_two hb7 hdr
    clear D3 D5 D6 hO4 hO5 hO6 H4 hb4 hb5 hb6 hb7 hdr cb4 a0 a1 a2 a3 a4 a5 a6 a7 a8 a9 a10 a11 f0 f1 f2 f3 f4 f5 f6 f7 f8 f9 f10 f11
    go_region_held3 (fun w' => w'.cell? ⟨b3, 0, none⟩ = some (.int .i64 no) ∧ w'.cell? ⟨b3, 1, none⟩ = some (.int .i64 dev) ∧ w'.cell? ⟨b3, 2, none⟩ = some (.int .i64 kind) ∧ w'.cell? ⟨b3, 3, none⟩ = some (.int .i64 mode) ∧
        w'.cell? ⟨b3, 4, none⟩ = some (.int .i64 uid) ∧ w'.cell? ⟨b3, 5, none⟩ = some (.int .i64 gid) ∧ w'.cell? ⟨b3, 6, none⟩ = some (.int .i64 mt) ∧ w'.cell? ⟨b3, 7, none⟩ = some (.int .i64 ct') ∧
        w'.cell? ⟨b3, 8, none⟩ = some (.int .i64 links) ∧ w'.cell? ⟨b3, 9, none⟩ = some (.int .i64 up) ∧ w'.cell? ⟨b3, 10, none⟩ = some (.string x) ∧ w'.cell? ⟨b3, 11, none⟩ = some (.slice ou es.length cu))
      (with_reducible first | exact D9.facts | exact D8.facts | exact D7.facts)
      (first
        | (go_at_call 28; refine (cb5 _).mono ?_; rintro e w8 ⟨rfl, hb9⟩; have D8 := D7.below hb9; have H8 := H7.below hb9; have hO8 := hO7.below hb9)
        | (go_at_call 27; refine (ct _ H8).mono ?_; rintro e w9 ⟨rfl, H9, t9⟩; have D9 := box_turn D8 H8 t9.row (fun _ e => e); have hO9 := T.own_kept hO8 (H8.entKept t9.row)))
    have ht := (Turn.of_below (S := wS X A M mv) (below_two hb8 hb9)).trans t9.row
    clear D7 D8 H7 H8 hO7 hO8 hb8 hb9 cb5 ct t9
    by_cases he : er = 0
    · subst he
      obtain rfl : (⟨last, n2, d2⟩, 0) = r := by have := HR.out; simpa using this
      have hdr : Below w9.heap.size w9 w9.drew := (Below.refl _ _).drew
      have D10 := D9.below hdr
      have H10 := H9.below hdr
      have ht10 := ht.next hdr
      have cs10 := cs _ H10 (HN.out trivial) _ (hO9.below hdr).sees
      have x0 := H10.head1
      clear cs D9 H9 ht hO9 hdr
      go_upto_region 9 with fail
      go_region_held3 (fun w' => w'.cell? ⟨b3, 0, none⟩ = some (.int .i64 no) ∧ w'.cell? ⟨b3, 1, none⟩ = some (.int .i64 dev) ∧ w'.cell? ⟨b3, 2, none⟩ = some (.int .i64 kind) ∧ w'.cell? ⟨b3, 3, none⟩ = some (.int .i64 mode) ∧
          w'.cell? ⟨b3, 4, none⟩ = some (.int .i64 uid) ∧ w'.cell? ⟨b3, 5, none⟩ = some (.int .i64 gid) ∧ w'.cell? ⟨b3, 6, none⟩ = some (.int .i64 mt) ∧ w'.cell? ⟨b3, 7, none⟩ = some (.int .i64 ct') ∧
          w'.cell? ⟨b3, 8, none⟩ = some (.int .i64 links) ∧ w'.cell? ⟨b3, 9, none⟩ = some (.int .i64 up) ∧ w'.cell? ⟨b3, 10, none⟩ = some (.string x) ∧ w'.cell? ⟨b3, 11, none⟩ = some (.slice ou es.length cu) ∧ w'.cell? ⟨X, 0, none⟩ = some (.pointer (some ⟨A, 0, none⟩)))
        (with_reducible first | exact and12 D11.facts H11.head1 | exact and12 D10.facts x0)
        (first | (go_at_call 35; refine cs10.mono ?_; rintro e w11 ⟨rfl, H11, t11⟩; have D11 := box_turn D10 H10 t11.tab (fun _ e => e)))
      go_wp2
      go_ret
      exact ⟨rfl, H11, ht10.trans t11.tab⟩
    · obtain rfl : (⟨last, ns, d⟩, er) = r := by have := HR.out; simpa [he] using this
      go_wp2
      go_ret
      obtain rfl := HE.out he
      exact ⟨rfl, H9, ht⟩
end
end Go.Proofs.Ytmoimijclafgcaa.G
