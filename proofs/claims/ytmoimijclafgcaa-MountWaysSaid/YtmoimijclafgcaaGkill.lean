/-
  Kill.
-/
import Derived.Test.YtmoimijclafgcaaGmake
namespace Go.Proofs.Ytmoimijclafgcaa.G
open Go.RowKit Go.Shelf
attribute [local go_sem] Oper.semAt_some

theorem blk_range (n : T.Nd) (hd : n.data.size ≤ 2000000) : 0 ≤ blk n ∧ blk n ≤ 5000 := by
  unfold blk U.blk size
  have : (0 : Int) ≤ n.data.size := Int.natCast_nonneg _
  split
  · omega
  · split
    · split <;> omega
    · omega
theorem wrap_id {x : Int} (h0 : -9223372036854775808 ≤ x) (h1 : x ≤ 9223372036854775807) : IntKind.i64.wrap x = x := by
  simp [IntKind.wrap, IntKind.signed, IntKind.bits]; omega
section
variable {B X A M : Nat} {mv : Value} {st : St} {w w' : World}
set_option maxRecDepth 100000 in
set_option maxHeartbeats 8000000 in
theorem Kill_any (h : Wd B X A M mv st w) (k : Int) (hk : T.Wf k) (hd : (gets st.n k).data.size ≤ 2000000) (hl : st.d.length ≤ 1000000) :
    Calls Try.prog 8 #[.pointer (some ⟨X, 0, none⟩), .int .i64 k] w fun e w' =>
    e = .returned (.bool (kill st k).2) ∧ Wd B X A M mv (kill st k).1 w' ∧ Turn (wS X A M mv) w w' := by
  obtain ⟨r, hr⟩ : ∃ r, kill st k = r := ⟨_, rfl⟩
  rw [hr]
  unfold kill at hr
  have c1 := node_any h k hk
  have H := Lib.hid h
  have cr := fun W (hb : Below w.heap.size w W) => isRoot_any (h.below hb) hl k
  have cb := fun s (hs : T.Slc s) W => blocksOf_any (gets st.n k) s hs hd W
  have ct := fun W (hW : Wd B X A M mv st W) => take_any hW (gets st.n k).dev (-blk (gets st.n k)) (-1)
  have cd := fun W (hW : Wd B X A M mv ⟨st.last, st.n, taken st.d (gets st.n k).dev (-blk (gets st.n k)) (-1)⟩ W) => Drop_st hW k hk
  obtain ⟨z0, z1⟩ := blk_range _ hd
  have zw := wrap_id (x := -blk (gets st.n k)) (by omega) (by omega)
  obtain ⟨last, ns, d⟩ := st
  dsimp only at *
  clear h hd hl
  generalize isRoot d k = rr at *
  generalize terr d (gets ns k).dev (-blk (gets ns k)) (-1) = er at *
  generalize taken d (gets ns k).dev (-blk (gets ns k)) (-1) = d2 at *
  generalize blk (gets ns k) = z at *
  generalize hz : -z = zn at *
  generalize gets ns k = nd at *
  generalize dropN ns k = n2 at *
  generalize (get ns k).isSome = bb at *
  obtain ⟨no, dev, kind, mode, uid, gid, mt, ct', links, up, data, es⟩ := nd
  dsimp only [T.Nd.v] at *
  have hz' : IntKind.i64.wrap (-z) = zn := by rw [hz]; exact zw
  clear zw hz z0 z1
  have HR := Lib.hid hr
  clear hr
  go_enter Try.func8, Try.ntmps8
  go_upto_region 2 with (go_at_call 25; refine c1.mono ?_; rintro e w3 ⟨u, rfl, hO, hb3⟩; obtain ⟨ou, cu, rfl⟩ := T.own_slice hO; have D3 := T.BoxN.new ⟨no, dev, kind, mode, uid, gid, mt, ct', links, up, data, es⟩ (.slice ou es.length cu) w3)
  have hb4 : Below w.heap.size w (w3.alloc (.cells #[.int .i64 no, .int .i64 dev, .int .i64 kind, .int .i64 mode, .int .i64 uid, .int .i64 gid, .int .i64 mt, .int .i64 ct', .int .i64 links, .int .i64 up, .string data, .slice ou es.length cu] 71)) := hb3.alloc hb3.size _
  generalize w3.alloc (.cells #[.int .i64 no, .int .i64 dev, .int .i64 kind, .int .i64 mode, .int .i64 uid, .int .i64 gid, .int .i64 mt, .int .i64 ct', .int .i64 links, .int .i64 up, .string data, .slice ou es.length cu] 71) = W4 at D3 hb4 ⊢
  generalize w3.heap.size = b3 at D3 ⊢
  clear hb3 hO c1
  have H4 := H.out.below hb4
  have cr4 := cr W4 hb4
  have ht4 : Turn (wS X A M mv) w W4 := Turn.of_below hb4
  clear cr hb4 H
  cases bb with
  | false =>
    obtain rfl : (⟨last, ns, d⟩, false) = r := by have := HR.out; simpa using this
    go_wp2
    go_ret
    exact ⟨rfl, H4, ht4⟩
  | true =>
    cases rr with
    | true =>
      obtain rfl : (⟨last, ns, d⟩, false) = r := by have := HR.out; simpa using this
      go_wp2_with (go_at_call 26; refine cr4.mono ?_; rintro e w5 ⟨rfl, hb5⟩)
      go_ret
      exact ⟨rfl, H4.below hb5, ht4.next hb5⟩
    | false =>
      obtain rfl : (⟨last, n2, d2⟩, true) = r := by have := HR.out; simpa using this
      go_upto_region 4 with (go_at_call 26; refine cr4.mono ?_; rintro e w5 ⟨rfl, hb5⟩)
      have hdr : Below W4.heap.size W4 w5.drew := hb5.drew
      have D6 := D3.below hdr
      have H6 := H4.below hdr
      have ht6 := ht4.next hdr
      clear D3 H4 ht4 hdr hb5 cr4
      have cb' := cb (.slice ou es.length cu) ⟨_, _, _, rfl⟩
      go_region_held3 (fun w' => w'.cell? ⟨b3, 0, none⟩ = some (.int .i64 no) ∧ w'.cell? ⟨b3, 1, none⟩ = some (.int .i64 dev) ∧ w'.cell? ⟨b3, 2, none⟩ = some (.int .i64 kind) ∧ w'.cell? ⟨b3, 3, none⟩ = some (.int .i64 mode) ∧
          w'.cell? ⟨b3, 4, none⟩ = some (.int .i64 uid) ∧ w'.cell? ⟨b3, 5, none⟩ = some (.int .i64 gid) ∧ w'.cell? ⟨b3, 6, none⟩ = some (.int .i64 mt) ∧ w'.cell? ⟨b3, 7, none⟩ = some (.int .i64 ct') ∧
          w'.cell? ⟨b3, 8, none⟩ = some (.int .i64 links) ∧ w'.cell? ⟨b3, 9, none⟩ = some (.int .i64 up) ∧ w'.cell? ⟨b3, 10, none⟩ = some (.string data) ∧ w'.cell? ⟨b3, 11, none⟩ = some (.slice ou es.length cu))
        (with_reducible first | exact D8.facts | exact D7.facts | exact D6.facts)
        (first
          | (go_at_call 28; refine (cb' _).mono ?_; rintro e w7 ⟨rfl, hb7⟩; have D7 := D6.below hb7; have H7 := H6.below hb7)
          | (go_at_call 27; refine (ct _ H7).mono ?_; rintro e w8 ⟨rfl, H8, t8⟩; have D8 := box_turn D7 H7 t8.row (fun _ e => e)))
      have x0 := H8.head1
      have cd8 := cd _ H8
      go_wp2_with (go_at_call 29; refine cd8.mono ?_; rintro e w9 ⟨rfl, H9, t9⟩)
      go_ret
      exact ⟨rfl, H9, ((ht6.next hb7).trans t8.row).trans t9.tab⟩
end
end Go.Proofs.Ytmoimijclafgcaa.G
