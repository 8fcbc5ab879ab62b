/-
  The reference's List.
-/
import Derived.Test.YtjkopgdbkmbnmaaRopen
import Derived.Test.YtjkopgdbkmbnmaaPstep
namespace Go.Proofs.Ytjkopgdbkmbnmaa.P
open Go.RowKit Go.Shelf G
attribute [local go_sem] Oper.semAt_some

theorem shown_take {st : St} {l : List E.Ent} {k : Nat} {x : E.Ent} (h : l[k]? = some x) : shown st (l.take (k + 1)) = shown st (l.take k) ++ [⟨x.name, over st.d x.no⟩] := by
  unfold shown
  rw [List.take_add_one, h]
  simp
section
variable {BB F : Nat} {nv dv : Value} {st : St} {w : World}
theorem nd_few (hI : Inv st) (e k : Int) : (onlyIf e (gets st.n k)).es.length ≤ 100000 := by
  by_cases h : e = 0
  · rw [h]; exact K.gets_few hI k
  · rw [only_err h]; decide
set_option maxRecDepth 100000 in
set_option maxHeartbeats 16000000 in
theorem refList_any (hI : Inv st) (hF : Fs BB F nv dv st w) (hl : st.n.length ≤ 1000000) (hdl : st.d.length ≤ 1000000) (cu cg k : Int) :
    Calls Try.prog 11 #[.pointer (some ⟨F, 0, none⟩), .agg #[.int .i64 cu, .int .i64 cg], .int .i64 k] w fun e w' =>
      ∃ u, e = .returned (.tuple #[u, .int .i64 (dirE st cu cg k 4)]) ∧ E.Own w.heap.size u (shown st (onlyIf (dirE st cu cg k 4) (gets st.n k)).es) w' ∧ Below w.heap.size w w' := by
  obtain ⟨i0, hi0, hz0, hz1, hz2⟩ := E.info_parts E.infoE
  have hb1 : Below w.heap.size w (w.alloc (.cells #[.int .i64 cu, .int .i64 cg] 24)) := (Below.refl _ _).alloc (Nat.le_refl _) _
  have C1 := CrBox.new cu cg w
  have co := refOpen_any hI (hF.below hb1) hl cu cg k 1 4
  rw [open_dir] at co
  have cv := fun W (hb : Below w.heap.size w W) no => refOver_any (hF.below hb) no hdl
  have hov : ∀ no, refOver st.d no = over st.d no := fun no => (hI.over_raw no).symm
  simp only [hov] at cv
  have hfew := nd_few hI (dirE st cu cg k 4) k
  generalize onlyIf (dirE st cu cg k 4) (gets st.n k) = nd at *
  generalize dirE st cu cg k 4 = de at *
  obtain ⟨no, dev, kind, mode, uid, gid, mt, ct, links, up, data, es⟩ := nd
  dsimp only [T.Nd.v] at co
  clear hF hov
  go_enter Try.func11, Try.ntmps11
  go_upto_region 1 with fail
  generalize w.alloc (.cells #[.int .i64 cu, .int .i64 cg] 24) = W1 at *
  obtain ⟨k0, k1⟩ := C1.facts
  go_upto_region 2 with (go_at_call 28; refine co.mono ?_; rintro e W2 ⟨u, rfl, hO2, hb2⟩; obtain ⟨ou, cu', rfl⟩ := T.own_slice hO2; have N2 := T.BoxN.new ⟨no, dev, kind, mode, uid, gid, mt, ct, links, up, data, es⟩ (.slice ou es.length cu') W2)
  have hal : Below W2.heap.size W2 (W2.alloc (.cells #[.int .i64 no, .int .i64 dev, .int .i64 kind, .int .i64 mode, .int .i64 uid, .int .i64 gid, .int .i64 mt, .int .i64 ct, .int .i64 links, .int .i64 up, .string data, .slice ou es.length cu'] 70)) := (Below.refl _ _).alloc (Nat.le_refl _) _
  have hO3 := T.own_kept hO2 (T.EntKept.below hal)
  have hb3 := below_two (below_two hb1 hb2) hal
  generalize W2.alloc (.cells #[.int .i64 no, .int .i64 dev, .int .i64 kind, .int .i64 mode, .int .i64 uid, .int .i64 gid, .int .i64 mt, .int .i64 ct, .int .i64 links, .int .i64 up, .string data, .slice ou es.length cu'] 70) = W3 at *
  generalize W2.heap.size = b2 at *
  clear hal hb1 hb2 hO2 k0 k1 co C1
  have hlt := N2.lt
  have m11 := N2.facts.2.2.2.2.2.2.2.2.2.2.2
  obtain ⟨_, _, hsl, hm, hcells⟩ := hO3.sees
  cases hsl
  have HC := Lib.hid hcells
  have HB := Lib.hid hb3
  clear hcells hO3 N2
  go_wp2
  go_loopw [10, 11] (fun u i wr => ∃ j : Nat, i = .int .i64 j ∧ j ≤ es.length ∧ E.Own W3.heap.size u (shown st (es.take j)) wr ∧ Below W3.heap.size W3 wr) (fun _ i _ => es.length - (RowKit.intOf i).toNat)
  case atStart => exact ⟨0, rfl, Nat.zero_le _, E.Own.nil _ _, Below.refl _ _⟩
  case round =>
    obtain ⟨j, rfl, hj, hO, hb⟩ := hrel
    have r11 := (hb.cell (p := ⟨b2, 11, none⟩) hlt).trans m11
    by_cases hjl : j < es.length
    · obtain ⟨x, hx⟩ : ∃ x, es[j]? = some x := ⟨_, List.getElem?_eq_getElem hjl⟩
      obtain ⟨g, o, rfl, h0, h1⟩ := HC.out j x hx
      have hg := World.block_lt_of_cell? _ _ h0
      have HS := Lib.hid (shown_take (st := st) hx)
      have d0 := (hb.cell (p := ⟨g, o + j * 2, none⟩) hg).trans h0
      have d1 := (hb.cell (p := ⟨g, o + j * 2 + 1, none⟩) hg).trans h1
      have hlen := shown_len st (es.take j)
      rw [List.length_take] at hlen
      have hsz := hb.size
      have cv1 := cv wr.drew (HB.out.trans ((hb.drew).mono HB.out.size)) x.no
      clear h0 h1 hx cv
      unfold E.Own at hO
      generalize shown st (es.take j) = ds at HS hO hlen
      generalize over st.d x.no = y at *
      go_upto_region 6 with fail
      go_region_law (first
        | (refine step_call2 rfl 29 Try.func29 (by kernel_rfl) rfl (.tmp 33) (.tmp 39) 28 3 rfl (.pointer (some ⟨F, 0, none⟩)) (.int .i64 x.no) (by first | rfl | simp [Act.eval, Act.put]) (by first | rfl | simp [Act.eval, Act.put]) cv1 ?_; rintro e w2 ⟨rfl, rfl⟩; refine ⟨_, rfl, ?_⟩)
        | (refine step_append_own rfl (.tmp 26) (.tmp 42) 43 rfl W3.heap.size 61 i0 (.agg #[.string ⟨#[]⟩, .int .i64 0]) 2 24 Try.underlying43 hi0 hz0 hz1 hz2 rfl (by decide) _ _ _ (by first | rfl | simp [Act.eval, Act.put]) (hO.drew.alloc _) ⟨wr.heap.size, 0, none⟩ 1 1 [.string ⟨x.name.toArray⟩, .int .i64 y] (by first | rfl | simp [Act.eval, Act.put]) rfl (E.cell_two_new _ _ _ _) (E.enc_one ⟨x.name, y⟩) (by unfold maxLen; omega) (by omega) (by simp; omega) ?_; intro v' w1 hown' hgrow))
      all_goals
        go_wp2
        go_roundw
        case rel => exact ⟨j + 1, by go_num, by omega, by rw [HS.out]; exact E.Own.snoc hown', ((hb.drew).alloc (by have := hb.size; simp; omega) _).grown hgrow (by have := hb.size; simp; omega) (fun k hk => (hO.lt k hk).1)⟩
        case measure => simp [RowKit.intOf]; omega
    · have hall : es.take j = es := List.take_of_length_le (by omega)
      rw [hall] at hO
      have HO := Lib.hid hO
      clear hO cv
      go_wp2
      go_ret2
      exact ⟨_, rfl, HO.out.mono (HB.out.size), HB.out.trans (hb.mono HB.out.size)⟩
end
end Go.Proofs.Ytjkopgdbkmbnmaa.P
