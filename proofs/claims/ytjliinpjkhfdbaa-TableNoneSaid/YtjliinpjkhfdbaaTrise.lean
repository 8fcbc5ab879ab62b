/-
  table.rising: the nodes in the order of their numbers; table.All.
-/
import Derived.Test.YtjliinpjkhfdbaaTrows
namespace Go.Proofs.Ytjliinpjkhfdbaa.T
open Go.RowKit Go.Shelf Go.Maps Go.Sort

theorem apart_rows {w : World} {B1 B2 : Nat} {e1 e2 : TypeId} {s1 s2 n1 n2 : Nat} {v1 v2 : Value} {xs1 xs2 : List Value} (h1 : w.ownsRow B1 e1 s1 v1 n1 xs1) (h2 : w.ownsRow B2 e2 s2 v2 n2 xs2) (hne : e1 ≠ e2) : v1.ownBlock = none ∨ v1.ownBlock ≠ v2.ownBlock := by
  rcases h1.2 with ⟨rfl, _⟩ | ⟨g, cap, cur, rfl, _, hg, _⟩
  · exact .inl rfl
  · refine .inr fun e => ?_
    rcases h2.2 with ⟨rfl, _⟩ | ⟨g', cap', cur', rfl, _, hg', _⟩
    · simp [Value.ownBlock] at e
    · obtain rfl : g = g' := by simpa [Value.ownBlock] using e
      rw [hg] at hg'
      simp at hg'
      exact hne hg'.2
theorem ints_form {w : World} {B n : Nat} {v : Value} {xs : List Int} (h : w.ownsRow B 3 1 v n (xs.map encZ)) : ∃ oi ci, v = .slice oi n ci := by
  rcases h.2 with ⟨rfl, rfl⟩ | ⟨g, cap, cur, rfl, _⟩
  · exact ⟨_, _, rfl⟩
  · exact ⟨_, _, rfl⟩
theorem ints_at {w : World} {B n ci : Nat} {oi : Option Addr} {xs : List Int} (h : w.ownsRow B 3 1 (.slice oi n ci) n (xs.map encZ)) {k : Nat} {x : Int} (hk : xs[k]? = some x) : ∃ g o, oi = some ⟨g, o, none⟩ ∧ w.cell? ⟨g, o + k, none⟩ = some (.int .i64 x) := by
  have hlt : k < xs.length := (List.getElem?_eq_some_iff.1 hk).1
  have hl : xs.length = n := by have := h.1; simpa using this
  rcases h.2 with ⟨_, h2⟩ | ⟨g, cap, cur, h1, _⟩
  · omega
  · cases h1
    refine ⟨g, 0, rfl, ?_⟩
    rw [Nat.zero_add, World.ownsRow.cellAt h k (by omega)]
    simp [hk]
theorem take_next {l : Row} {k : Nat} {p : Nd × Value} (h : l[k]? = some p) : l.take (k + 1) = l.take k ++ [p] := by rw [List.take_add_one, h]; rfl
theorem nos_at {l : Row} {k : Nat} {p : Nd × Value} (h : l[k]? = some p) : (nos l)[k]? = some p.1.no := by unfold nos; rw [List.getElem?_map, h]; rfl
theorem found_at {l : Row} (hr : Rise l) {k : Nat} {p : Nd × Value} (h : l[k]? = some p) : found l p.1.no = p := by unfold found; rw [look_at hr h]

set_option maxRecDepth 100000 in
set_option maxHeartbeats 8000000 in
theorem rising_any {B T M : Nat} {last : Int} {l : Row} {w : World} (h : Tab B T M last l w) (hlen : l.length < 1000000) (hlast : last < 1000000) :
    Calls Try.prog 21 #[.pointer (some ⟨T, 0, none⟩)] w fun e w' => ∃ u, e = .returned u ∧ RowOwn w.heap.size u l w' ∧ Below w.heap.size w w' := by
  obtain ⟨i0, hi, hz0, hz1, hz2⟩ := E.info_parts infoN
  have HT := Lib.hid h
  have c1 := kept_any T (some M) w h.facts.1
  have hs := size_DD l
  have hmap := h.map
  clear h
  go_enter Try.func21, Try.ntmps21
  go_upto_region 3 with (first
    | (refine c1.mono ?_; rintro e w1 ⟨rfl, rfl⟩)
    | (at_len; refine wpList_len_own _ rfl _ 44 rfl 3 29 Try.underlying44 _ M _ _ rfl hmap ?_)
    | (at_make; refine wpList_make_own _ rfl _ _ 26 rfl w.heap.size 29 i0 (.agg #[.int .i64 0, .int .i64 0, .int .i64 0, .int .i64 0, .int .i64 0, .int .i64 0, .int .i64 0, .int .i64 0, .int .i64 0, .int .i64 0, .string ⟨#[]⟩, .slice none 0 0]) 12 Try.underlying26 hi hz0 hz1 .i64 .i64 _ l.length rfl rfl (by first | rfl | rw [hs]) (by rw [hz2]; omega) (by unfold maxLen; omega) (Nat.le_refl _) ?_; intro w1 hown hgrow))
  have hb1 : Below w.heap.size w w1 := ⟨hgrow.os, hgrow.tape, hgrow.output, hgrow.size, fun j hj => hgrow.block j hj (by simp)⟩
  have hO1 : RowOwn w.heap.size (.slice (some ⟨w.heap.size, 0, none⟩) 0 l.length) [] w1 := hown
  generalize Value.slice (some ⟨w.heap.size, 0, none⟩) 0 l.length = u1 at hO1 ⊢
  have hT1 := HT.out.below hb1
  have hK := Keys_any (some M) w1
  have hb2 : Below w1.heap.size w1 (w1.alloc (.cells #[.map (some M)] 44)) := (Below.refl _ _).alloc (Nat.le_refl _) _
  have hc2 : (w1.alloc (.cells #[.map (some M)] 44)).cell? ⟨w1.heap.size, 0, none⟩ = some (.map (some M)) := by rw [World.cell?_alloc_new]; rfl
  have hz2' : w1.heap.size < (w1.alloc (.cells #[.map (some M)] 44)).heap.size := by simp
  have hS := Sorted_any (hT1.below hb2).map hT1.rise hlen w1.heap.size hz2' hc2
  have hO2 := hO1.below hb2
  have hb12 := below_two hb1 hb2
  clear hown hgrow c1 hmap hs hT1 hO1 hc2 hz2'
  go_wp2_with (first
    | (go_at_call 24; refine hK.mono ?_; rintro e w2 ⟨rfl, rfl⟩)
    | (go_at_call 23; refine hS.mono ?_; rintro e w3 ⟨v, rfl, hI, hb3⟩; obtain ⟨oi, ci, rfl⟩ := ints_form hI))
  have hO3 := hO2.below hb3
  have hb13 := hb12.trans (hb3.mono hb12.size)
  have hI3 : w3.ownsRow w.heap.size 3 1 (.slice oi l.length ci) l.length ((nos l).map encZ) := by
    refine ⟨hI.1, hI.2.imp id ?_⟩
    rintro ⟨g, cap, cur, h1, h2, h3⟩
    exact ⟨g, cap, cur, h1, Nat.le_trans hb12.size h2, h3⟩
  clear hI hb3 hS hK hO2 hb12 hb2 hb1
  have HO3 := Lib.hid hO3; have HI3 := Lib.hid hI3; have HB3 := Lib.hid hb13
  clear hO3 hI3 hb13
  go_loopw [4, 16] (fun u i wr => ∃ k : Nat, k ≤ l.length ∧ i = .int .i64 k ∧ RowOwn w.heap.size u (l.take k) wr ∧ wr.ownsRow w.heap.size 3 1 (.slice oi l.length ci) l.length ((nos l).map encZ) ∧ Below w.heap.size w wr) (fun _ i _ => l.length - (intOf i).toNat)
  case atStart => exact ⟨0, Nat.zero_le _, rfl, HO3.out, HI3.out, HB3.out⟩
  case round =>
    obtain ⟨k, hk, rfl, hO, hI, hb⟩ := hrel
    by_cases hlt : k < l.length
    · obtain ⟨p, hp⟩ : ∃ p, l[k]? = some p := ⟨_, List.getElem?_eq_getElem hlt⟩
      obtain ⟨g, o, rfl, d0⟩ := ints_at hI (nos_at hp)
      have hT := HT.out.below hb
      have hgv := hT.given p (List.mem_of_getElem? hp)
      have hf := hT.finds1 (k := p.1.no) (wf_of (by omega) (by omega))
      rw [found_at hT.rise hp] at hf
      obtain ⟨oa, c, hsl⟩ := own_slice (hT.ents p (List.mem_of_getElem? hp))
      have HN := Lib.hid (take_next hp)
      have HO := Lib.hid hO; have HI := Lib.hid hI
      obtain ⟨⟨no, dev, kind, mode, uid, gid, mt, ct, links, up, data, es⟩, s⟩ := p
      dsimp only at hsl d0 hf
      subst hsl
      dsimp only [Nd.v] at hf
      clear hp hT hgv hO hI
      have hlk : (l.take k).length = k := by rw [List.length_take]; omega
      have hfl := cs_one ⟨no, dev, kind, mode, uid, gid, mt, ct, links, up, data, es⟩ (s := .slice oa es.length c) ⟨_, _, _, rfl⟩
      have hOk := HO.out
      unfold RowOwn at hOk
      rw [hlk] at hOk
      go_wp2_with (at_builtin; refine wpList_append_own _ rfl _ _ 26 rfl w.heap.size 29 i0 (.agg #[.int .i64 0, .int .i64 0, .int .i64 0, .int .i64 0, .int .i64 0, .int .i64 0, .int .i64 0, .int .i64 0, .int .i64 0, .int .i64 0, .string ⟨#[]⟩, .slice none 0 0]) 12 120 Try.underlying26 hi hz0 hz1 hz2 rfl (by decide) _ _ _ rfl (hOk.alloc _) ⟨wr.heap.size, 0, none⟩ 1 1 (Nd.cs ⟨no, dev, kind, mode, uid, gid, mt, ct, links, up, data, es⟩ (.slice oa es.length c)) rfl rfl (cell_new _ _ _ _) hfl (by unfold maxLen; omega) (by omega) (by have := hb.size; simp; omega) ?_; intro v' w4 hown' hgrow _)
      have HO' := Lib.hid hown'
      clear hown'
      have hI4 := (HI.out.alloc (.cells #[.int .i64 no, .int .i64 dev, .int .i64 kind, .int .i64 mode, .int .i64 uid, .int .i64 gid, .int .i64 mt, .int .i64 ct, .int .i64 links, .int .i64 up, .string data, .slice oa es.length c] 29)).kept hgrow (apart_rows HI.out hOk (by decide))
      have hb4 := (hb.alloc hb.size (.cells #[.int .i64 no, .int .i64 dev, .int .i64 kind, .int .i64 mode, .int .i64 uid, .int .i64 gid, .int .i64 mt, .int .i64 ct, .int .i64 links, .int .i64 up, .string data, .slice oa es.length c] 29)).grown hgrow (by have := hb.size; simp; omega) (fun k hk => (hOk.lt k hk).1)
      have HI4 := Lib.hid hI4; have HB4 := Lib.hid hb4
      clear hI4 hb4 hgrow hOk
      go_roundw
      case rel => exact ⟨k + 1, by omega, by go_num, by rw [HN.out]; refine RowOwn.snoc ?_; rw [hlk]; exact HO'.out, HI4.out, HB4.out⟩
      case measure => simp [intOf]; omega
    · have hall : l.take k = l := List.take_of_length_le (by omega)
      rw [hall] at hO
      have HO := Lib.hid hO; have HI := Lib.hid hI
      clear hO hI
      go_wp2
      go_ret
      exact ⟨_, rfl, HO.out, hb⟩

theorem Boxed.below {W W' : World} {B : Nat} {t : TypeId} {v : Value} (h : Boxed W B t v) (hb : Below W.heap.size W W') : Boxed W' B t v := (hb.block B h.lt).trans h
set_option maxHeartbeats 4000000 in
/-- what All answers: a function over a box that holds the nodes in their order -/
theorem All_any {B T M : Nat} {last : Int} {l : Row} {w : World} (h : Tab B T M last l w) (hlen : l.length < 1000000) (hlast : last < 1000000) :
    Calls Try.prog 19 #[.pointer (some ⟨T, 0, none⟩)] w fun e w' => ∃ b u, e = .returned (.func (.func 22) #[] #[.pointer (some ⟨b, 0, none⟩)]) ∧ Boxed w' b 26 u ∧ w.heap.size ≤ b ∧ RowOwn w.heap.size u l w' ∧ Below w.heap.size w w' := by
  have cc := rising_any h hlen hlast
  clear h
  go_enter Try.func19, Try.ntmps19
  go_wp2_with (go_at_call 21; refine cc.mono ?_; rintro e w1 ⟨u, rfl, hO, hb⟩; have hs := hO.sees; have HO := Lib.hid hO; clear hO; obtain ⟨ou, cu, rfl, _⟩ := hs)
  go_ret
  have hb2 : Below w1.heap.size w1 (w1.alloc (.cells #[.slice ou l.length cu] 26)) := (Below.refl _ _).alloc (Nat.le_refl _) _
  exact ⟨w1.heap.size, _, rfl, Boxed.new _ _ _, hb.size, HO.out.below hb2, below_two hb hb2⟩
end Go.Proofs.Ytjliinpjkhfdbaa.T
