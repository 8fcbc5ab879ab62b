/-
  The walk of SizesPlays: sizes.joined, BinarySearchFunc at a row that is only read, place, around, Drop, Put, Find, and the law.
-/
import Derived.Test.YtolobnokpmbajaaDoorZtell
import Derived.Test.YtolobnokpmbajaaDoorZrput
import Derived.Laws.CopyRow
import Derived.Laws.CopyOwn
import Derived.BigRegion
namespace Go.Proofs.YtolobnokpmbajaaDoor.Z
open Go.RowKit Go.Shelf

theorem flat_app (a b : List Line) : flat (a ++ b) = flat a ++ flat b := by simp [flat]
theorem size30 : (Tryd.prog.info? 30).map (·.size) = some 3 := by kernel_rfl
theorem flat_one (ls : List Line) : ∀ u ∈ flat ls, u.oneCell' = true := by
  intro u hu
  obtain ⟨x, _, h⟩ := List.mem_flatMap.1 hu
  exact enc_one x u h
theorem sees_flat {a : Addr} {cap : Nat} {ls : List Line} {w : World} (h : Sees (.slice (some a) ls.length cap) ls w) : ∀ j v, (flat ls)[j]? = some v → w.cell? (a.add j) = some v := by
  intro j v hv
  have hj : j < ls.length * 3 := by have := (List.getElem?_eq_some_iff.1 hv).1; rwa [flat_len] at this
  obtain ⟨oa, cap', he, hc⟩ := h
  cases he
  have hq : j / 3 < ls.length := by omega
  obtain ⟨x, hx⟩ : ∃ x, ls[j / 3]? = some x := ⟨_, List.getElem?_eq_getElem hq⟩
  obtain ⟨g, o, ha, h0, h1, h2⟩ := hc _ x hx
  cases ha
  have hf := flat_at ls (j / 3) x (j % 3) hx (Nat.mod_lt _ (by decide))
  rw [show j / 3 * 3 + j % 3 = j by omega, hv] at hf
  rw [Q.add_plain0]
  have h3 : j % 3 = 0 ∨ j % 3 = 1 ∨ j % 3 = 2 := by omega
  rcases h3 with e | e | e
  · rw [e] at hf; rw [show o + j = o + j / 3 * 3 by omega, h0]; exact hf.symm ▸ rfl
  · rw [e] at hf; rw [show o + j = o + j / 3 * 3 + 1 by omega, h1]; exact hf.symm ▸ rfl
  · rw [e] at hf; rw [show o + j = o + j / 3 * 3 + 2 by omega, h2]; exact hf.symm ▸ rfl
theorem run_copy3 (w : World) (ty : TypeId) (g o dLen dCap : Nat) (oa : Option Addr) (ls : List Line) (cap : Nat) (cur : Array Value) (hR : Sees (.slice oa ls.length cap) ls w) (hg : w.heap[g]? = some (.cells cur 30 (0, 0)))
    (hle : ls.length ≤ dLen) (hfit : o + ls.length * 3 ≤ cur.size) :
    (Builtin.copy_ #[22, 22] ty #[.slice (some ⟨g, o, none⟩) dLen dCap, .slice oa ls.length cap]).run Tryd.prog w = .ok (goInt ls.length) (w.setRow g (cur.toList.take o ++ flat ls ++ cur.toList.drop (o + ls.length * 3)).toArray) := by
  obtain ⟨i, hq, hi⟩ := Option.map_eq_some_iff.1 size30
  have hmin : Nat.min ls.length dLen = ls.length := Nat.min_eq_left hle
  have hst := run_storeCells_at Tryd.prog g o 30 (flat ls) 0 cur w hg (by rw [flat_len]; simpa using hfit) (flat_one ls)
  rw [flat_len] at hst
  cases oa with
  | none =>
    have h0 : ls = [] := by
      cases ls with
      | nil => rfl
      | cons x l =>
        obtain ⟨oa, cap', he, hc⟩ := hR
        cases he
        obtain ⟨g', o', ha, _⟩ := hc 0 x rfl
        cases ha
    subst h0
    have hl : ([] : List Value) = flat [] := rfl
    simp [Builtin.copy_, run_underlying Tryd.underlying22, Builtin.lenOf, Builtin.firstCells, sizeOf, typeInfo, hq, storeCells, flat]
    rw [setRow_self w g cur 30 (0, 0) hg]
  | some a =>
    have hl := run_loadCells_list (P := Tryd.prog) w a (flat ls) (sees_flat hR)
    rw [flat_len] at hl
    simp [Builtin.copy_, run_underlying Tryd.underlying22, Builtin.lenOf, Builtin.firstCells, sizeOf, typeInfo, hq, hi, hmin, hl, hst]

/-- a list of slices in memory, and what each shows -/
structure Lists (q : Nat) (vs : List (Value × List Line)) (w : World) : Prop where
  cell : ∀ k p, vs[k]? = some p → w.cell? ⟨q, k, none⟩ = some p.1
  sees : ∀ p ∈ vs, Sees p.1 p.2 w
def cat (vs : List (Value × List Line)) : List Line := vs.flatMap (·.2)
theorem cat_take {vs : List (Value × List Line)} {k : Nat} {p : Value × List Line} (h : vs[k]? = some p) : cat (vs.take (k + 1)) = cat (vs.take k) ++ p.2 := by
  rw [List.take_add_one, h]; simp [cat]
theorem cat_le (vs : List (Value × List Line)) (k : Nat) : (cat (vs.take k)).length ≤ (cat vs).length := by
  have : cat vs = cat (vs.take k) ++ cat (vs.drop k) := by
    unfold cat; rw [← List.flatMap_append, List.take_append_drop]
  rw [this, List.length_append]; omega
end Go.Proofs.YtolobnokpmbajaaDoor.Z
namespace Go.Proofs.YtolobnokpmbajaaDoor.Z
open Go.RowKit Go.Shelf

theorem sees_kept {v : Value} {ls : List Line} {w w' : World} {n : Nat} (h : Sees v ls w) (hn : w.heap.size ≤ n) (hb : Below n w w') : Sees v ls w' := h.below (hb.mono hn)
/-- behind some lists: what the new row holds, and what is left of it -/
structure Mid (g n r : Nat) (L : List Line) (rest : Value) (W : World) : Prop where
  row : ∃ cur : Array Value, W.heap[g]? = some (.cells cur 30 (0, 0)) ∧ cur.size = n * 3 ∧ cur.toList.take (L.length * 3) = flat L
  len : L.length + r = n
  rest : ∃ o, rest = .slice (some ⟨g, o, none⟩) r r ∧ o ≤ n * 3 ∧ (0 < r → o = L.length * 3)
theorem take_splice {l m : List Value} {L M : List Line} (h : l.take (L.length * 3) = flat L) (hm : m = l.take (L.length * 3) ++ flat M ++ l.drop (L.length * 3 + M.length * 3)) : m.take ((L ++ M).length * 3) = flat (L ++ M) := by
  rw [hm, h, flat_app, List.length_append, Nat.add_mul]
  rw [show L.length * 3 + M.length * 3 = (flat L ++ flat M).length by rw [List.length_append, flat_len, flat_len], List.take_left]

set_option maxRecDepth 100000 in
set_option maxHeartbeats 4000000 in
theorem joined_any (q m cap : Nat) (vs : List (Value × List Line)) (w : World) (h : Lists q vs w) (hm : vs.length = m) (hm2 : m ≤ 1000) (htot : (cat vs).length ≤ 200001) :
    Calls Tryd.prog 44 #[.slice (some ⟨q, 0, none⟩) m cap] w fun e w' => ∃ u, e = .returned u ∧ Own w.heap.size u (cat vs) w' ∧ Below w.heap.size w w' := by
  obtain ⟨i0, hi0, hz0, hz1, hz2⟩ := info_parts info30
  have HV := Lib.hid h; have HM := Lib.hid hm
  clear h hm
  go_enter Tryd.func44, Tryd.ntmps44
  go_wp2
  go_loop [3, 12] (fun s i => ∃ k : Nat, k ≤ m ∧ i = .int .i64 k ∧ s = .int .i64 (cat (vs.take k)).length) (fun _ i => m - (intOf i).toNat)
  case atStart => exact ⟨0, Nat.zero_le _, rfl, rfl⟩
  case round =>
    obtain ⟨k, hk, rfl, rfl⟩ := hrel
    by_cases hlt : k < m
    · obtain ⟨p, hp⟩ : ∃ p, vs[k]? = some p := ⟨_, List.getElem?_eq_getElem (by rw [HM.out]; exact hlt)⟩
      have hc := HV.out.cell k p hp
      have hs := HV.out.sees p (List.mem_of_getElem? hp)
      have HS := Lib.hid (cat_take hp)
      have hle := cat_le vs (k + 1)
      rw [HS.out, List.length_append] at hle
      obtain ⟨v, ls⟩ := p
      dsimp only at hc hle hs
      obtain ⟨oa, cp, rfl, _⟩ := hs
      have HS2 : Hid (((cat (vs.take (k + 1))).length : Int) = (cat (vs.take k)).length + ls.length) := Lib.hid (by rw [HS.out, List.length_append]; exact Int.natCast_add _ _)
      generalize (cat (vs.take k)).length = c at HS2 hle ⊢
      clear hp
      go_wp2
      go_round
      case rel => exact ⟨k + 1, by omega, by go_num, by rw [HS2.out]⟩
      case measure => simp [intOf]; omega
    · have hkm : k = m := by omega
      obtain ⟨n, hn⟩ : ∃ n, (cat vs).length = n := ⟨_, rfl⟩
      have hcat : (cat (vs.take k)).length = n := by rw [List.take_of_length_le (by rw [HM.out]; omega), hn]
      rw [hcat]
      have HN := Lib.hid hn
      rw [hn] at htot
      clear hcat hn
      go_wp2_with (at_make; refine wpList_make_full _ rfl _ _ 22 rfl w.heap.size 30 i0 (.agg #[.int .i64 0, .int .i64 0, .string ⟨#[]⟩]) 3 Tryd.underlying22 hi0 hz0 hz1 .i64 .i64 _ _ n rfl rfl rfl rfl (by rw [hz2]; omega) (by unfold maxLen; omega) (Nat.le_refl _) ?_; intro w1 hown hgrow)
      have hB1 : Below w.heap.size w w1 := ⟨hgrow.os, hgrow.tape, hgrow.output, hgrow.size, fun k hk => hgrow.block k hk (by simp)⟩
      have HM0 : Hid (Mid w.heap.size n n [] (.slice (some ⟨w.heap.size, 0, none⟩) n n) w1) := Lib.hid (by
        rcases hown.2 with ⟨e, _⟩ | ⟨g, cap', cur, e, _, hg, _, _, hs, _⟩
        · cases e
        · cases e
          exact ⟨⟨cur, hg, hs, rfl⟩, by simp, 0, rfl, Nat.zero_le _, fun _ => by simp⟩)
      clear hown hgrow
      go_loopw [7, 26] (fun rv i wr => ∃ k r : Nat, k ≤ m ∧ i = .int .i64 k ∧ Mid w.heap.size n r (cat (vs.take k)) rv wr ∧ Below w.heap.size w wr) (fun _ i _ => m - (intOf i).toNat)
      case atStart => exact ⟨0, n, Nat.zero_le _, rfl, HM0.out, hB1⟩
      case round =>
        clear hB1
        obtain ⟨k, r, hk, rfl, hMid, hb⟩ := hrel
        by_cases hlt : k < m
        · obtain ⟨p, hp⟩ : ∃ p, vs[k]? = some p := ⟨_, List.getElem?_eq_getElem (by rw [HM.out]; exact hlt)⟩
          have hc0 := HV.out.cell k p hp
          have hs0 := HV.out.sees p (List.mem_of_getElem? hp)
          have hcq : q < w.heap.size := World.block_lt_of_cell? _ _ hc0
          have hc := (hb.cell (p := ⟨q, k, none⟩) hcq).trans hc0
          have hs := hs0.below hb
          have HS := Lib.hid (cat_take hp)
          have hle := cat_le vs (k + 1)
          rw [HS.out, List.length_append, HN.out] at hle
          obtain ⟨v, ls⟩ := p
          dsimp only at hc hle hs
          obtain ⟨oa, cp, rfl, _⟩ := id hs
          obtain ⟨⟨cur, hg, hcs, htk⟩, hcn, o, rfl, hon, ho⟩ := hMid
          dsimp only at HS
          generalize cat (vs.take k) = L at HS hle htk hcn ho
          obtain ⟨r2, rfl⟩ : ∃ r2, r = ls.length + r2 := ⟨r - ls.length, by omega⟩
          have hfit : o + ls.length * 3 ≤ cur.size := by
            rw [hcs]
            by_cases h0 : 0 < ls.length + r2
            · rw [ho h0]; omega
            · omega
          have hcp := fun ty => run_copy3 wr ty w.heap.size o (ls.length + r2) (ls.length + r2) oa ls cp cur hs hg (by omega) hfit
          have hb2 := below_setRow hb (Nat.le_refl _) (cur.toList.take o ++ flat ls ++ cur.toList.drop (o + ls.length * 3)).toArray
          have hg2 := setRow_heap wr w.heap.size cur (cur.toList.take o ++ flat ls ++ cur.toList.drop (o + ls.length * 3)).toArray 30 (0, 0) hg
          have hsz2 : (cur.toList.take o ++ flat ls ++ cur.toList.drop (o + ls.length * 3)).toArray.size = n * 3 := by
            rw [List.size_toArray, List.length_append, List.length_append, List.length_take, List.length_drop, flat_len, Array.length_toList]; omega
          have htk2 : (cur.toList.take o ++ flat ls ++ cur.toList.drop (o + ls.length * 3)).toArray.toList.take ((L ++ ls).length * 3) = flat (L ++ ls) := by
            by_cases h0 : 0 < ls.length + r2
            · have e := ho h0
              subst e
              exact take_splice htk rfl
            · have : ls = [] := List.eq_nil_of_length_eq_zero (by omega)
              subst this
              simp only [flat, List.flatMap_nil, List.append_nil, List.length_nil, Nat.zero_mul, Nat.add_zero, List.take_append_drop]
              exact htk
          generalize (cur.toList.take o ++ flat ls ++ cur.toList.drop (o + ls.length * 3)).toArray = cur2 at hcp hb2 hg2 hsz2 htk2
          have HX := Lib.hid (And.intro hg2 (And.intro hsz2 htk2)); have HO := Lib.hid ho; have HN2 := Lib.hid hcn; have HBX := Lib.hid hb2
          clear hg2 hsz2 htk2 hb2 ho hcn htk hcs hg hs hs0 hc0 hp hfit
          generalize wr.setRow w.heap.size cur2 = wr2 at hcp HX HBX
          by_cases hr2 : r2 = 0
          · subst hr2
            simp only [Nat.add_zero] at hcp hon HO HN2 ⊢
            go_wp2
            go_roundw
            case rel => exact ⟨k + 1, 0, by omega, by go_num, by rw [HS.out]; exact ⟨⟨cur2, HX.out.1, HX.out.2.1, HX.out.2.2⟩, by rw [List.length_append]; have := HN2.out; omega, o, by simp, hon, fun h => absurd h (by decide)⟩, HBX.out⟩
            case measure => simp [intOf]; omega
          · have hr3 : ls.length < ls.length + r2 := by omega
            have ho2 : o = L.length * 3 := HO.out (by omega)
            subst ho2
            go_wp2
            go_roundw
            case rel => exact ⟨k + 1, r2, by omega, by go_num, by rw [HS.out]; exact ⟨⟨cur2, HX.out.1, HX.out.2.1, HX.out.2.2⟩, by rw [List.length_append]; have := HN2.out; omega, _, rfl, by have := HN2.out; omega, fun _ => by rw [List.length_append]; omega⟩, HBX.out⟩
            case measure => simp [intOf]; omega
        · have HC : Hid (cat (vs.take k) = cat vs) := Lib.hid (by rw [List.take_of_length_le (by rw [HM.out]; omega)])
          have HMd := Lib.hid hMid
          have hr0 : r = 0 := by
            have := hMid.len
            rw [HC.out, HN.out] at this; omega
          obtain ⟨⟨cur, hg, hcs, htk⟩, hcn, o, rfl, hon, ho⟩ := hMid
          rw [HC.out, HN.out] at htk
          have HO2 : Hid (Own w.heap.size (.slice (some ⟨w.heap.size, 0, none⟩) n n) (cat vs) wr) := Lib.hid (by
            refine ⟨flat_len _, .inr ⟨w.heap.size, n, cur, by rw [HN.out], Nat.le_refl _, hg, by rw [HN.out]; exact Nat.le_refl _, by unfold maxLen; omega, hcs, by rw [HN.out]; exact htk⟩⟩)
          clear HMd hg hcs htk hcn ho
          go_wp2
          go_ret
          exact ⟨_, rfl, HO2.out, hb⟩
end Go.Proofs.YtolobnokpmbajaaDoor.Z
namespace Go.Proofs.YtolobnokpmbajaaDoor.Z
open Go.RowKit Go.Shelf

/-- does a name stand in the row? -/
def there (ls : List Line) (n : List UInt8) : Bool := !(St.fil n ls).isEmpty
theorem lo_cons (x : Line) (ls : List Line) (n : List UInt8) : lo (x :: ls) n = if x.name < n then x :: lo ls n else lo ls n := by
  unfold lo; rw [List.filter_cons]; by_cases h : x.name < n <;> simp [h]
theorem lo_none {ls : List Line} {n : List UInt8} (h : ∀ x ∈ ls, ¬ x.name < n) : lo ls n = [] := by
  unfold lo; rw [List.filter_eq_nil_iff]; intro x hx; simpa using h x hx
theorem place_key : ∀ (ls : List Line), Up ls → ∀ (n : List UInt8) (k : Nat) (x : Line), ls[k]? = some x → (x.name < n ↔ k < (lo ls n).length)
  | [], _, n, k, x, h => by simp at h
  | y :: ls, hu, n, k, x, h => by
    obtain ⟨h1, h2⟩ := List.pairwise_cons.1 hu
    by_cases hy : y.name < n
    · rw [lo_cons, if_pos hy, List.length_cons]
      cases k with
      | zero => simp at h; subst h; simp [hy]
      | succ k =>
        have := place_key ls h2 n k x (by simpa using h)
        rw [this]; omega
    · have hno : ∀ z ∈ ls, ¬ z.name < n := fun z hz hn => hy (St.lt_trans (h1 z hz) hn)
      rw [lo_cons, if_neg hy, lo_none hno]
      have hx : ¬ x.name < n := by
        cases k with
        | zero => simp at h; subst h; exact hy
        | succ k => exact hno x (List.mem_of_getElem? (by simpa using h))
      simp [hx]
theorem fil_fil (ls : List Line) (n m : List UInt8) : St.fil m (St.fil n ls) = if m = n then St.fil n ls else [] := by
  unfold St.fil
  rw [List.filter_filter]
  split
  · rename_i h; subst h; congr 1; funext x; by_cases e : x.name = m <;> simp [e]
  · rename_i h
    rw [List.filter_eq_nil_iff]
    intro x _ hx
    simp at hx
    exact h (hx.1.symm.trans hx.2)
theorem row_parts {ls : List Line} (hu : Up ls) (n : List UInt8) : ls = lo ls n ++ (St.fil n ls ++ hi ls n) := by
  refine up_ext _ _ hu ?_ fun m => ?_
  · unfold Up
    rw [List.pairwise_append, List.pairwise_append]
    refine ⟨hu.sublist List.filter_sublist, ⟨hu.sublist List.filter_sublist, hu.sublist List.filter_sublist, fun a ha b hb => ?_⟩, fun a ha b hb => ?_⟩
    · rw [(St.mem_fil.1 ha).2]
      simpa [hi] using (List.mem_filter.1 hb).2
    · have h1 : a.name < n := by simpa [lo] using (List.mem_filter.1 ha).2
      rcases List.mem_append.1 hb with hb | hb
      · rw [(St.mem_fil.1 hb).2]; exact h1
      · have h2 : n < b.name := by simpa [hi] using (List.mem_filter.1 hb).2
        exact St.lt_trans h1 h2
  · rw [St.fil_append, St.fil_append, fil_lo, fil_hi, fil_fil]
    rcases St.tri m n with h | h | h
    · rw [if_pos h, if_neg (St.lt_asymm h), if_neg (fun e => by rw [e] at h; exact St.lt_irrefl _ h)]; simp
    · subst h
      rw [if_neg (St.lt_irrefl _), if_pos rfl]; simp
    · rw [if_neg (St.lt_asymm h), if_pos h, if_neg (fun e => by rw [e] at h; exact St.lt_irrefl _ h)]; simp
theorem fil_one {ls : List Line} (hu : Up ls) (n : List UInt8) : St.fil n ls = [] ∨ ∃ x, St.fil n ls = [x] := by
  have h1 : Up (St.fil n ls) := hu.sublist List.filter_sublist
  have h2 : ∀ x ∈ St.fil n ls, x.name = n := fun x hx => (St.mem_fil.1 hx).2
  cases hf : St.fil n ls with
  | nil => exact .inl rfl
  | cons a l =>
    rw [hf] at h1 h2
    cases l with
    | nil => exact .inr ⟨a, rfl⟩
    | cons b l =>
      have h3 := (List.pairwise_cons.1 h1).1 b (by simp)
      rw [h2 a (by simp), h2 b (by simp)] at h3
      exact absurd h3 (St.lt_irrefl _)
/-- what stands at the place of a name -/
theorem place_at {ls : List Line} (hu : Up ls) (n : List UInt8) (x : Line) (hx : ls[(lo ls n).length]? = some x) : there ls n = decide (x.name = n) := by
  have hp := row_parts hu n
  have hx2 : (St.fil n ls ++ hi ls n)[0]? = some x := by
    have := hx
    rw [hp] at this
    have e : (lo (lo ls n ++ (St.fil n ls ++ hi ls n)) n).length = (lo ls n).length := by rw [← hp]
    rw [e, List.getElem?_append_right (Nat.le_refl _), Nat.sub_self] at this
    exact this
  unfold there
  rcases fil_one hu n with h | ⟨y, h⟩
  · rw [h] at hx2 ⊢
    have hm : x ∈ hi ls n := List.mem_of_getElem? (by simpa using hx2)
    have h2 : n < x.name := by simpa [hi] using (List.mem_filter.1 hm).2
    have : ¬ x.name = n := fun e => by rw [e] at h2; exact St.lt_irrefl _ h2
    simp [this]
  · have hy : y.name = n := (St.mem_fil.1 (by rw [h]; simp : y ∈ St.fil n ls)).2
    rw [h] at hx2 ⊢
    simp at hx2; subst hx2
    simp [hy]
theorem place_end {ls : List Line} (hu : Up ls) (n : List UInt8) (h : ls.length ≤ (lo ls n).length) : there ls n = false := by
  have hp := congrArg List.length (row_parts hu n)
  simp only [List.length_append] at hp
  have : St.fil n ls = [] := List.eq_nil_of_length_eq_zero (by omega)
  unfold there; rw [this]; rfl
theorem byName_is {x y : Line} {c : Int} (h : St.cf x y = c) (W : World) : Calls Tryd.prog 38 #[.agg #[.int .i64 x.size, .int .i64 x.time, .string ⟨x.name.toArray⟩], .agg #[.int .i64 y.size, .int .i64 y.time, .string ⟨y.name.toArray⟩]] W fun e w' => e = .returned (.int .i64 c) ∧ Below W.heap.size W w' := by
  refine (byName_any x y W).mono ?_
  rintro e w' ⟨he, q, os, rfl⟩
  exact ⟨by rw [← h]; exact he, Lib.below_grow _ _ (Nat.le_refl _) _ _⟩
abbrev Two (g o : Nat) (x : Line) (b : Nat) (n : List UInt8) (w0 w' : World) : Prop :=
  w'.cell? ⟨g, o, none⟩ = some (.int .i64 x.size) ∧ w'.cell? ⟨g, o + 1, none⟩ = some (.int .i64 x.time) ∧ w'.cell? ⟨g, o + 2, none⟩ = some (.string ⟨x.name.toArray⟩) ∧
  w'.cell? ⟨b, 0, none⟩ = some (.int .i64 0) ∧ w'.cell? ⟨b, 1, none⟩ = some (.int .i64 0) ∧ w'.cell? ⟨b, 2, none⟩ = some (.string ⟨n.toArray⟩) ∧ Below w0.heap.size w0 w'
theorem Two.below {g o b : Nat} {x : Line} {n : List UInt8} {w0 w w' : World} (h : Two g o x b n w0 w) (hb : Below w.heap.size w w') : Two g o x b n w0 w' := by
  obtain ⟨h0, h1, h2, h3, h4, h5, h6⟩ := h
  have hg : g < w.heap.size := World.block_lt_of_cell? _ _ h0
  have hbb : b < w.heap.size := World.block_lt_of_cell? _ _ h3
  exact ⟨(hb.cell (p := ⟨g, o, none⟩) hg).trans h0, (hb.cell (p := ⟨g, o + 1, none⟩) hg).trans h1, (hb.cell (p := ⟨g, o + 2, none⟩) hg).trans h2, (hb.cell (p := ⟨b, 0, none⟩) hbb).trans h3, (hb.cell (p := ⟨b, 1, none⟩) hbb).trans h4, (hb.cell (p := ⟨b, 2, none⟩) hbb).trans h5, below_two h6 hb⟩
theorem byName_held {g o b : Nat} {x : Line} {n : List UInt8} {w0 : World} {c : Int} (h : St.cf x ⟨0, 0, n⟩ = c) (W : World) (hT : Two g o x b n w0 W) :
    Calls Tryd.prog 38 #[.agg #[.int .i64 x.size, .int .i64 x.time, .string ⟨x.name.toArray⟩], .agg #[.int .i64 0, .int .i64 0, .string ⟨n.toArray⟩]] W fun e w' => e = .returned (.int .i64 c) ∧ Two g o x b n w0 w' :=
  (byName_is (y := ⟨0, 0, n⟩) h W).mono fun _ _ ⟨he, hb⟩ => ⟨he, hT.below hb⟩

set_option maxRecDepth 100000 in
set_option maxHeartbeats 8000000 in
theorem bin_any (v : Value) (ls : List Line) (n : List UInt8) (w : World) (hR : Sees v ls w) (hu : Up ls) (hl : ls.length ≤ 100000) :
    Calls Tryd.prog 64 #[v, .agg #[.int .i64 0, .int .i64 0, .string ⟨n.toArray⟩], .func (.func 38) #[] #[]] w fun e w' =>
      e = .returned (.tuple #[.int .i64 (lo ls n).length, .bool (there ls n)]) ∧ Below w.heap.size w w' := by
  obtain ⟨W, hW⟩ : ∃ W, W = w.alloc (.cells #[.int .i64 0, .int .i64 0, .string ⟨n.toArray⟩] 30) := ⟨_, rfl⟩
  have B0 : Below w.heap.size w W := by rw [hW]; exact (Below.refl _ _).alloc (Nat.le_refl _) _
  have HQ : Hid (W.cell? ⟨w.heap.size, 0, none⟩ = some (.int .i64 0) ∧ W.cell? ⟨w.heap.size, 1, none⟩ = some (.int .i64 0) ∧ W.cell? ⟨w.heap.size, 2, none⟩ = some (.string ⟨n.toArray⟩)) := Lib.hid (by
    rw [hW]; exact ⟨by rw [World.cell?_alloc_new]; rfl, by rw [World.cell?_alloc_new]; rfl, by rw [World.cell?_alloc_new]; rfl⟩)
  have HR := Lib.hid (hR.below B0)
  obtain ⟨oa, cap, rfl, _⟩ := hR
  obtain ⟨oa', cap', he, hcells⟩ := HR.out
  cases he
  have HC := Lib.hid hcells; have HK := Lib.hid (place_key ls hu n); have HU := Lib.hid hu; have HW := Lib.hid hW; have HB0 := Lib.hid B0
  have hpl := lo_len ls n
  obtain ⟨p, hp⟩ : ∃ p, (lo ls n).length = p := ⟨_, rfl⟩
  have HPp := Lib.hid hp
  rw [hp] at hpl HK ⊢
  clear hcells hW B0 hu HR hp
  go_enter Tryd.func64, Tryd.ntmps64
  go_wp2_with fail
  rw [← HW.out]
  go_wp2
  go_loopw [9, 10] (fun a b wr => ∃ i j : Nat, i ≤ p ∧ p ≤ j ∧ j ≤ ls.length ∧ a = .int .i64 i ∧ b = .int .i64 j ∧ Below W.heap.size W wr) (fun a b _ => (intOf b).toNat - (intOf a).toNat)
  case atStart => exact ⟨0, ls.length, Nat.zero_le _, hpl, Nat.le_refl _, rfl, rfl, Below.refl _ _⟩
  case round =>
    obtain ⟨i, j, hip, hpj, hjl, rfl, rfl, hb⟩ := hrel
    by_cases hij : i < j
    · obtain ⟨h, hh⟩ : ∃ h, h = (i + j) / 2 := ⟨_, rfl⟩
      have e2 : ((i : Int) + (j : Int)) / 2 = (h : Int) := by omega
      have hlo : i ≤ h := by omega
      have hhi : h < j := by omega
      have hhl : h < ls.length := by omega
      obtain ⟨x, hx⟩ : ∃ x, ls[h]? = some x := ⟨_, List.getElem?_eq_getElem hhl⟩
      obtain ⟨g, o, rfl, h0, h1, h2⟩ := HC.out h x hx
      have hkey := HK.out h x hx
      have T0 : Two g (o + h * 3) x w.heap.size n W wr.drew := (Two.below ⟨h0, h1, h2, HQ.out.1, HQ.out.2.1, HQ.out.2.2, Below.refl _ _⟩ hb).below ((Below.refl _ _).drew)
      have hcb := fun W hT => byName_held (g := g) (o := o + h * 3) (b := w.heap.size) (x := x) (n := n) (w0 := W) (c := St.cf x ⟨0, 0, n⟩) rfl W hT
      have hcf := St.cf_lt x ⟨0, 0, n⟩
      dsimp only at hcf
      have hh2 : (h : Int) < (ls.length : Int) := by omega
      clear h0 h1 h2 hx hh
      have cb := fun W' hT => byName_held (g := g) (o := o + h * 3) (b := w.heap.size) (x := x) (n := n) (w0 := W) (c := St.cf x ⟨0, 0, n⟩) rfl W' hT
      clear hcb
      generalize St.cf x ⟨0, 0, n⟩ = c at cb hcf
      by_cases hc : c < 0
      · have hhp : h < p := hkey.1 (hcf.1 hc)
        clear hcf hkey
        go_wp2_with fail
        go_region_held3 (fun w' => w'.cell? ⟨g, o + h * 3, none⟩ = some (.int .i64 x.size) ∧ w'.cell? ⟨g, o + h * 3 + 1, none⟩ = some (.int .i64 x.time) ∧ w'.cell? ⟨g, o + h * 3 + 2, none⟩ = some (.string ⟨x.name.toArray⟩) ∧ w'.cell? ⟨w.heap.size, 0, none⟩ = some (.int .i64 0) ∧ w'.cell? ⟨w.heap.size, 1, none⟩ = some (.int .i64 0) ∧ w'.cell? ⟨w.heap.size, 2, none⟩ = some (.string ⟨n.toArray⟩) ∧ Below W.heap.size W w') (first | exact T1 | exact T0)
          (first | (go_at_call 38; refine (cb _ (by assumption)).mono ?_; rintro e w2 ⟨rfl, T1⟩))
        go_wp2
        go_roundw
        case rel => exact ⟨h + 1, j, by omega, hpj, hjl, by go_num, rfl, T1.2.2.2.2.2.2⟩
        case measure => simp [intOf]; omega
      · have hhp : ¬ h < p := fun e => hc (hcf.2 (hkey.2 e))
        clear hcf hkey
        go_wp2_with fail
        go_region_held3 (fun w' => w'.cell? ⟨g, o + h * 3, none⟩ = some (.int .i64 x.size) ∧ w'.cell? ⟨g, o + h * 3 + 1, none⟩ = some (.int .i64 x.time) ∧ w'.cell? ⟨g, o + h * 3 + 2, none⟩ = some (.string ⟨x.name.toArray⟩) ∧ w'.cell? ⟨w.heap.size, 0, none⟩ = some (.int .i64 0) ∧ w'.cell? ⟨w.heap.size, 1, none⟩ = some (.int .i64 0) ∧ w'.cell? ⟨w.heap.size, 2, none⟩ = some (.string ⟨n.toArray⟩) ∧ Below W.heap.size W w') (first | exact T1 | exact T0)
          (first | (go_at_call 38; refine (cb _ (by assumption)).mono ?_; rintro e w2 ⟨rfl, T1⟩))
        go_wp2
        go_roundw
        case rel => exact ⟨i, h, hip, by omega, by omega, rfl, by first | rfl | go_num, T1.2.2.2.2.2.2⟩
        case measure => simp [intOf]; omega
    · obtain rfl : i = p := by omega
      by_cases hil : i < ls.length
      · obtain ⟨x, hx⟩ : ∃ x, ls[i]? = some x := ⟨_, List.getElem?_eq_getElem hil⟩
        obtain ⟨g, o, rfl, h0, h1, h2⟩ := HC.out i x hx
        have HT : Hid (there ls n = decide (x.name = n)) := Lib.hid (place_at HU.out n x (by rw [HPp.out]; exact hx))
        have T0 : Two g (o + i * 3) x w.heap.size n W wr.drew := (Two.below ⟨h0, h1, h2, HQ.out.1, HQ.out.2.1, HQ.out.2.2, Below.refl _ _⟩ hb).below ((Below.refl _ _).drew)
        have cb := fun W' hT => byName_held (g := g) (o := o + i * 3) (b := w.heap.size) (x := x) (n := n) (w0 := W) (c := St.cf x ⟨0, 0, n⟩) rfl W' hT
        have hce := St.cf_eq x ⟨0, 0, n⟩
        dsimp only at hce
        clear h0 h1 h2 hx
        generalize St.cf x ⟨0, 0, n⟩ = c at cb hce
        have HCE := Lib.hid hce
        have hil2 : (i : Int) < (ls.length : Int) := by omega
        clear hce
        go_wp2_with fail
        go_region_held3 (fun w' => w'.cell? ⟨g, o + i * 3, none⟩ = some (.int .i64 x.size) ∧ w'.cell? ⟨g, o + i * 3 + 1, none⟩ = some (.int .i64 x.time) ∧ w'.cell? ⟨g, o + i * 3 + 2, none⟩ = some (.string ⟨x.name.toArray⟩) ∧ w'.cell? ⟨w.heap.size, 0, none⟩ = some (.int .i64 0) ∧ w'.cell? ⟨w.heap.size, 1, none⟩ = some (.int .i64 0) ∧ w'.cell? ⟨w.heap.size, 2, none⟩ = some (.string ⟨n.toArray⟩) ∧ Below W.heap.size W w') (first | exact T1 | exact T0)
          (first | (go_at_call 38; refine (cb _ (by assumption)).mono ?_; rintro e w2 ⟨rfl, T1⟩))
        go_wp2
        go_ret2
        refine ⟨?_, HB0.out.trans (T1.2.2.2.2.2.2.mono HB0.out.size)⟩
        rw [HT.out]
        have : (c == 0) = decide (x.name = n) := by
          by_cases e : x.name = n
          · rw [decide_eq_true e, HCE.out.2 e]; rfl
          · rw [decide_eq_false e, beq_eq_false_iff_ne]; exact fun e' => e (HCE.out.1 e')
        rw [← this]; rfl
      · obtain rfl : i = ls.length := by omega
        have HT : Hid (there ls n = false) := Lib.hid (place_end HU.out n (by rw [HPp.out]; exact Nat.le_refl _))
        go_wp2_with fail
        go_region
        go_wp2
        go_ret2
        exact ⟨by rw [HT.out]; rfl, HB0.out.trans ((hb.drew).mono HB0.out.size)⟩
end Go.Proofs.YtolobnokpmbajaaDoor.Z
namespace Go.Proofs.YtolobnokpmbajaaDoor.Z
open Go.RowKit Go.Shelf

set_option maxHeartbeats 1000000 in
theorem place_any (v : Value) (ls : List Line) (n : List UInt8) (w : World) (hR : Sees v ls w) (hu : Up ls) (hl : ls.length ≤ 100000) :
    Calls Tryd.prog 45 #[v, .string ⟨n.toArray⟩] w fun e w' => e = .returned (.tuple #[.int .i64 (lo ls n).length, .bool (there ls n)]) ∧ Below w.heap.size w w' := by
  have cb := bin_any v ls n w hR hu hl
  generalize (lo ls n).length = p at cb ⊢
  generalize there ls n = t at cb ⊢
  clear hR hu hl
  go_enter Tryd.func45, Tryd.ntmps45
  go_wp2_with (go_at_call 64; refine cb.mono ?_; rintro e w1 ⟨rfl, hb1⟩)
  go_ret2
  exact ⟨rfl, hb1⟩
/-- where what is behind a name begins -/
def after (ls : List Line) (n : List UInt8) : Nat := (lo ls n).length + (if there ls n then 1 else 0)
theorem after_facts {ls : List Line} (hu : Up ls) (n : List UInt8) : lo ls n = ls.take (lo ls n).length ∧ hi ls n = ls.drop (after ls n) ∧ after ls n ≤ ls.length ∧ (lo ls n).length ≤ after ls n := by
  have hp := row_parts hu n
  have hf : (St.fil n ls).length = if there ls n then 1 else 0 := by
    unfold there
    rcases fil_one hu n with h | ⟨x, h⟩ <;> simp [h]
  have hlen := congrArg List.length hp
  simp only [List.length_append, hf] at hlen
  refine ⟨?_, ?_, by unfold after; omega, by unfold after; omega⟩
  · generalize lo ls n = A at hp ⊢
    rw [hp, List.take_left]
  · unfold after
    rw [← hf, ← List.length_append]
    generalize lo ls n = A at hp ⊢
    generalize St.fil n ls = F at hp ⊢
    generalize hi ls n = H at hp ⊢
    rw [← List.append_assoc] at hp
    rw [hp, List.drop_left]
theorem sees_take {g cap : Nat} {ls : List Line} {w : World} (h : Sees (.slice (some ⟨g, 0, none⟩) ls.length cap) ls w) (p c : Nat) (hp : p ≤ ls.length) : Sees (.slice (some ⟨g, 0, none⟩) p c) (ls.take p) w := by
  obtain ⟨oa, cap', he, hc⟩ := h
  cases he
  refine ⟨_, c, by rw [List.length_take, Nat.min_eq_left hp], fun k x hk => ?_⟩
  rw [List.getElem?_take] at hk
  split at hk
  · exact hc k x hk
  · cases hk
theorem sees_drop {g cap : Nat} {ls : List Line} {w : World} (h : Sees (.slice (some ⟨g, 0, none⟩) ls.length cap) ls w) (p c : Nat) : Sees (.slice (some ⟨g, p * 3, none⟩) (ls.length - p) c) (ls.drop p) w := by
  obtain ⟨oa, cap', he, hc⟩ := h
  cases he
  refine ⟨_, c, by rw [List.length_drop], fun k x hk => ?_⟩
  rw [List.getElem?_drop] at hk
  obtain ⟨g', o, ha, h0, h1, h2⟩ := hc _ x hk
  cases ha
  refine ⟨g, p * 3, rfl, ?_, ?_, ?_⟩
  · rw [show p * 3 + k * 3 = 0 + (p + k) * 3 by omega]; exact h0
  · rw [show p * 3 + k * 3 + 1 = 0 + (p + k) * 3 + 1 by omega]; exact h1
  · rw [show p * 3 + k * 3 + 2 = 0 + (p + k) * 3 + 2 by omega]; exact h2
theorem sees_none (oa : Option Addr) (c : Nat) (w : World) : Sees (.slice oa 0 c) [] w := ⟨oa, c, rfl, fun k x h => by simp at h⟩

set_option maxRecDepth 100000 in
set_option maxHeartbeats 4000000 in
theorem around_any {B : Nat} {v : Value} {ls : List Line} {w : World} (hO : Own B v ls w) (n : List UInt8) (hu : Up ls) (hl : ls.length ≤ 100000) :
    Calls Tryd.prog 43 #[v, .string ⟨n.toArray⟩] w fun e w' => ∃ a b, e = .returned (.tuple #[a, b]) ∧ (Sees a (lo ls n) w' ∧ Sees b (hi ls n) w') ∧ Below w.heap.size w w' := by
  have cp := place_any v ls n w hO.sees hu hl
  have mixed : Tryd.prog.follows Departure.mixedOrders = true := by kernel_rfl
  obtain ⟨hlo, hhi, hal, hla⟩ := after_facts hu n
  rw [hlo, hhi]
  have hS := hO.sees
  rcases hO.2 with ⟨rfl, h0⟩ | ⟨g, cap, cur, rfl, _, _, hcap, hcm, _⟩
  · have hnil : ls = [] := List.eq_nil_of_length_eq_zero h0
    subst hnil
    have ht : there [] n = false := rfl
    rw [ht] at cp
    simp only [lo, List.filter_nil, List.length_nil, List.take_nil, List.drop_nil] at cp ⊢
    clear hO hu hlo hhi hal hla hS ht h0
    go_enter Tryd.func43, Tryd.ntmps43
    go_wp2_with (go_at_call 45; refine cp.mono ?_; rintro e w1 ⟨rfl, hb1⟩)
    go_region_o
    go_wp2
    go_ret2
    exact ⟨_, _, rfl, ⟨sees_none _ _ _, sees_none _ _ _⟩, hb1.drew⟩
  · have hcm2 : cap ≤ 9223372036854775807 := by unfold maxLen at hcm; omega
    have hS1 := sees_take hS (lo ls n).length (lo ls n).length (by omega)
    have hS2 := sees_drop hS (after ls n) (ls.length - after ls n)
    have hS3 : after ls n = ls.length → ∀ oa c, Sees (.slice oa 0 c) (ls.drop (after ls n)) w := fun e oa c => by
      rw [e, List.drop_length]; exact sees_none _ _ _
    have haf : after ls n = (lo ls n).length + (if there ls n then 1 else 0) := rfl
    generalize after ls n = q at hal hla hS2 hS3 haf ⊢
    generalize (lo ls n).length = p at cp hS1 haf hla ⊢
    generalize there ls n = t at cp haf
    have HS1 := Lib.hid hS1; have HS2 := Lib.hid hS2; have HS3 := Lib.hid hS3
    obtain ⟨m, hm⟩ : ∃ m, ls.length = m := ⟨_, rfl⟩
    have HMm := Lib.hid hm
    rw [hm] at hal hl hcap cp ⊢
    clear hO hu hlo hhi hS hS1 hS2 hS3 hm
    cases t with
    | false =>
      obtain rfl : q = p := by simpa using haf
      clear haf hla
      by_cases hqm : q < m
      · go_enter Tryd.func43, Tryd.ntmps43
        go_wp2_with (go_at_call 45; refine cp.mono ?_; rintro e w1 ⟨rfl, hb1⟩)
        go_region_o
        go_wp2
        go_ret2
        have h2 := HS2.out
        rw [HMm.out] at h2
        exact ⟨_, _, rfl, ⟨HS1.out.below hb1.drew, h2.below hb1.drew⟩, hb1.drew⟩
      · obtain rfl : q = m := by omega
        clear hal hqm
        go_enter Tryd.func43, Tryd.ntmps43
        go_wp2_with (go_at_call 45; refine cp.mono ?_; rintro e w1 ⟨rfl, hb1⟩)
        go_region_o
        go_wp2
        go_ret2
        exact ⟨_, _, rfl, ⟨HS1.out.below hb1.drew, (HS3.out HMm.out.symm _ _).below hb1.drew⟩, hb1.drew⟩
    | true =>
      obtain rfl : q = p + 1 := by simpa using haf
      clear haf hla
      have hpm : p < m := by omega
      by_cases hqm : p + 1 < m
      · go_enter Tryd.func43, Tryd.ntmps43
        go_wp2_with (go_at_call 45; refine cp.mono ?_; rintro e w1 ⟨rfl, hb1⟩)
        go_region_o
        go_wp2
        go_ret2
        have h2 := HS2.out
        rw [HMm.out] at h2
        exact ⟨_, _, rfl, ⟨HS1.out.below hb1.drew, h2.below hb1.drew⟩, hb1.drew⟩
      · obtain rfl : p + 1 = m := by omega
        clear hal hqm
        go_enter Tryd.func43, Tryd.ntmps43
        go_wp2_with (go_at_call 45; refine cp.mono ?_; rintro e w1 ⟨rfl, hb1⟩)
        go_region_o
        go_wp2
        go_ret2
        exact ⟨_, _, rfl, ⟨HS1.out.below hb1.drew, (HS3.out HMm.out.symm _ _).below hb1.drew⟩, hb1.drew⟩
end Go.Proofs.YtolobnokpmbajaaDoor.Z
namespace Go.Proofs.YtolobnokpmbajaaDoor.Z
open Go.RowKit Go.Shelf

theorem fil_drop (ls : List Line) (n m : List UInt8) : St.fil m (drop ls n) = if m = n then [] else St.fil m ls := by
  unfold St.fil drop
  rw [List.filter_filter]
  split
  · rename_i h; subst h
    rw [List.filter_eq_nil_iff]
    intro x _ hx
    simp at hx
  · rename_i h
    congr 1; funext x
    by_cases e : x.name = m
    · simp [e, h]
    · simp [e]
theorem drop_parts {ls : List Line} (hu : Up ls) (n : List UInt8) : lo ls n ++ hi ls n = drop ls n := by
  have hp := row_parts hu n
  have hd : ∀ A F H : List Line, (∀ x ∈ A, x.name ≠ n) → (∀ x ∈ F, x.name = n) → (∀ x ∈ H, x.name ≠ n) → drop (A ++ (F ++ H)) n = A ++ H := by
    intro A F H h1 h2 h3
    unfold drop
    rw [List.filter_append, List.filter_append]
    rw [List.filter_eq_self.2 (fun x hx => by simpa using h1 x hx), List.filter_eq_nil_iff.2 (fun x hx => by simpa using h2 x hx), List.filter_eq_self.2 (fun x hx => by simpa using h3 x hx), List.nil_append]
  have h1 : ∀ x ∈ lo ls n, x.name ≠ n := fun x hx e => by
    have : x.name < n := by simpa [lo] using (List.mem_filter.1 hx).2
    rw [e] at this; exact St.lt_irrefl _ this
  have h3 : ∀ x ∈ hi ls n, x.name ≠ n := fun x hx e => by
    have : n < x.name := by simpa [hi] using (List.mem_filter.1 hx).2
    rw [e] at this; exact St.lt_irrefl _ this
  have := hd (lo ls n) (St.fil n ls) (hi ls n) h1 (fun x hx => (St.mem_fil.1 hx).2) h3
  rw [← hp] at this
  exact this.symm
theorem up_drop {ls : List Line} (hu : Up ls) (n : List UInt8) : Up (drop ls n) := hu.sublist List.filter_sublist
theorem there_len {ls : List Line} (hu : Up ls) (n : List UInt8) : there ls n = decide ((drop ls n).length < ls.length) := by
  have hp := congrArg List.length (row_parts hu n)
  have hd := congrArg List.length (drop_parts hu n)
  simp only [List.length_append] at hp hd
  unfold there
  rcases fil_one hu n with h | ⟨x, h⟩
  · rw [h] at hp ⊢
    simp at hp
    simp; omega
  · rw [h] at hp ⊢
    simp at hp
    simp; omega
theorem one_sees (y : Line) (w : World) (t : TypeId) : Sees (.slice (some ⟨w.heap.size, 0, none⟩) 1 1) [y] (w.alloc (.cells #[.int .i64 y.size, .int .i64 y.time, .string ⟨y.name.toArray⟩] t)) := by
  refine ⟨_, 1, rfl, fun k x h => ⟨w.heap.size, 0, rfl, ?_⟩⟩
  have hk : k = 0 := by have := (List.getElem?_eq_some_iff.1 h).1; simp at this; exact this
  subst hk
  simp at h; subst h
  exact ⟨by rw [World.cell?_alloc_new]; rfl, by rw [World.cell?_alloc_new]; rfl, by rw [World.cell?_alloc_new]; rfl⟩
theorem lists2 {a b : Value} {A H : List Line} {W : World} (ha : Sees a A W) (hb : Sees b H W) (t : TypeId) : Lists W.heap.size [(a, A), (b, H)] (W.alloc (.cells #[a, b] t)) := by
  have hB : Below W.heap.size W (W.alloc (.cells #[a, b] t)) := (Below.refl _ _).alloc (Nat.le_refl _) _
  refine ⟨fun k p h => ?_, fun p hp => ?_⟩
  · rw [World.cell?_alloc_new]
    match k, h with
    | 0, h => cases h; rfl
    | 1, h => cases h; rfl
    | k + 2, h => simp at h
  · simp at hp
    rcases hp with rfl | rfl
    · exact ha.below hB
    · exact hb.below hB
theorem lists3 {a c b : Value} {A M H : List Line} {W : World} (ha : Sees a A W) (hc : Sees c M W) (hb : Sees b H W) (t : TypeId) : Lists W.heap.size [(a, A), (c, M), (b, H)] (W.alloc (.cells #[a, c, b] t)) := by
  have hB : Below W.heap.size W (W.alloc (.cells #[a, c, b] t)) := (Below.refl _ _).alloc (Nat.le_refl _) _
  refine ⟨fun k p h => ?_, fun p hp => ?_⟩
  · rw [World.cell?_alloc_new]
    match k, h with
    | 0, h => cases h; rfl
    | 1, h => cases h; rfl
    | 2, h => cases h; rfl
    | k + 3, h => simp at h
  · simp at hp
    rcases hp with rfl | rfl | rfl
    · exact ha.below hB
    · exact hc.below hB
    · exact hb.below hB
theorem joined2 {a b : Value} {A H R : List Line} {W : World} (ha : Sees a A W) (hb : Sees b H W) (hR : A ++ H = R) (hl : R.length ≤ 200001) (t : TypeId) :
    Calls Tryd.prog 44 #[.slice (some ⟨W.heap.size, 0, none⟩) 2 2] (W.alloc (.cells #[a, b] t)) fun e w' => ∃ u, e = .returned u ∧ Own W.heap.size u R w' ∧ Below W.heap.size W w' := by
  have hc : cat [(a, A), (b, H)] = R := by simp [cat, hR]
  refine (joined_any W.heap.size 2 2 [(a, A), (b, H)] _ (lists2 ha hb t) rfl (by decide) (by rw [hc]; exact hl)).mono ?_
  rintro e w' ⟨u, rfl, hO, hB⟩
  rw [hc] at hO
  exact ⟨u, rfl, hO.mono (by simp), below_two ((Below.refl _ _).alloc (Nat.le_refl _) _) hB⟩
theorem joined3 {a c b : Value} {A M H R : List Line} {W : World} (ha : Sees a A W) (hm : Sees c M W) (hb : Sees b H W) (hR : A ++ (M ++ H) = R) (hl : R.length ≤ 200001) (t : TypeId) :
    Calls Tryd.prog 44 #[.slice (some ⟨W.heap.size, 0, none⟩) 3 3] (W.alloc (.cells #[a, c, b] t)) fun e w' => ∃ u, e = .returned u ∧ Own W.heap.size u R w' ∧ Below W.heap.size W w' := by
  have hc : cat [(a, A), (c, M), (b, H)] = R := by simp [cat, hR]
  refine (joined_any W.heap.size 3 3 [(a, A), (c, M), (b, H)] _ (lists3 ha hm hb t) rfl (by decide) (by rw [hc]; exact hl)).mono ?_
  rintro e w' ⟨u, rfl, hO, hB⟩
  rw [hc] at hO
  exact ⟨u, rfl, hO.mono (by simp), below_two ((Below.refl _ _).alloc (Nat.le_refl _) _) hB⟩

set_option maxRecDepth 100000 in
set_option maxHeartbeats 4000000 in
theorem drop_any {B : Nat} {v : Value} {ls : List Line} {w : World} (hO : Own B v ls w) (n : List UInt8) (hu : Up ls) (hl : ls.length ≤ 100000) :
    Calls Tryd.prog 15 #[v, .string ⟨n.toArray⟩] w fun e w' => ∃ u, e = .returned u ∧ Own w.heap.size u (drop ls n) w' ∧ Below w.heap.size w w' := by
  have ca := around_any hO n hu hl
  have hd := drop_parts hu n
  have hdl := drop_len ls n
  generalize drop ls n = R at hd hdl ⊢
  generalize lo ls n = A at ca hd
  generalize hi ls n = H at ca hd
  have HD := Lib.hid hd
  clear hO hu hd
  go_enter Tryd.func15, Tryd.ntmps15
  go_wp2_with (first
    | (go_at_call 43; refine ca.mono ?_; rintro e w1 ⟨a, b, rfl, ⟨hsa, hsb⟩, hb1⟩; have HS := Lib.hid (And.intro hsa hsb); obtain ⟨oa, ca', rfl, _⟩ := hsa; obtain ⟨ob, cb', rfl, _⟩ := hsb)
    | (go_at_call 44; refine (joined2 HS.out.1 HS.out.2 HD.out (by omega) _).mono ?_; rintro e w2 ⟨u, rfl, hO2, hb2⟩))
  go_ret
  exact ⟨_, rfl, hO2.mono hb1.size, below_two hb1 hb2⟩

set_option maxRecDepth 100000 in
set_option maxHeartbeats 4000000 in
theorem put_any {B : Nat} {v : Value} {ls : List Line} {w : World} (hO : Own B v ls w) (y : Line) (hu : Up ls) (hl : ls.length ≤ 100000) :
    Calls Tryd.prog 17 #[v, .agg #[.int .i64 y.size, .int .i64 y.time, .string ⟨y.name.toArray⟩]] w fun e w' => ∃ u, e = .returned u ∧ Own w.heap.size u (put ls y) w' ∧ Below w.heap.size w w' := by
  obtain ⟨W, hW⟩ : ∃ W, W = w.alloc (.cells #[.int .i64 y.size, .int .i64 y.time, .string ⟨y.name.toArray⟩] 30) := ⟨_, rfl⟩
  have B0 : Below w.heap.size w W := by rw [hW]; exact (Below.refl _ _).alloc (Nat.le_refl _) _
  have X0 : Box3 w.heap.size y W := by rw [hW]; exact Box3.new y w
  have ca := around_any (hO.below B0) y.name hu hl
  have hd : lo ls y.name ++ ([y] ++ hi ls y.name) = put ls y := by simp [put]
  have hdl := put_len ls y
  generalize put ls y = R at hd hdl ⊢
  generalize lo ls y.name = A at ca hd
  generalize hi ls y.name = H at ca hd
  obtain ⟨x0, x1, x2, _, _, _⟩ := X0.facts
  have HD := Lib.hid hd; have HW := Lib.hid hW; have HB0 := Lib.hid B0; have HX := Lib.hid X0
  clear hO hu hd hW B0 X0
  go_enter Tryd.func17, Tryd.ntmps17
  go_wp2_with fail
  rw [← HW.out]
  go_wp2_with (first
    | (go_at_call 43; refine ca.mono ?_; rintro e w1 ⟨a, b, rfl, ⟨hsa, hsb⟩, hb1⟩
       have X1 := HX.out.below hb1
       obtain ⟨z0, z1, z2, _, _, _⟩ := X1.facts
       have HS := Lib.hid (And.intro hsa hsb)
       obtain ⟨oa, ca', rfl, _⟩ := hsa
       obtain ⟨ob, cb', rfl, _⟩ := hsb
       clear X1 x0 x1 x2)
    | (go_at_call 44
       have hb5 : Below w1.heap.size w1 (w1.alloc (.cells #[.int .i64 y.size, .int .i64 y.time, .string ⟨y.name.toArray⟩] 30)) := (Below.refl _ _).alloc (Nat.le_refl _) _
       have hs5 : Sees (.slice (some ⟨w1.heap.size, 0, none⟩) 1 1) [y] (w1.alloc (.cells #[.int .i64 y.size, .int .i64 y.time, .string ⟨y.name.toArray⟩] 30)) := one_sees y w1 _
       have cj := joined3 (HS.out.1.below hb5) hs5 (HS.out.2.below hb5) HD.out (by omega) 22
       rw [World.size_alloc] at cj
       refine cj.mono ?_
       rintro e w2 ⟨u, rfl, hO2, hb2⟩))
  go_ret
  exact ⟨_, rfl, hO2.mono (by have := hb1.size; have := HB0.out.size; omega), HB0.out.trans ((below_two hb1 (hb5.trans (hb2.mono (by omega)))).mono HB0.out.size)⟩
end Go.Proofs.YtolobnokpmbajaaDoor.Z
namespace Go.Proofs.YtolobnokpmbajaaDoor.Z
open Go.RowKit Go.Shelf

/-- the line of a name, or the zero line -/
def lineOf (ls : List Line) (n : List UInt8) : Line := (St.fil n ls).head?.getD ⟨0, 0, []⟩
theorem lineOf_yes {ls : List Line} (hu : Up ls) {n : List UInt8} (h : there ls n = true) : ls[(lo ls n).length]? = some (lineOf ls n) := by
  have hp := row_parts hu n
  unfold there at h
  unfold lineOf
  rcases fil_one hu n with hf | ⟨x, hf⟩
  · rw [hf] at h; cases h
  · rw [hf] at hp ⊢
    have e : (lo ls n ++ ([x] ++ hi ls n))[(lo ls n).length]? = some x := by
      rw [List.getElem?_append_right (Nat.le_refl _), Nat.sub_self]; rfl
    rw [← hp] at e
    exact e
theorem lineOf_no {ls : List Line} {n : List UInt8} (h : there ls n = false) : lineOf ls n = ⟨0, 0, []⟩ := by
  unfold there at h
  unfold lineOf
  cases hf : St.fil n ls with
  | nil => rfl
  | cons x l => rw [hf] at h; cases h
theorem lineOf_mem {ls : List Line} (hu : Up ls) {x : Line} (hx : x ∈ ls) : there ls x.name = true ∧ lineOf ls x.name = x := by
  have hm := mem_fil' hx
  unfold there lineOf
  rcases fil_one hu x.name with hf | ⟨y, hf⟩
  · rw [hf] at hm; cases hm
  · rw [hf] at hm ⊢
    simp at hm; subst hm
    exact ⟨rfl, rfl⟩

set_option maxRecDepth 100000 in
set_option maxHeartbeats 4000000 in
theorem find_any {v : Value} {ls : List Line} {w : World} (hO : Sees v ls w) (n : List UInt8) (hu : Up ls) (hl : ls.length ≤ 100000) :
    Calls Tryd.prog 19 #[v, .string ⟨n.toArray⟩] w fun e w' => e = .returned (.tuple #[.agg #[.int .i64 (lineOf ls n).size, .int .i64 (lineOf ls n).time, .string ⟨(lineOf ls n).name.toArray⟩], .bool (there ls n)]) ∧ Below w.heap.size w w' := by
  obtain ⟨W, hW⟩ : ∃ W, W = w.alloc (.cells #[.int .i64 0, .int .i64 0, .string ⟨#[]⟩] 30) := ⟨_, rfl⟩
  have B0 : Below w.heap.size w W := by rw [hW]; exact (Below.refl _ _).alloc (Nat.le_refl _) _
  have HX : Hid (Box3 w.heap.size zero W) := Lib.hid (by rw [hW]; exact Box3.new zero w)
  have hOW := hO.below B0
  have cp := place_any v ls n W hOW hu hl
  cases ht : there ls n with
  | false =>
    rw [ht] at cp
    rw [lineOf_no ht]
    generalize (lo ls n).length = p at cp
    have HW := Lib.hid hW
    obtain ⟨oa, cap, rfl, _⟩ := hO
    clear hW hOW hu ht
    go_enter Tryd.func19, Tryd.ntmps19
    go_wp2_with fail
    rw [← HW.out]
    go_wp2_with (go_at_call 45; refine cp.mono ?_; rintro e w1 ⟨rfl, hb9⟩; have X3 := HX.out.below hb9; obtain ⟨z0, z1, z2, f0, f1, f2⟩ := X3.facts; have HX3 := Lib.hid X3; clear X3)
    have XE := HX3.out.put ⟨0, 0, []⟩
    have BE := put_below (n := w.heap.size) (Nat.le_refl _) w1 ⟨0, 0, []⟩
    dsimp only at XE BE
    generalize ((World.setCell _ _ _).setCell _ _).setCell _ _ = W4 at XE BE ⊢
    obtain ⟨g0, g1, g2, _, _, _⟩ := XE.facts
    dsimp only at g0 g1 g2
    clear HX3 XE z0 z1 z2 f0 f1 f2
    refine bodyPost_ret (by simp [results, Tryd.results19, go_sem, g0, g1, g2]; rfl) rfl ?_
    exact ⟨rfl, (B0.trans (hb9.mono B0.size)).trans BE⟩
  | true =>
    rw [ht] at cp
    have hy := lineOf_yes hu ht
    have hpl : (lo ls n).length < ls.length := (List.getElem?_eq_some_iff.1 hy).1
    generalize lineOf ls n = y at hy ⊢
    generalize (lo ls n).length = p at cp hy hpl
    have HW := Lib.hid hW
    obtain ⟨oa, cap, rfl, hcells⟩ := hO
    obtain ⟨g, o, rfl, h0, h1, h2⟩ := hcells p y hy
    have hg := World.block_lt_of_cell? _ _ h0
    have HC := Lib.hid (And.intro h0 (And.intro h1 h2))
    clear hW hOW hu ht hcells h0 h1 h2 hy
    go_enter Tryd.func19, Tryd.ntmps19
    go_wp2_with fail
    rw [← HW.out]
    go_wp2_with (go_at_call 45; refine cp.mono ?_; rintro e w1 ⟨rfl, hb9⟩
                 have X3 := HX.out.below hb9
                 obtain ⟨z0, z1, z2, f0, f1, f2⟩ := X3.facts
                 have HX3 := Lib.hid X3
                 clear X3
                 have hbw := B0.trans (hb9.mono B0.size)
                 have d0 := (hbw.cell (p := ⟨g, o + p * 3, none⟩) hg).trans HC.out.1
                 have d1 := (hbw.cell (p := ⟨g, o + p * 3 + 1, none⟩) hg).trans HC.out.2.1
                 have d2 := (hbw.cell (p := ⟨g, o + p * 3 + 2, none⟩) hg).trans HC.out.2.2)
    have XE := HX3.out.put y
    have BE := put_below (n := w.heap.size) (Nat.le_refl _) w1 y
    generalize ((World.setCell _ _ _).setCell _ _).setCell _ _ = W4 at XE BE ⊢
    obtain ⟨g0, g1, g2, _, _, _⟩ := XE.facts
    clear HX3 XE z0 z1 z2 f0 f1 f2
    refine bodyPost_ret (by simp [results, Tryd.results19, go_sem, g0, g1, g2]; rfl) rfl ?_
    exact ⟨rfl, hbw.trans BE⟩
end Go.Proofs.YtolobnokpmbajaaDoor.Z
namespace Go.Proofs.YtolobnokpmbajaaDoor.Z
open Go.RowKit Go.Shelf

/-- one line more: put in, or dropped -/
def pl (R : List Line) (x : Line) : List Line := if x.time < 0 then drop R x.name else put R x
def plays (ls : List Line) : List Line := ls.foldl pl []
theorem plays_take {ls : List Line} {k : Nat} {x : Line} (h : ls[k]? = some x) : plays (ls.take (k + 1)) = pl (plays (ls.take k)) x := by
  rw [List.take_add_one, h]; simp [plays]
theorem up_pl {R : List Line} (h : Up R) (x : Line) : Up (pl R x) := by
  unfold pl; split
  · exact up_drop h _
  · exact up_put h _
theorem up_foldpl : ∀ (ls R : List Line), Up R → Up (ls.foldl pl R)
  | [], _, h => h
  | x :: ls, _, h => up_foldpl ls _ (up_pl h x)
theorem up_plays (ls : List Line) : Up (plays ls) := up_foldpl ls [] List.Pairwise.nil
theorem pl_len (R : List Line) (x : Line) : (pl R x).length ≤ R.length + 1 := by
  unfold pl; split
  · have := drop_len R x.name; omega
  · exact put_len R x
theorem foldpl_len : ∀ (ls R : List Line), (ls.foldl pl R).length ≤ R.length + ls.length
  | [], R => by simp
  | x :: ls, R => by
    have h1 := foldpl_len ls (pl R x)
    have h2 := pl_len R x
    simp only [List.foldl_cons, List.length_cons]; omega
theorem plays_len (ls : List Line) : (plays ls).length ≤ ls.length := by have := foldpl_len ls []; simpa [plays] using this
/-- the element at hand, the two rows, and the rest of the call's world -/
abbrev SP (n0 g o : Nat) (x : Line) (a b : Value) (R : List Line) (w0 w' : World) : Prop :=
  w'.cell? ⟨g, o, none⟩ = some (.int .i64 x.size) ∧ w'.cell? ⟨g, o + 1, none⟩ = some (.int .i64 x.time) ∧ w'.cell? ⟨g, o + 2, none⟩ = some (.string ⟨x.name.toArray⟩) ∧ Own n0 a R w' ∧ Own n0 b R w' ∧ Below w0.heap.size w0 w'
theorem SP.below {n0 g o : Nat} {x : Line} {a b : Value} {R : List Line} {w0 w w' : World} (h : SP n0 g o x a b R w0 w) (hb : Below w.heap.size w w') : SP n0 g o x a b R w0 w' := by
  obtain ⟨h0, h1, h2, h3, h4, h5⟩ := h
  have hg : g < w.heap.size := World.block_lt_of_cell? _ _ h0
  exact ⟨(hb.cell (p := ⟨g, o, none⟩) hg).trans h0, (hb.cell (p := ⟨g, o + 1, none⟩) hg).trans h1, (hb.cell (p := ⟨g, o + 2, none⟩) hg).trans h2, h3.below hb, h4.below hb, below_two h5 hb⟩
theorem drop_held {n0 g o : Nat} {x : Line} {a b : Value} {R : List Line} {w0 : World} (hu : Up R) (hl : R.length ≤ 100000) (hn0 : n0 ≤ w0.heap.size) (W : World) (h : SP n0 g o x a b R w0 W) :
    Calls Tryd.prog 15 #[a, .string ⟨x.name.toArray⟩] W fun e w' => ∃ u, e = .returned u ∧ Own n0 u (drop R x.name) w' ∧ SP n0 g o x a b R w0 w' := by
  refine (drop_any h.2.2.2.1 x.name hu hl).mono ?_
  rintro e w' ⟨u, rfl, hO, hB⟩
  exact ⟨u, rfl, hO.mono (Nat.le_trans hn0 h.2.2.2.2.2.size), h.below hB⟩
theorem rdrop_held {n0 g o : Nat} {x : Line} {a b : Value} {R : List Line} {w0 : World} (hl : R.length ≤ 100000) (hn0 : n0 ≤ w0.heap.size) (W : World) (h : SP n0 g o x a b R w0 W) :
    Calls Tryd.prog 16 #[b, .string ⟨x.name.toArray⟩] W fun e w' => ∃ u, e = .returned u ∧ Own n0 u (drop R x.name) w' ∧ SP n0 g o x a b R w0 w' ∧ Below W.heap.size W w' := by
  refine (refDrop_any b R x.name W h.2.2.2.2.1.sees hl).mono ?_
  rintro e w' ⟨u, rfl, hO, hB⟩
  exact ⟨u, rfl, hO.mono (Nat.le_trans hn0 h.2.2.2.2.2.size), h.below hB, hB⟩
theorem put_held {n0 g o : Nat} {x : Line} {a b : Value} {R : List Line} {w0 : World} (hu : Up R) (hl : R.length ≤ 100000) (hn0 : n0 ≤ w0.heap.size) (W : World) (h : SP n0 g o x a b R w0 W) :
    Calls Tryd.prog 17 #[a, .agg #[.int .i64 x.size, .int .i64 x.time, .string ⟨x.name.toArray⟩]] W fun e w' => ∃ u, e = .returned u ∧ Own n0 u (put R x) w' ∧ SP n0 g o x a b R w0 w' := by
  refine (put_any h.2.2.2.1 x hu hl).mono ?_
  rintro e w' ⟨u, rfl, hO, hB⟩
  exact ⟨u, rfl, hO.mono (Nat.le_trans hn0 h.2.2.2.2.2.size), h.below hB⟩
theorem rput_held {n0 g o : Nat} {x : Line} {a b : Value} {R : List Line} {w0 : World} (hl : R.length ≤ 100000) (hn0 : n0 ≤ w0.heap.size) (W : World) (h : SP n0 g o x a b R w0 W) :
    Calls Tryd.prog 18 #[b, .agg #[.int .i64 x.size, .int .i64 x.time, .string ⟨x.name.toArray⟩]] W fun e w' => ∃ u, e = .returned u ∧ Own n0 u (put R x) w' ∧ SP n0 g o x a b R w0 w' ∧ Below W.heap.size W w' := by
  refine (refPut_any b R x W h.2.2.2.2.1.sees hl).mono ?_
  rintro e w' ⟨u, rfl, hO, hB⟩
  exact ⟨u, rfl, hO.mono (Nat.le_trans hn0 h.2.2.2.2.2.size), h.below hB, hB⟩

set_option maxRecDepth 100000 in
set_option maxHeartbeats 8000000 in
theorem sizesPlays_walk (v : Value) (ls : List Line) (N : ByteArray) (w : World) (hL : K.Laid w) (hR : Sees v ls w) (hsz : ls.length ≤ 9223372036854775807) (_ : Ints ls) :
    Calls Tryd.prog 4 #[v, .string N] w fun e w' => e = .returned (.bool true) ∧ Below w.heap.size w w' := by
  obtain ⟨n, rfl⟩ := bytes_eq N
  have ca := awake_any w hL
  cases hf : fewL ls with
  | false =>
    have cf := few_is hf w hR hsz
    clear hf hR
    go_enter Tryd.func4, Tryd.ntmps4
    go_wp2_with (first
      | (go_at_call 8; refine cf.mono ?_; rintro e w1 ⟨rfl, hw1⟩; obtain rfl := hw1.symm)
      | (go_at_call 9; refine ca.mono ?_; rintro e w2 ⟨rfl, hb2⟩))
    go_ret
    exact ⟨rfl, hb2⟩
  | true =>
    have cf := few_is hf w hR hsz
    by_cases hn : n.length ≤ 300
    · obtain ⟨_, hl⟩ := fewL_yes hf
      have HL := Lib.hid hL
      obtain ⟨oa, cap, rfl, hcells⟩ := hR
      have HC := Lib.hid hcells
      have hn' : ¬ (300 : Int) < n.length := by omega
      clear hf ca hL hcells hn
      go_enter Tryd.func4, Tryd.ntmps4
      go_wp2_with (go_at_call 8; refine cf.mono ?_; rintro e w1 ⟨rfl, hw1⟩; obtain rfl := hw1.symm)
      clear cf
      go_loopw [5, 6, 7] (fun a b i wr => ∃ k : Nat, k ≤ ls.length ∧ i = .int .i64 k ∧ Own w.heap.size a (plays (ls.take k)) wr ∧ Own w.heap.size b (plays (ls.take k)) wr ∧ Below w.heap.size w wr) (fun _ _ i _ => ls.length - (intOf i).toNat)
      case atStart => exact ⟨0, Nat.zero_le _, rfl, Own.nil _ _, Own.nil _ _, Below.refl _ _⟩
      case round =>
        obtain ⟨k, hk, rfl, hOa, hOb, hb⟩ := hrel
        have hup := up_plays (ls.take k)
        have hlen : (plays (ls.take k)).length ≤ 30 := by
          have := plays_len (ls.take k)
          rw [List.length_take] at this; omega
        by_cases hlt : k < ls.length
        · obtain ⟨x, hx⟩ : ∃ x, ls[k]? = some x := ⟨_, List.getElem?_eq_getElem hlt⟩
          obtain ⟨g, o, rfl, h0, h1, h2⟩ := HC.out k x hx
          have hg := World.block_lt_of_cell? _ _ h0
          have T0 : SP w.heap.size g (o + k * 3) x _ _ (plays (ls.take k)) w wr := ⟨(hb.cell (p := ⟨g, o + k * 3, none⟩) hg).trans h0, (hb.cell (p := ⟨g, o + k * 3 + 1, none⟩) hg).trans h1, (hb.cell (p := ⟨g, o + k * 3 + 2, none⟩) hg).trans h2, hOa, hOb, hb⟩
          have HS := Lib.hid (plays_take hx)
          have hlen2 := pl_len (plays (ls.take k)) x
          generalize plays (ls.take k) = R at T0 HS hup hlen hlen2
          have d1 := T0.2.1
          have T1 : SP w.heap.size g (o + k * 3) x _ _ R w wr.drew := T0.below ((Below.refl _ _).drew)
          clear h0 h1 h2 hx hOa hOb hb
          by_cases ht : x.time < 0
          · have cd := fun W h => drop_held (a := u5) (b := u6) (n0 := w.heap.size) (g := g) (o := o + k * 3) (x := x) (R := R) (w0 := w) hup (by omega) (Nat.le_refl _) W h
            have cr := fun W h => rdrop_held (a := u5) (b := u6) (n0 := w.heap.size) (g := g) (o := o + k * 3) (x := x) (R := R) (w0 := w) (by omega) (Nat.le_refl _) W h
            have HP : Hid (plays (ls.take (k + 1)) = drop R x.name) := Lib.hid (by rw [HS.out]; unfold pl; rw [if_pos ht])
            have hpl : (drop R x.name).length ≤ 100000 := by have := drop_len R x.name; omega
            generalize drop R x.name = R' at cd cr HP hpl
            go_wp2_with fail
            go_region_held3 (fun w' => w'.cell? ⟨g, o + k * 3, none⟩ = some (.int .i64 x.size) ∧ w'.cell? ⟨g, o + k * 3 + 1, none⟩ = some (.int .i64 x.time) ∧ w'.cell? ⟨g, o + k * 3 + 2, none⟩ = some (.string ⟨x.name.toArray⟩) ∧ Own w.heap.size u5 R w' ∧ Own w.heap.size u6 R w' ∧ Below w.heap.size w w') (first | exact T3 | exact T2 | exact T1 | exact T0)
              (first
                | (go_at_call 15; refine (cd _ (by assumption)).mono ?_; rintro e w2 ⟨ua, rfl, hO1, T2⟩)
                | (go_at_call 16; refine (cr _ (by assumption)).mono ?_; rintro e w3 ⟨ub, rfl, hO2, T3, hB3⟩))
            have HO1 := Lib.hid (hO1.below hB3)
            have HO2 := Lib.hid hO2
            have HB := Lib.hid T3.2.2.2.2.2
            clear hO1 hO2 T0 T1 T2 T3 hB3 cd cr
            go_wp2_with (go_at_call 12; refine (same_any _ _ R' R' hpl hpl _ HO1.out.sees HO2.out.sees).mono ?_; rintro e w4 ⟨rfl, hb4⟩; rw [decide_eq_true (rfl : R' = R')])
            go_roundw
            case rel => exact ⟨k + 1, by omega, by go_num, by rw [HP.out]; exact HO1.out.below hb4, by rw [HP.out]; exact HO2.out.below hb4, below_two HB.out hb4⟩
            case measure => simp [intOf]; omega
          · have cd := fun W h => put_held (a := u5) (b := u6) (n0 := w.heap.size) (g := g) (o := o + k * 3) (x := x) (R := R) (w0 := w) hup (by omega) (Nat.le_refl _) W h
            have cr := fun W h => rput_held (a := u5) (b := u6) (n0 := w.heap.size) (g := g) (o := o + k * 3) (x := x) (R := R) (w0 := w) (by omega) (Nat.le_refl _) W h
            have HP : Hid (plays (ls.take (k + 1)) = put R x) := Lib.hid (by rw [HS.out]; unfold pl; rw [if_neg ht])
            have hpl : (put R x).length ≤ 100000 := by have := put_len R x; omega
            generalize put R x = R' at cd cr HP hpl
            go_wp2_with fail
            go_region_held3 (fun w' => w'.cell? ⟨g, o + k * 3, none⟩ = some (.int .i64 x.size) ∧ w'.cell? ⟨g, o + k * 3 + 1, none⟩ = some (.int .i64 x.time) ∧ w'.cell? ⟨g, o + k * 3 + 2, none⟩ = some (.string ⟨x.name.toArray⟩) ∧ Own w.heap.size u5 R w' ∧ Own w.heap.size u6 R w' ∧ Below w.heap.size w w') (first | exact T3 | exact T2 | exact T1 | exact T0)
              (first
                | (go_at_call 17; refine (cd _ (by assumption)).mono ?_; rintro e w2 ⟨ua, rfl, hO1, T2⟩)
                | (go_at_call 18; refine (cr _ (by assumption)).mono ?_; rintro e w3 ⟨ub, rfl, hO2, T3, hB3⟩))
            have HO1 := Lib.hid (hO1.below hB3)
            have HO2 := Lib.hid hO2
            have HB := Lib.hid T3.2.2.2.2.2
            clear hO1 hO2 T0 T1 T2 T3 hB3 cd cr
            go_wp2_with (go_at_call 12; refine (same_any _ _ R' R' hpl hpl _ HO1.out.sees HO2.out.sees).mono ?_; rintro e w4 ⟨rfl, hb4⟩; rw [decide_eq_true (rfl : R' = R')])
            go_roundw
            case rel => exact ⟨k + 1, by omega, by go_num, by rw [HP.out]; exact HO1.out.below hb4, by rw [HP.out]; exact HO2.out.below hb4, below_two HB.out hb4⟩
            case measure => simp [intOf]; omega
        · obtain ⟨W1, hW1⟩ : ∃ W1, W1 = wr := ⟨_, rfl⟩
          rw [← hW1] at hOa hOb hb ⊢
          clear hW1
          have hall : ls.take k = ls := List.take_of_length_le (by omega)
          rw [hall] at hOa hOb hup hlen
          generalize plays ls = R at hOa hOb hup hlen
          have HSa := Lib.hid hOa.sees
          obtain ⟨ob, cb, rfl, hcb⟩ := hOb.sees
          have HSb := Lib.hid hOb.sees
          have HCb := Lib.hid hcb
          have HBw := Lib.hid hb
          obtain ⟨oa, ca, rfl, hca⟩ := hOa.sees
          have HUp := Lib.hid hup
          clear hall hOa hOb hcb hca hb hup HC
          go_wp2_with fail
          go_loopw [8] (fun i w5 => ∃ k : Nat, k ≤ R.length ∧ i = .int .i64 k ∧ Below W1.heap.size W1 w5) (fun i _ => R.length - (intOf i).toNat)
          case atStart => exact ⟨0, Nat.zero_le _, rfl, Below.refl _ _⟩
          case round =>
            obtain ⟨j, hj, rfl, hb5⟩ := hrel
            by_cases hjl : j < R.length
            · obtain ⟨x, hx⟩ : ∃ x, R[j]? = some x := ⟨_, List.getElem?_eq_getElem hjl⟩
              obtain ⟨g, o, rfl, h0, h1, h2⟩ := HCb.out j x hx
              have hxm : x ∈ R := List.mem_of_getElem? hx
              obtain ⟨ht1, ht2⟩ := lineOf_mem HUp.out hxm
              have cf := fun w' (hb' : Below W1.heap.size W1 w') => find_any (HSa.out.below hb') x.name HUp.out (by omega)
              rw [ht1, ht2] at cf
              have hg := World.block_lt_of_cell? _ _ h0
              have d0 := (hb5.cell (p := ⟨g, o + j * 3, none⟩) hg).trans h0
              have d1 := (hb5.cell (p := ⟨g, o + j * 3 + 1, none⟩) hg).trans h1
              have d2 := (hb5.cell (p := ⟨g, o + j * 3 + 2, none⟩) hg).trans h2
              have HD := Lib.hid (And.intro h0 (And.intro h1 h2))
              clear h0 h1 h2 hx hxm ht1 ht2
              go_wp2_with (go_at_call 19; refine (cf _ (by first | exact hb5 | exact hb5.drew)).mono ?_; rintro e w6 ⟨rfl, hb6⟩
                           have hb7 := filled x w6
                           obtain ⟨f0, f1, f2, _, _, _⟩ := (Box3.new x w6).facts
                           have hb8 := below_two (below_two hb5 hb6) hb7
                           have e0 := (hb8.cell (p := ⟨g, o + j * 3, none⟩) hg).trans HD.out.1
                           have e1 := (hb8.cell (p := ⟨g, o + j * 3 + 1, none⟩) hg).trans HD.out.2.1
                           have e2 := (hb8.cell (p := ⟨g, o + j * 3 + 2, none⟩) hg).trans HD.out.2.2)
              go_region
              go_wp2
              go_roundw
              case rel => exact ⟨j + 1, by omega, by go_num, hb8.drew⟩
              case measure => simp [intOf]; omega
            · have hfind := fun w' (hb' : Below W1.heap.size W1 w') => find_any (HSa.out.below hb') n HUp.out (by omega)
              have cd := fun w' (hb' : Below W1.heap.size W1 w') => refDrop_any _ R n w' (HSb.out.below hb') (by omega)
              have hth := there_len HUp.out n
              have hdl := drop_len R n
              generalize lineOf R n = y at hfind
              generalize drop R n = R' at cd hth hdl
              have ca2 := fun w' (hb' : Below w.heap.size w w') => awake_any w' (HL.out.of_below hb')
              clear HUp HSa HSb HCb
              cases ht : there R n with
              | false =>
                rw [ht] at hfind hth
                have hge : ¬ R'.length < R.length := fun e => by simp [e] at hth
                clear hth ht
                go_wp2_with (first
                  | (go_at_call 19; refine (hfind _ (by first | exact hb5 | exact hb5.drew)).mono ?_; rintro e w6 ⟨rfl, hb6⟩; have hb7 := below_two (below_two hb5 hb6) (filled y w6))
                  | (go_at_call 16; refine (cd _ (by first | exact hb7 | exact hb7.drew)).mono ?_; rintro e w8 ⟨u8, rfl, hO8, hb8⟩; obtain ⟨o8, c8, rfl, _⟩ := hO8.sees; have hb9 := below_two HBw.out (below_two hb7 hb8))
                  | (go_at_call 9; refine (ca2 _ (by first | exact hb9 | exact hb9.drew)).mono ?_; rintro e w10 ⟨rfl, hb10⟩))
                go_ret
                exact ⟨rfl, below_two hb9 hb10⟩
              | true =>
                rw [ht] at hfind hth
                have hge : R'.length < R.length := by simpa using hth.symm
                clear hth ht
                go_wp2_with (first
                  | (go_at_call 19; refine (hfind _ (by first | exact hb5 | exact hb5.drew)).mono ?_; rintro e w6 ⟨rfl, hb6⟩; have hb7 := below_two (below_two hb5 hb6) (filled y w6))
                  | (go_at_call 16; refine (cd _ (by first | exact hb7 | exact hb7.drew)).mono ?_; rintro e w8 ⟨u8, rfl, hO8, hb8⟩; obtain ⟨o8, c8, rfl, _⟩ := hO8.sees; have hb9 := below_two HBw.out (below_two hb7 hb8))
                  | (go_at_call 9; refine (ca2 _ (by first | exact hb9 | exact hb9.drew)).mono ?_; rintro e w10 ⟨rfl, hb10⟩))
                go_ret
                exact ⟨rfl, below_two hb9 hb10⟩
    · have hn' : (300 : Int) < n.length := by omega
      clear hf hR hn
      go_enter Tryd.func4, Tryd.ntmps4
      go_wp2_with (first
        | (go_at_call 8; refine cf.mono ?_; rintro e w1 ⟨rfl, hw1⟩; obtain rfl := hw1.symm)
        | (go_at_call 9; refine ca.mono ?_; rintro e w2 ⟨rfl, hb2⟩))
      go_ret
      exact ⟨rfl, hb2⟩
end Go.Proofs.YtolobnokpmbajaaDoor.Z
