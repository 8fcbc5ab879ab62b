/-
  fresh.Free: the first name that is none of those that are taken.
-/
import Derived.Test.YtpgikopajbjjhaaDoorFiter
import Derived.Maps.OwnIn
import Derived.Maps.Views
namespace Go.Proofs.YtpgikopajbjjhaaDoor.F
open Go.RowKit Go.Shelf Go.Maps
attribute [local go_sem] Oper.semAt_some

/-- who reads this slice sees these texts -/
def Sees (v : Value) (ps : List (List UInt8)) (w : World) : Prop :=
  ∃ oa cap, v = .slice oa ps.length cap ∧ ∀ k p, ps[k]? = some p → ∃ g o, oa = some ⟨g, o, none⟩ ∧ w.cell? ⟨g, o + k, none⟩ = some (.string ⟨p.toArray⟩)
theorem Sees.below {v : Value} {ps : List (List UInt8)} {w w' : World} (h : Sees v ps w) (hb : Below w.heap.size w w') : Sees v ps w' := by
  obtain ⟨oa, cap, rfl, hc⟩ := h
  refine ⟨oa, cap, rfl, fun k p hk => ?_⟩
  obtain ⟨g, o, rfl, hcell⟩ := hc k p hk
  exact ⟨g, o, rfl, (hb.cell (p := ⟨g, o + k, none⟩) (World.block_lt_of_cell? _ _ hcell)).trans hcell⟩

theorem law : Keyed Tryd.prog 9 := string_keyed Tryd.underlying9
theorem zeroU (w : World) : (zeroValue 37).run Tryd.prog w = .ok (.agg #[]) w := by kernel_rfl
theorem makeMap_hint (v : Int) (w : World) : (Instr.makeMap 36 (some (.int .i64 v))).run Tryd.prog w = .ok (.map (some w.heap.size)) (w.alloc (.map #[] 0)) := by
  have hu := run_underlying Tryd.underlying36
  simp [Instr.makeMap, go_sem, hu]
theorem key_of (l : List UInt8) (h : l.length ≤ maxLen) : keyOf Tryd.prog 9 (.string ⟨l.toArray⟩) = some (.string l) := by
  have := Go.WideMaps.keyOf_string_mk Tryd.underlying9 (s := ⟨l.toArray⟩) (by rw [size_l]; exact h)
  rw [this]
/-- the set of those that are taken -/
def Set_ (D : DataW Unit) (ps : List (List UInt8)) : Prop := ∀ x, Maps.has D (.string x) = decide (x ∈ ps)
theorem Set_.start : Set_ (.map []) [] := fun x => by simp [Maps.has]
theorem Set_.put {D : DataW Unit} {ps : List (List UInt8)} {k : Nat} {p : List UInt8} (h : Set_ D (ps.take k)) (hD : IsMap D) (hp : ps[k]? = some p) (d : DataW Unit) : Set_ (D.put (.string p) d) (ps.take (k + 1)) := fun x => by
  rw [mem_take hp]
  by_cases e : p = x
  · subst e
    rw [has_put_same (k := .string p) hD (show WideAt.IsKeyLit (.string p) from True.intro)]
    simp
  · rw [has_put_other (by intro h; injection h with h; exact e h.symm), h x]
    simp [e]
theorem map_own {β : Type} {P : Program} {k : TypeId} {R : Value → Option (DataW Unit × List MemPlace)} {b n : Nat} {D : DataW Unit} {B : Nat} (hb : b < B) : OwnFrom B (fun (_ : β) W => W.ownsMap P k R b n D) :=
  fun _ _ _ row hs hg hr => hs.kept hg (fun e => by have := (hr b e.symm).1; omega)
theorem found_own {β : Type} (B : Nat) (p : β → List UInt8 → Prop) : Own (fun (s : β) W => ∃ x, p s x ∧ Boxed W B 9 (.string ⟨x.toArray⟩)) := fun s X Y row hs hg hrow => by
  obtain ⟨x, hp, hr⟩ := hs
  exact ⟨x, hp, hr.kept hg (fun e' => by obtain ⟨o, ho, hc⟩ := hrow B e'.symm; rw [show X.heap[B]? = _ from hr] at ho; cases ho; cases hc)⟩

/-- the last of these names is not taken, the others are -/
def fr_hit (ps pre : List (List UInt8)) (x : List UInt8) : Prop := ∃ q, pre = q ++ [x] ∧ (∀ p ∈ q, p ∈ ps) ∧ x ∉ ps

set_option maxRecDepth 100000 in
set_option maxHeartbeats 4000000 in
theorem free_any (b : List UInt8) (v : Value) (ps : List (List UInt8)) (w : World) (hL : K.Laid w) (hR : Sees v ps w) (hb : b.length ≤ 5000) (hp : ∀ p ∈ ps, p.length ≤ maxLen) (hl : ps.length ≤ 100000) :
    Calls Tryd.prog 10 #[.string ⟨b.toArray⟩, v] w fun e w' => e = .returned (.tuple #[.string ⟨((fr b ps).getD []).toArray⟩, .bool (fr b ps).isSome]) ∧ Below w.heap.size w w' := by
  obtain ⟨oa, cap, rfl, hcells⟩ := hR
  have HC := Lib.hid hcells; have HP := Lib.hid hp; have HL := Lib.hid hL
  clear hcells hp hL
  have hmm := makeMap_hint
  refine (callsIn_wide (n := 5)).1 ?_
  refine callsIn_of_wp_marks Tryd.func10 rfl trivial ?_ rfl
  simp only [Tryd.ntmps10, List.size_toArray, List.length_cons, List.length_nil, Nat.reduceAdd, Nat.reduceSub, Array.replicate_succ, Array.replicate_zero, List.push_toArray, List.append_toArray, List.nil_append, List.cons_append]
  gi_wp2
  gi_loopw [17] (fun i wr => ∃ (k : Nat) (D : DataW Unit), i = .int .i64 k ∧ k ≤ ps.length ∧ wr.ownsMap Tryd.prog 9 unitElem (w.heap.size + 1 + 1) k D ∧ Set_ D (ps.take k) ∧
      Boxed wr w.heap.size 9 (.string ⟨#[]⟩) ∧ Boxed wr (w.heap.size + 1) 4 (.bool false) ∧ Boxed wr (w.heap.size + 1 + 1 + 1) 36 (.map (some (w.heap.size + 1 + 1))) ∧ Below w.heap.size w wr) (fun i _ => ps.length - (intOf i).toNat)
  case atStart =>
    have b0 := (((Boxed.new w 9 (.string ⟨#[]⟩)).alloc (.cells #[.bool false] 4)).alloc (.map #[] 0)).alloc (.cells #[.map (some (w.heap.size + 1 + 1))] 36)
    have b1 := ((Boxed.new (w.alloc (.cells #[.string ⟨#[]⟩] 9)) 4 (.bool false)).alloc (.map #[] 0)).alloc (.cells #[.map (some (w.heap.size + 1 + 1))] 36)
    rw [World.size_alloc] at b1
    have b2 := (World.ownsMap_made ((w.alloc (.cells #[.string ⟨#[]⟩] 9)).alloc (.cells #[.bool false] 4)) Tryd.prog 9 (unitElem (H := Unit))).alloc (.cells #[.map (some (w.heap.size + 1 + 1))] 36)
    rw [World.size_alloc, World.size_alloc] at b2
    have b3 := Boxed.new (((w.alloc (.cells #[.string ⟨#[]⟩] 9)).alloc (.cells #[.bool false] 4)).alloc (.map #[] 0)) 36 (.map (some (w.heap.size + 1 + 1)))
    rw [World.size_alloc, World.size_alloc, World.size_alloc] at b3
    exact ⟨0, _, rfl, Nat.zero_le _, b2, Set_.start, b0, b1, b3, ((((Below.refl _ w).alloc (Nat.le_refl _) _).alloc (by simp) _).alloc (by simp; omega) _).alloc (by simp; omega) _⟩
  case round =>
    obtain ⟨k, D, rfl, hk, hown, hset, b0, b1, b3, hbw⟩ := hrel
    have HS := Lib.hid hset
    clear hset
    have hcm := b3.cell
    by_cases hlt : k < ps.length
    · obtain ⟨p, hp⟩ : ∃ p, ps[k]? = some p := ⟨_, List.getElem?_eq_getElem hlt⟩
      have hkey := key_of p (HP.out p (List.mem_of_getElem? hp))
      have HN : Hid (Set_ (D.put (.string p) (.agg [])) (ps.take (k + 1))) := Lib.hid (HS.out.put hown.isMap hp _)
      obtain ⟨g, o, rfl, hcell⟩ := HC.out k p hp
      have hcell' : wr.cell? ⟨g, o + k, none⟩ = some (.string ⟨p.toArray⟩) := (hbw.cell (p := ⟨g, o + k, none⟩) (World.block_lt_of_cell? _ _ hcell)).trans hcell
      clear hcell hp
      gi_wp2_with (gi_at_mapUpdate; refine wpListIn_mapUpdate_own _ rfl _ _ _ 36 rfl 9 37 law Tryd.underlying36 (unitElem (H := Unit)) (w.heap.size + 1 + 1) k D rfl hown (by unfold maxLen; omega) _ _ _ rfl rfl hkey _ [] unitElem_mk ?_; intro w1 hown1 hgrow1)
      go_roundw
      case rel => exact ⟨k + 1, _, by go_num, by omega, hown1, HN.out, b0.kept hgrow1 (by simp; omega), b1.kept hgrow1 (by simp), b3.kept hgrow1 (by simp), hbw.grown hgrow1 hbw.size (fun j e => by cases e; omega)⟩
      case measure => simp [intOf]; omega
    · have hSet : Hid (Set_ D ps) := Lib.hid (by have := HS.out; rwa [List.take_of_length_le (by omega)] at this)
      clear HS
      gi_wp2_with (refine ⟨trivial, ?_⟩; gi_at_call 6; refine (names_in _ _ _).mono ?_; rintro e w' ⟨rfl, rfl⟩)
      clear hmm hcm HC HP hlt
      have hroom := HL.out.room
      have h3 := b3.lt
      have hBw : Below w.heap.size w (wr.alloc (.cells #[.string ⟨b.toArray⟩] 9)) := hbw.alloc hbw.size _
      have hLw := HL.out.of_below hBw
      have bN := Boxed.new wr 9 (.string ⟨b.toArray⟩)
      refine wpIn_rangeFunc_ownG rfl (by omega) (gf := 11) (lb := #[.pointer (some ⟨wr.heap.size, 0, none⟩)]) rfl trivial (enters_of Tryd.func11 (by kernel_rfl) rfl)
        (names_stops _ (by omega) wr.heap.size (wr.heap.size + 1) b hb (by omega) _ (by omega) (by simp) hLw bN.cell) belowK_t (belowK_b (by simp)) (Below.refl _ _) (fun _ => rfl)
        (fun pre W => (∀ p ∈ raw pre, p ∈ ps) ∧ Boxed W w.heap.size 9 (.string ⟨#[]⟩) ∧ Boxed W (w.heap.size + 1) 4 (.bool false) ∧ Boxed W (w.heap.size + 1 + 1 + 1) 36 (.map (some (w.heap.size + 1 + 1))) ∧
          W.ownsMap Tryd.prog 9 unitElem (w.heap.size + 1 + 1) k D ∧ Below (wr.heap.size + 1) (wr.alloc (.cells #[.string ⟨b.toArray⟩] 9)) W)
        (fun c pre W => (∃ x, (c = .ret ∧ fr_hit ps (raw pre) x) ∧ Boxed W w.heap.size 9 (.string ⟨x.toArray⟩)) ∧ Boxed W (w.heap.size + 1) 4 (.bool true) ∧ Below w.heap.size w W)
        (OwnFrom.and (ownFrom_pure _ _) (OwnFrom.and (Own.from (boxed_own _ _ (fun _ => .string ⟨#[]⟩)) _) (OwnFrom.and (Own.from (boxed_own _ _ (fun _ => .bool false)) _) (OwnFrom.and (Own.from (boxed_own _ _ (fun _ => .map (some (w.heap.size + 1 + 1)))) _) (OwnFrom.and (map_own (by simp; omega)) (ownFrom_below (by simp) (by simp)))))))
        (fun c => OwnFrom.and (Own.from (found_own w.heap.size (fun (pre : List Nm) x => c = .ret ∧ fr_hit ps (raw pre) x)) _) (OwnFrom.and (Own.from (boxed_own _ _ (fun _ => .bool true)) _) (ownFrom_below (Nat.le_refl _) (by simp; omega))))
        ⟨by simp [raw], b0.alloc _, b1.alloc _, b3.alloc _, hown.alloc _, Below.refl _ _⟩
        ?a1 ?assign ?body ?done ?stop
      case assign =>
        intro l x W K hK
        gi_wp2
        exact hK
      case body =>
        rintro l pre ⟨x, hxl⟩ W ⟨hin, c0, c1, c3, hmap, hB⟩ hN
        have hsz := hB.size
        rw [World.size_alloc] at hsz
        have hBh := hBw.trans (hB.mono (show w.heap.size ≤ wr.heap.size + 1 by omega))
        have hcm := c3.cell
        have hc0 := c0.cell
        have hf0 := c0.frozen
        have hc1 := c1.cell
        have hf1 := c1.frozen
        have hkey := key_of x (by unfold maxLen; omega)
        have hh := hSet.out x
        clear b0 b1 b3 hown bN hLw hSet hbw hl hN
        by_cases hx : x ∈ ps
        · rw [decide_eq_true hx] at hh
          have HI : Hid (∀ p ∈ raw (pre ++ [⟨x, hxl⟩]), p ∈ ps) := Lib.hid (by
            rw [raw_snoc]; intro p hp
            rcases List.mem_append.1 hp with h | h
            · exact hin p h
            · simp at h; subst h; exact hx)
          have C0 := Lib.hid c0; have C1 := Lib.hid c1; have C3 := Lib.hid c3; have HM := Lib.hid hmap
          clear hin hx c0 c1 c3
          gi_wp2_with (gi_at_lookup; refine wpListIn_lookup_own_unit _ rfl _ _ 36 rfl 9 37 law Tryd.underlying36 (zeroU _) (w.heap.size + 1 + 1) k D rfl hmap _ _ rfl hkey ?_; rw [hh])
          exact ⟨(KeepsOthers.alloc _ _).from _, (Below.refl _ _).alloc hsz _, HI.out, C0.out.alloc _, C1.out.alloc _, C3.out.alloc _, HM.out.alloc _, hB.alloc hsz _⟩
        · rw [decide_eq_false hx] at hh
          have HI : Hid (fr_hit ps (raw (pre ++ [⟨x, hxl⟩])) x) := Lib.hid ⟨raw pre, raw_snoc _ _, hin, hx⟩
          have d0 := c0.alloc (.cells #[] 37)
          have d1 := (c1.alloc (.cells #[] 37)).other (B' := w.heap.size) (by omega) (.string ⟨x.toArray⟩)
          have hd0 := d0.cell; have hd1 := d0.frozen; have hd2 := d1.cell; have hd3 := d1.frozen
          have D0 := Lib.hid d0; have D1 := Lib.hid d1
          clear hin hx c0 c1 c3 d0 d1 hc0 hf0 hc1 hf1
          gi_wp2_with (gi_at_lookup; refine wpListIn_lookup_own_unit _ rfl _ _ 36 rfl 9 37 law Tryd.underlying36 (zeroU _) (w.heap.size + 1 + 1) k D rfl hmap _ _ rfl hkey ?_; rw [hh])
          exact ⟨(((KeepsOthers.alloc _ _).trans (KeepsOthers.setCell _ _ _)).trans (KeepsOthers.setCell _ _ _)).from _, ⟨x, ⟨rfl, HI.out⟩, (D0.out.set _).other (by omega) _⟩, D1.out.set _,
            ((hBh.alloc hBh.size _).setCell (p := ⟨w.heap.size, 0, none⟩) (Nat.le_refl _) _).setCell (p := ⟨w.heap.size + 1, 0, none⟩) (Nat.le_succ _) _⟩
      case done =>
        rintro Dd ys W hD hys ⟨hin, c0, c1, c3, hmap, hB⟩ hK
        have hc0 := c0.cell
        have hf0 := c0.frozen
        have hc1 := c1.cell
        have hf1 := c1.frozen
        have d1 := c1.other (B' := w.heap.size) (by omega) (.string ⟨#[]⟩)
        have hd2 := d1.cell; have hd3 := d1.frozen
        have HF : Hid (fr b ps = none) := Lib.hid (fr_none (by rw [← hys]; exact hin))
        clear b0 b1 b3 hown bN hLw hSet hbw hin hys
        gi_wp2
        rw [World.size_alloc] at hD
        have hK2 := (Below.heap_setCell (W.setCell ⟨w.heap.size, 0, none⟩ (.string ⟨#[]⟩)) ⟨w.heap.size + 1, 0, none⟩ (.bool false) Dd (show Dd ≠ w.heap.size + 1 by omega)).trans ((Below.heap_setCell W ⟨w.heap.size, 0, none⟩ (.string ⟨#[]⟩) Dd (show Dd ≠ w.heap.size by omega)).trans hK)
        refine ⟨by simp, .inl ⟨_, _, rfl, run_takeDeferred hK2, ?_⟩⟩
        have e0 := (((c0.set (.string ⟨#[]⟩)).other (show w.heap.size ≠ w.heap.size + 1 by omega) (.bool false)).kept (grownBy_putObj' _ Dd (.deferred none)) (by intro e; cases e; omega)).cell
        have e1 := ((d1.set (.bool false)).kept (grownBy_putObj' _ Dd (.deferred none)) (by intro e; cases e; omega)).cell
        have hBh := hBw.trans (hB.mono (show w.heap.size ≤ wr.heap.size + 1 by omega))
        refine ⟨_, by simp [results, Tryd.results10, go_sem, e0, e1]; rfl, ?_, ?_⟩
        · rw [HF.out]; rfl
        · exact ((hBh.setCell (p := ⟨w.heap.size, 0, none⟩) (Nat.le_refl _) _).setCell (p := ⟨w.heap.size + 1, 0, none⟩) (Nat.le_succ _) _).trans (belowK_b (n₀ := w.heap.size) (w := w) (Nat.le_refl _) _ Dd _ _ (by omega) hK2 rfl rfl)
      case stop =>
        rintro Dd c pre W hD hSp ⟨⟨x, ⟨rfl, q, hq, hqi, hx⟩, c0⟩, c1, hB⟩ hK
        have hc0 := c0.cell
        have hc1 := c1.cell
        have HF : Hid (fr b ps = some x) := Lib.hid (fr_at (by rw [← hq]; exact hSp) hqi hx)
        clear b0 b1 b3 hown bN hLw hSet hbw hSp hq hqi hx
        gi_wp2
        refine ⟨by simp, .inl ⟨_, _, rfl, run_takeDeferred hK, ?_⟩⟩
        have e0 := (c0.kept (grownBy_putObj' _ Dd (.deferred none)) (by intro e; cases e; simp at hD; omega)).cell
        have e1 := (c1.kept (grownBy_putObj' _ Dd (.deferred none)) (by intro e; cases e; simp at hD; omega)).cell
        refine ⟨_, by simp [results, Tryd.results10, go_sem, e0, e1]; rfl, ?_, ?_⟩
        · rw [HF.out]; rfl
        · exact hB.trans (belowK_b (n₀ := w.heap.size) (w := w) (Nat.le_refl _) W Dd _ _ (by simp at hD; omega) hK rfl rfl)
end Go.Proofs.YtpgikopajbjjhaaDoor.F
