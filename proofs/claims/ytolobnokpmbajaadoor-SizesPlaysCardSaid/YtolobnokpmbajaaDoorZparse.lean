/-
  sizes.Parse.
-/
import Derived.Test.YtolobnokpmbajaaDoorZtail
import Derived.Test.YtolobnokpmbajaaDoorZsplit
import Derived.Test.YtolobnokpmbajaaDoorZread
namespace Go.Proofs.YtolobnokpmbajaaDoor.Z
open Go.RowKit Go.Shelf
attribute [local go_sem] Oper.semAt_some

/-- the lines of texts -/
def fnd (ts : List (List UInt8)) : List Line := ts.filterMap rd
theorem fnd_take {ts : List (List UInt8)} {k : Nat} {t : List UInt8} (h : ts[k]? = some t) : fnd (ts.take (k + 1)) = fnd (ts.take k) ++ (rd t).toList := by
  rw [List.take_add_one, h]
  unfold fnd
  rw [List.filterMap_append]
  cases hr : rd t <;> simp [hr]
theorem fnd_len (ts : List (List UInt8)) : (fnd ts).length ≤ ts.length := List.length_filterMap_le _ _

set_option maxHeartbeats 1000000 in
theorem splitSeq_any (s : List UInt8) (w : World) : Calls Tryd.prog 58 #[.string ⟨s.toArray⟩, .string ⟨#[10]⟩, .int .i64 0] w fun e w' =>
    e = .returned (.func (.func 74) #[] #[.pointer (some ⟨w.heap.size + 1, 0, none⟩), .pointer (some ⟨w.heap.size, 0, none⟩), .pointer (some ⟨w.heap.size + 2, 0, none⟩)]) ∧
    w' = ((w.alloc (.cells #[.string ⟨s.toArray⟩] 9)).alloc (.cells #[.string ⟨#[10]⟩] 9)).alloc (.cells #[.int .i64 0] 3) := by
  go_enter Tryd.func58, Tryd.ntmps58
  go_wp2
  go_ret
  exact ⟨rfl, rfl⟩
set_option maxHeartbeats 1000000 in
theorem SplitSeq_any (s : List UInt8) (w : World) : Calls Tryd.prog 34 #[.string ⟨s.toArray⟩, .string ⟨#[10]⟩] w fun e w' =>
    e = .returned (.func (.func 74) #[] #[.pointer (some ⟨w.heap.size + 1, 0, none⟩), .pointer (some ⟨w.heap.size, 0, none⟩), .pointer (some ⟨w.heap.size + 2, 0, none⟩)]) ∧
    w' = ((w.alloc (.cells #[.string ⟨s.toArray⟩] 9)).alloc (.cells #[.string ⟨#[10]⟩] 9)).alloc (.cells #[.int .i64 0] 3) := by
  go_enter Tryd.func34, Tryd.ntmps34
  go_wp2_with (go_at_call 58; refine (splitSeq_any s _).mono ?_; rintro e w1 ⟨rfl, rfl⟩)
  go_ret
  exact ⟨rfl, rfl⟩

theorem read_none {t : List UInt8} (ht : t.length ≤ 5000) (h : rd t = none) (w : World) : Calls Tryd.prog 35 #[.string ⟨t.toArray⟩] w fun e w' => e = .returned (.tuple #[.agg #[.int .i64 0, .int .i64 0, .string ⟨#[]⟩], .bool false]) ∧ Below w.heap.size w w' :=
  (read_any t ht w).mono fun e w' ⟨he, hb⟩ => ⟨by unfold LineOut at he; rw [h] at he; exact he, hb⟩
theorem read_some {t : List UInt8} {x : Line} (ht : t.length ≤ 5000) (h : rd t = some x) (w : World) : Calls Tryd.prog 35 #[.string ⟨t.toArray⟩] w fun e w' => e = .returned (.tuple #[.agg #[.int .i64 x.size, .int .i64 x.time, .string ⟨x.name.toArray⟩], .bool true]) ∧ Below w.heap.size w w' :=
  (read_any t ht w).mono fun e w' ⟨he, hb⟩ => ⟨by unfold LineOut at he; rw [h] at he; exact he, hb⟩
theorem own_mono {B B' n : Nat} {v : Value} {xs : List Value} {w : World} (h : w.ownsRow B 30 3 v n xs) (hb : B' ≤ B) : w.ownsRow B' 30 3 v n xs := by
  refine ⟨h.1, h.2.imp id ?_⟩
  rintro ⟨g, cap, cur, h1, h2, h3⟩
  exact ⟨g, cap, cur, h1, Nat.le_trans hb h2, h3⟩
theorem sees_putObj {v : Value} {ls : List Line} {w : World} {D : Nat} {ds : Option (List Deferred)} (h : Sees v ls w) (hD : w.heap[D]? = some (.deferred ds)) (o : Obj) : Sees v ls (w.putObj D o) := by
  obtain ⟨oa, cap, rfl, hc⟩ := h
  refine ⟨oa, cap, rfl, fun k x hk => ?_⟩
  obtain ⟨g, o', rfl, h0, h1, h2⟩ := hc k x hk
  have hne : g ≠ D := by
    rintro rfl
    unfold World.cell? at h0
    simp [hD] at h0
  have e : (w.putObj D o).heap[g]? = w.heap[g]? := World.putObj_heap_other hne
  exact ⟨g, o', rfl, (World.cell?_of_block e).trans h0, (World.cell?_of_block e).trans h1, (World.cell?_of_block e).trans h2⟩
theorem keeps_below {B : Nat} {X Y : World} (h : Below X.heap.size X Y) : KeepsFrom B X Y := KeepsFrom.of_grownBy (row := none) ⟨h.os, h.tape, h.output, h.size, fun k hk _ => h.block k hk⟩ (fun j e => by cases e)
set_option maxRecDepth 100000 in
set_option maxHeartbeats 4000000 in
theorem parse_any (s : List UInt8) (hs : s.length ≤ 900000) (hmem : ∀ t ∈ I.lines s, t.length ≤ 5000) (w : World) :
    Calls Tryd.prog 13 #[.string ⟨s.toArray⟩] w fun e w' => ∃ u ms, e = .returned u ∧ Stab (fnd (I.lines s)).reverse ms ∧ Sees u (compact ms) w' ∧ Below w.heap.size w w' := by
  obtain ⟨L, hL⟩ : ∃ L, I.lines s = L := ⟨_, rfl⟩
  rw [hL] at hmem ⊢
  have HLL := Lib.hid hL
  clear hL
  refine (callsIn_wide (n := 5)).1 ?_
  refine callsIn_of_wp_marks Tryd.func13 rfl trivial ?_ rfl
  simp only [Tryd.ntmps13, List.size_toArray, List.length_cons, List.length_nil, Nat.reduceAdd, Nat.reduceSub, Array.replicate_succ, Array.replicate_zero, List.push_toArray, List.append_toArray, List.nil_append, List.cons_append]
  gi_wp2_with (refine ⟨trivial, ?_⟩; gi_at_call 34; refine (callsIn_wide.2 (SplitSeq_any s _)).mono ?_; rintro e w' ⟨rfl, rfl⟩)
  obtain ⟨F, hF⟩ : ∃ F, w.heap.size = F := ⟨_, rfl⟩
  have bp : Boxed ((((w.alloc (.cells #[.slice none 0 0] 22)).alloc (.cells #[.string ⟨s.toArray⟩] 9)).alloc (.cells #[.string ⟨#[10]⟩] 9)).alloc (.cells #[.int .i64 0] 3)) (F + 1 + 1) 9 (.string ⟨#[10]⟩) := by
    have := (Boxed.new ((w.alloc (.cells #[.slice none 0 0] 22)).alloc (.cells #[.string ⟨s.toArray⟩] 9)) 9 (.string ⟨#[10]⟩)).alloc (.cells #[.int .i64 0] 3)
    rwa [World.size_alloc, World.size_alloc, hF] at this
  have bc : Boxed ((((w.alloc (.cells #[.slice none 0 0] 22)).alloc (.cells #[.string ⟨s.toArray⟩] 9)).alloc (.cells #[.string ⟨#[10]⟩] 9)).alloc (.cells #[.int .i64 0] 3)) (F + 1) 9 (.string ⟨s.toArray⟩) := by
    have := ((Boxed.new (w.alloc (.cells #[.slice none 0 0] 22)) 9 (.string ⟨s.toArray⟩)).alloc (.cells #[.string ⟨#[10]⟩] 9)).alloc (.cells #[.int .i64 0] 3)
    rwa [World.size_alloc, hF] at this
  have bv : Boxed ((((w.alloc (.cells #[.slice none 0 0] 22)).alloc (.cells #[.string ⟨s.toArray⟩] 9)).alloc (.cells #[.string ⟨#[10]⟩] 9)).alloc (.cells #[.int .i64 0] 3)) (F + 1 + 2) 3 (.int .i64 0) := by
    have := Boxed.new (((w.alloc (.cells #[.slice none 0 0] 22)).alloc (.cells #[.string ⟨s.toArray⟩] 9)).alloc (.cells #[.string ⟨#[10]⟩] 9)) 3 (.int .i64 0)
    rwa [World.size_alloc, World.size_alloc, World.size_alloc, hF] at this
  have bf : Boxed ((((w.alloc (.cells #[.slice none 0 0] 22)).alloc (.cells #[.string ⟨s.toArray⟩] 9)).alloc (.cells #[.string ⟨#[10]⟩] 9)).alloc (.cells #[.int .i64 0] 3)) F 22 (.slice none 0 0) := by
    have := (((Boxed.new w 22 (.slice none 0 0)).alloc (.cells #[.string ⟨s.toArray⟩] 9)).alloc (.cells #[.string ⟨#[10]⟩] 9)).alloc (.cells #[.int .i64 0] 3)
    rwa [hF] at this
  have hB0 : Below F w ((((w.alloc (.cells #[.slice none 0 0] 22)).alloc (.cells #[.string ⟨s.toArray⟩] 9)).alloc (.cells #[.string ⟨#[10]⟩] 9)).alloc (.cells #[.int .i64 0] 3)) := by
    rw [← hF]; exact (((((Below.refl _ w).alloc (Nat.le_refl _) _).alloc (by simp) _).alloc (by simp; omega) _).alloc (by simp; omega) _)
  have hsz : ((((w.alloc (.cells #[.slice none 0 0] 22)).alloc (.cells #[.string ⟨s.toArray⟩] 9)).alloc (.cells #[.string ⟨#[10]⟩] 9)).alloc (.cells #[.int .i64 0] 3)).heap.size = F + 4 := by simp [hF]
  rw [hF]
  generalize World.alloc _ _ = W0 at bp bc bv bf hB0 hsz ⊢
  have hwF : F ≤ w.heap.size := Nat.le_of_eq hF.symm
  have hll := I.lines_len s
  have hsp := fun n hn => split1_in n hn (F + 1 + 1) (F + 1) (F + 1 + 2) (by omega) (by omega) s hs W0 bp bc bv
  rw [HLL.out] at hll hsp
  refine range_cells (n := 5) (by omega) (gf := 74) (lb := #[.pointer (some ⟨F + 1 + 1, 0, none⟩), .pointer (some ⟨F + 1, 0, none⟩), .pointer (some ⟨F + 1 + 2, 0, none⟩)]) rfl
    (enters_of Tryd.func74 (by kernel_rfl) rfl) (encs := fun x : List UInt8 => #[Value.string ⟨x.toArray⟩]) (fun _ => rfl) L (F + 1) (by omega) (keptBoxes (F + 1 + 1) (F + 1) (F + 1 + 2)) (by intro b hb; simp at hb; omega) (hsp _ (by omega))
    (fun k X => (∃ v, Boxed X F 22 v ∧ Own (F + 4) v (fnd (L.take k)) X) ∧ Below F w X ∧ F + 4 ≤ X.heap.size) ?hI ⟨⟨_, bf, Own.nil _ _⟩, hB0, by omega⟩
    (fun x => { tmps := #[.string ⟨s.toArray⟩, undef, .slice none 0 0, .pointer (some ⟨F, 0, none⟩), .string ⟨x.toArray⟩, undef, undef, .string ⟨s.toArray⟩, .func (.func 74) #[] #[.pointer (some ⟨F + 1 + 1, 0, none⟩), .pointer (some ⟨F + 1, 0, none⟩), .pointer (some ⟨F + 1 + 2, 0, none⟩)], .string ⟨x.toArray⟩, undef, undef, undef, undef, undef, undef, undef, undef, undef, undef, undef, undef, undef, undef, undef, undef], defers := [] }) ?assign ?body ?done
  case hI =>
    rintro k X Y r ⟨⟨v, hv, ho⟩, hB, hXs⟩ hG hr
    refine ⟨⟨v, hv.kept hG ?_, ho.kept hG ?_⟩, hB.grown hG (Nat.le_trans hwF hB.size) ?_, Nat.le_trans hXs hG.size⟩
    · intro e; cases e
      rcases hr with h | ⟨_, o, h1, h2⟩
      · omega
      · rw [show X.heap[F]? = _ from hv] at h1; cases h1; cases h2
    · rcases ho.2 with ⟨rfl, _⟩ | ⟨g, cap, cur, rfl, hg, hgb, _⟩
      · exact .inl rfl
      · refine .inr fun e => ?_
        obtain rfl : g = r := by simpa [Value.ownBlock] using e
        rcases hr with h | ⟨_, o, h1, h2⟩
        · omega
        · rw [hgb] at h1; cases h1; cases h2
    · intro k e; cases e
      rcases hr with h | ⟨h, _⟩ <;> omega
  case assign =>
    intro l x W K hK
    gi_wp2
    exact hK
  case body =>
    rintro l k x X hx ⟨⟨v, hv, ho⟩, hB, hXs⟩
    have hcb := hv.cell
    have hfb := hv.frozen
    have hxl := hmem x (List.mem_of_getElem? hx)
    have HS := Lib.hid (fnd_take hx)
    have HV := Lib.hid hv
    have hbs : ∀ b ∈ keptBoxes (F + 1 + 1) (F + 1) (F + 1 + 2), b < F + 4 ∧ b ≠ F := by intro b hb; simp at hb; omega
    have HBS := Lib.hid hbs
    have hlen : (fnd (L.take k)).length ≤ 900001 := by
      have := fnd_len (L.take k)
      rw [List.length_take] at this; omega
    clear hbs bp bc bv bf hB0 hsz hsp hmem hx hv
    cases hr : rd x with
    | none =>
      have cr := fun w => read_none hxl hr w
      have HD : Hid (fnd (L.take (k + 1)) = fnd (L.take k)) := Lib.hid (by rw [HS.out, hr]; simp)
      have HO := Lib.hid ho
      clear hr ho
      gi_wp2_with (refine ⟨trivial, ?_⟩; gi_at_call 35; refine (CallsIn.inRound l (callsIn_wide.2 (cr _))).mono ?_; rintro e w3 ⟨rfl, hb3⟩)
      have hb4 : Below X.heap.size X (w3.alloc (.cells #[.int .i64 0, .int .i64 0, .string ⟨#[]⟩] 30)) := below_two hb3 ((Below.refl _ _).alloc (Nat.le_refl _) _)
      refine ⟨keeps_below hb4, fun b hb => hb4.block b (by have := HBS.out b hb; omega), ⟨v, (hb4.block _ HV.out.lt).trans HV.out, by rw [HD.out]; exact HO.out.below hb4⟩, hB.trans (hb4.mono (by omega)), Nat.le_trans hXs hb4.size⟩
    | some y =>
      have cr := fun w => read_some hxl hr w
      have HD : Hid (fnd (L.take (k + 1)) = fnd (L.take k) ++ [y]) := Lib.hid (by rw [HS.out, hr]; rfl)
      have HO := Lib.hid ho
      clear hr ho
      generalize fnd (L.take k) = R at HD HO hlen
      obtain ⟨i0, hi0, hz0, hz1, hz2⟩ := info_parts info30
      gi_wp2_with (first
        | (refine ⟨trivial, ?_⟩; gi_at_call 35; refine (CallsIn.inRound l (callsIn_wide.2 (cr _))).mono ?_; rintro e w3 ⟨rfl, hb3⟩
           have hb4 : Below X.heap.size X (w3.alloc (.cells #[.int .i64 y.size, .int .i64 y.time, .string ⟨y.name.toArray⟩] 30)) := below_two hb3 ((Below.refl _ _).alloc (Nat.le_refl _) _)
           have hv4 : Boxed (w3.alloc (.cells #[.int .i64 y.size, .int .i64 y.time, .string ⟨y.name.toArray⟩] 30)) F 22 v := (hb4.block _ HV.out.lt).trans HV.out
           have ho4 : Own (F + 4) v R (w3.alloc (.cells #[.int .i64 y.size, .int .i64 y.time, .string ⟨y.name.toArray⟩] 30)) := HO.out.below hb4
           have hc4 := hv4.cell
           have HV4 := Lib.hid hv4; have HB4 := Lib.hid hb4
           clear hv4 hb4
           unfold Own at ho4)
        | (gi_at_builtin; refine wpListIn_append_own _ rfl _ _ 22 rfl (F + 4) 30 i0 (.agg #[.int .i64 0, .int .i64 0, .string ⟨#[]⟩]) 3 32 Tryd.underlying22 hi0 hz0 hz1 hz2 rfl (by decide) _ _ _ rfl (ho4.alloc _) ⟨w3.heap.size + 1, 0, none⟩ 1 1 [.int .i64 y.size, .int .i64 y.time, .string ⟨y.name.toArray⟩] rfl rfl (by have := Q.cell_three_new (w3.alloc (.cells #[.int .i64 y.size, .int .i64 y.time, .string ⟨y.name.toArray⟩] 30)) (.int .i64 y.size) (.int .i64 y.time) (.string ⟨y.name.toArray⟩) 30; rwa [World.size_alloc] at this) (one3 y) (by unfold maxLen; omega) (by omega) (by have := HB4.out.size; simp; have := hb3.size; omega) ?_; intro v' w1 hown' hgrow _
           obtain ⟨g', cap', rfl⟩ := ownsRow_succ hown'
           have hv1 := (HV4.out.alloc _).kept hgrow (HV4.out.not_row (by decide) ho4)
           have hc5 := hv1.cell
           have hf5 := hv1.frozen
           have HV1 := Lib.hid hv1
           clear hv1))
      obtain ⟨_, hv2, _, hk2, hb2⟩ := HV4.out.appended (by decide) (own_mono ho4 (Nat.le_add_right F 4)) (by have := HB4.out.size; omega) (Nat.le_refl F) (own_mono hown' (Nat.le_add_right F 4)) hgrow
      refine ⟨(keeps_below HB4.out).trans (hk2.from _), fun b hb => ?_, ⟨_, hv2, ?_⟩, (hB.trans (HB4.out.mono (by omega))).trans hb2, ?_⟩
      · obtain ⟨hb5, hb6⟩ := HBS.out b hb
        have hne : some b ≠ v.ownBlock := fun e => by have := (ho4.lt b e.symm).1; omega
        have hbX : b < X.heap.size := by omega
        rw [Below.heap_setCell _ _ _ b (fun e => hb6 e), hgrow.block b (by rw [World.size_alloc]; have := HB4.out.size; omega) hne, Below.heap_alloc _ _ _ (by have := HB4.out.size; omega)]
        exact HB4.out.block b hbX
      · rw [HD.out]
        exact Own.snoc (hown'.kept (grownBy_setCell' _ F _) (.inr (HV1.out.not_row (by decide) hown').symm))
      · have h1 := HB4.out.size
        have h2 := hb2.size
        omega
  case done =>
    rintro D W hD ⟨⟨v, hv, ho⟩, hB, hXs⟩ hK
    rw [List.take_of_length_le (Nat.le_refl _)] at ho
    have hlen : (fnd L).length ≤ 900001 := by have := fnd_len L; omega
    have hneF : some F ≠ v.ownBlock := hv.not_row (by decide) ho
    have hneD : some D ≠ v.ownBlock := fun e => by
      rcases ho.2 with ⟨rfl, _⟩ | ⟨g, cap, cur, rfl, _, hgb, _⟩
      · simp [Value.ownBlock] at e
      · obtain rfl : D = g := by simpa [Value.ownBlock] using e
        rw [hgb] at hK; cases hK
    have hge : ∀ k, v.ownBlock = some k → F ≤ k := fun k e => by have := (ho.lt k e).1; omega
    have hrw := ho.rw
    have c1 := rev_any hrw (by omega) (by omega)
    have hc := hv.cell
    obtain ⟨R, hR⟩ : ∃ R, fnd L = R := ⟨_, rfl⟩
    rw [hR] at hrw c1 hlen
    have HRQ := Lib.hid hR
    clear hR
    have HV := Lib.hid hv; have HK := Lib.hid hK; have HB := Lib.hid hB; have HRL := Lib.hid hlen; have HG := Lib.hid hge; have HXs := Lib.hid hXs
    clear bp bc bv bf hB0 hsp hmem hll ho hv hK hB hrw hlen hge
    gi_wp2_with (first
      | (refine ⟨trivial, ?_⟩; gi_at_call 36; refine (callsIn_wide.2 c1).mono ?_; rintro e w5 ⟨rfl, hr5, hg5⟩
         have hv5 := HV.out.kept hg5 hneF
         have hc5 := hv5.cell
         have c2 := sort_any hr5 (by have := hg5.size; omega) (by rw [List.length_reverse]; have := HRL.out; omega)
         have HV5 := Lib.hid hv5
         clear hv5 hr5 c1)
      | (refine ⟨trivial, ?_⟩; gi_at_call 37; refine (callsIn_wide.2 c2).mono ?_; rintro e w6 ⟨rfl, ⟨ms, hst, hr6⟩, hg6⟩
         have hv6 := HV5.out.kept hg6 hneF
         have hc6 := hv6.cell
         have c3 := comp_any hr6 (by have := hg5.size; have := hg6.size; omega) (by rw [hst.len, List.length_reverse]; have := HRL.out; omega)
         have HST := Lib.hid hst
         clear hv6 hr6 c2 hst)
      | (refine ⟨trivial, ?_⟩; gi_at_call 39; refine (callsIn_wide.2 c3).mono ?_; rintro e w7 ⟨u, rfl, hs7, hg7⟩
         have HS7 := Lib.hid hs7
         clear hs7 c3))
    have k5 : w5.heap[D]? = some (.deferred (some [])) := (hg5.block D (Array.getElem?_eq_some_iff.1 HK.out).1 hneD).trans HK.out
    have k6 : w6.heap[D]? = some (.deferred (some [])) := (hg6.block D (Array.getElem?_eq_some_iff.1 k5).1 hneD).trans k5
    have k7 : w7.heap[D]? = some (.deferred (some [])) := (hg7.block D (Array.getElem?_eq_some_iff.1 k6).1 hneD).trans k6
    have hFW : F ≤ W.heap.size := by omega
    have hB7 : Below F w w7 := ((HB.out.grown hg5 hFW HG.out).grown hg6 (Nat.le_trans hFW hg5.size) HG.out).grown hg7 (Nat.le_trans hFW (Nat.le_trans hg5.size hg6.size)) HG.out
    refine ⟨by simp, .inl ⟨_, _, rfl, run_takeDeferred k7, ?_⟩⟩
    refine ⟨_, results_tmp rfl _ _ _, u, ms, rfl, by rw [HRQ.out]; exact HST.out, sees_putObj HS7.out k7 _, ?_⟩
    rw [hF]
    exact hB7.grown (grownBy_putObj' w7 D _) (Nat.le_trans hFW (Nat.le_trans hg5.size (Nat.le_trans hg6.size hg7.size))) (fun k e => by cases e; omega)
end Go.Proofs.YtolobnokpmbajaaDoor.Z
