/-
  The walk's methods: lead, jump.
-/
import Derived.Test.YtlceaecibjbeaaaGreatKprog
import Derived.Test.YtlceaecibjbeaaaGreatKcoll
import Derived.Test.YtlceaecibjbeaaaGreatName
import Derived.Deep.RegionLaw
namespace Go.Proofs.YtlceaecibjbeaaaGreat.K
open Go.RowKit Go.Shelf G
attribute [local go_sem] Oper.semAt_some

theorem texts_block {B : Nat} {v : Value} {ps : List (List UInt8)} {w : World} (h : V.Texts B v ps w) {g : Nat} (hg : v.ownBlock = some g) : B ≤ g := by
  rcases h.2 with ⟨rfl, _⟩ | ⟨g', cap, cur, rfl, h2, _⟩
  · cases hg
  · cases hg; exact h2
theorem texts_below {B n : Nat} {v : Value} {ps : List (List UInt8)} {w w' : World} (h : V.Texts B v ps w) (hg : w.grownBy w' v.ownBlock) (hn : n ≤ B) (hw : n ≤ w.heap.size) : Below n w w' :=
  ⟨hg.os, hg.tape, hg.output, hg.size, fun k hk => hg.block k (by omega) fun e => by have := texts_block h e.symm; omega⟩
theorem ent_grown {B : Nat} {v : Value} {ps : List (List UInt8)} {w w' : World} (hg : w.grownBy w' v.ownBlock) (h : V.Texts B v ps w) : T.EntKept w w' := fun g cur hc =>
  (hg.block g (Array.getElem?_eq_some_iff.1 hc).1 fun e => by
    rcases h.2 with ⟨rfl, _⟩ | ⟨g', cap, cur', rfl, _, h3, _⟩
    · cases e
    · cases e; rw [h3] at hc; cases hc).trans hc
theorem step_call1 {P : Program} {ops : Array Oper} {o : Oper} {a : Act} {w : World} {K : Act → World → Prop} {Q : Exit → Act → World → Prop} {E : Prop} {R : Ending → World → Prop}
    (hg : o.guard = none) (n : Nat) {fn : Func} {c : Code} (hf : P.funcs[n]? = some fn) (hname : (fn.name == "runtime.NumGoroutine") = false) (hb : fn.body = some c) (x : Operand) (t : TypeId) (ho : o.op = .call { callee := .value (.func n), args := #[x], argTypes := #[t] }) (vx : Value) (hx : a.eval x = vx) (hc : Calls P n #[vx] w R)
    (hK : ∀ e w', R e w' → ∃ v, e = .returned v ∧ K (a.put o.dst v) w') : if Region.wanted o (yielded ops a.tmps) = true then Oper.wp P o a w K Q else E := by
  have hw : Region.wanted o (yielded ops a.tmps) = true := by simp [Region.wanted, hg]
  rw [if_pos hw]
  unfold Oper.wp
  have hr : (execOp a.eval o).run P w = .ok (.enter n #[vx]) w := by
    have hn : ¬ fn.name = "runtime.NumGoroutine" := by simpa using hname
    simp [execOp, ho, resolve, invoke, Deferred.ofValue, callFunc, go_sem, hf, hn, hb]
    cases x <;> simpa [Act.eval] using hx
  rw [hr, Oper.upon_enter]
  refine hc.mono fun e w' h => ?_
  obtain ⟨v, rfl, hk⟩ := hK e w' h
  exact hk
theorem box_new (W : World) (s : ByteArray) : (W.drew.alloc (.cells #[.string s] 9)).cell? ⟨W.heap.size, 0, none⟩ = some (.string s) := by
  have h := World.cell?_alloc_new W.drew #[.string s] 9 0
  exact h
section
variable {B b X : Nat} {st : St} {here : Int} {rest : List (List UInt8)} {must : Bool} {hops : Nat} {w w' : World}
theorem At.wd {BB B b X Y A M : Nat} {mv : Value} {st st' : St} {here : Int} {rest : List (List UInt8)} {must : Bool} {hops : Nat} {w w' : World} (hA : At B b Y st' here rest must hops w) (h : Wd BB X A M mv st w) (ht : Turn (fun k => k = b) w w') : Wd BB X A M mv st w' := by
  obtain ⟨es, rv, H, _, _⟩ := hA
  exact h.stays (fun k hk => ht.block k (h.lt hk) fun e => by subst e; exact h.not H (by decide) (by decide) (by decide) hk) (H.entKept ht)
theorem At.lt (h : At B b X st here rest must hops w) : b < w.heap.size := by
  obtain ⟨es, rv, H, _, _⟩ := h
  exact H.lt
set_option maxRecDepth 100000 in
set_option maxHeartbeats 16000000 in
theorem lead_any {BB A M : Nat} {mv : Value} (hW : Wd BB X A M mv st w) (hroot : rootOf st.d 1 = 1) (s : ByteArray) (hs : s.size ≤ 5000) (hl : rest.length ≤ 500000) (hB : B ≤ w.heap.size) (h : At B b X st here rest must hops w) :
    Calls Tryz.prog 21 #[.pointer (some ⟨b, 0, none⟩), .string s] w fun e w' =>
      e = .returned (.tuple #[]) ∧ At B b X st (from_ s.data.toList here) (V.M.parts s.data.toList ++ rest) (must_ must rest s.data.toList) hops w' ∧ Turn (fun k => k = b) w w' := by
  obtain ⟨i0, hi, hz0, hz1, hz2⟩ := info_parts V.info9
  have hpl : (V.M.parts s.data.toList).length ≤ 5001 := by
    have := V.M.parts_len s.data.toList
    rw [← Lib.size_eq] at this; omega
  have cS := fun W => V.slash_any s hs W
  have cP := fun W => Tryz.strings_HasPrefix s ⟨#[47]⟩ W
  rw [show (⟨#[47]⟩ : ByteArray).data.toList = [47] from rfl, V.prefix_head] at cP
  have hm : must_ must rest s.data.toList = (must || (rest.isEmpty && V.M.slash s.data.toList)) := rfl
  rw [hm]
  clear hm
  have HA := Lib.hid h
  obtain ⟨es, rv, H, hO, hS⟩ := h
  obtain ⟨oa, cap, rfl, h2⟩ := hS.slice
  obtain ⟨c0, c1, c2, c3, c4, c5, c6, c7, c8, c9, c10, c11, c12, c13, c14, c15⟩ := H.facts
  obtain ⟨f0, f1, f2, f3, f4, f5, f6, f7, f8, f9, f10, f11, f12, f13, f14, f15⟩ := H.open
  have H' : WkBox b X ((gets st.n here).as here) es (.slice oa rest.length cap) hops true (w.setCell ⟨b, 15, none⟩ (.bool true)) := H.must true
  have hA' : At B b X st here rest true hops (w.setCell ⟨b, 15, none⟩ (.bool true)) := ⟨es, _, H', T.own_kept hO (H.entKept (turn_set _ _ _ _)), hS.kept (H.strKept (turn_set _ _ _ _))⟩
  have ht' := turn_set b 15 (.bool true) w
  have HA' := Lib.hid hA'; have HT' := Lib.hid ht'; have HWW := Lib.hid hW
  clear H' hA' ht' hS hO H c0 c1 c2 c3 c4 c5 c6 c7 c8 c9 c10 c11 c12 c14 f0 f1 f2 f3 f4 f5 f6 f7 f8 f9 f10 f11 f12 f13 f14 h2 hW
  go_enter Tryz.func21, Tryz.ntmps21
  by_cases hr0 : rest.length = 0
  · obtain rfl : rest = [] := List.eq_nil_of_length_eq_zero hr0
    cases hsl : V.M.slash s.data.toList with
    | true =>
      rw [hsl] at cS
      go_upto_region 2 with (go_at_call 60; refine (cS _).mono ?_; rintro e w1 ⟨rfl, rfl⟩)
      have HM : Hid ((must || (([] : List (List UInt8)).isEmpty && true)) = true) := Lib.hid (by simp)
      have HA1 := HA'; have HT1 := HT'
      by_cases hp : s.data.toList.head? = some 47
      · have hf : from_ s.data.toList here = 1 := by unfold from_; rw [if_pos hp]
        rw [decide_eq_true hp] at cP
        have HF := Lib.hid hf
        clear hp hf
        have hW1 := HA.out.wd HWW.out HT1.out
        have cE := enter_any hW1 1 (T.wf_of (by decide) (by decide)) (Nat.le_trans hB HT1.out.size) HA1.out
        have cR := Root_any hW1 1
        rw [hroot] at cR
        obtain ⟨ee, re, He, _, _⟩ := HA1.out
        have x0 : (w.setCell ⟨b, 15, none⟩ (.bool true)).cell? ⟨b, 0, none⟩ = some (.pointer (some ⟨X, 0, none⟩)) := He.facts.1
        clear He
        go_upto_region 4 with (first
          | (go_at_call 58; refine (cP _).mono ?_; rintro e w2 ⟨rfl, hw2⟩; obtain rfl := hw2.symm)
          | (go_at_call 61; refine cR.mono ?_; rintro e w2 ⟨rfl, rfl⟩)
          | (go_at_call 24; refine cE.mono ?_; rintro e W3 ⟨rfl, hA3, ht3'⟩))
        have ht3 := HT1.out.trans ht3'
        clear cE cR hW1 HA1 HT1 HA HWW x0 ht3'
        obtain ⟨es, rv, H, hO, hS⟩ := hA3
        have hlt := H.lt
        have k0 : W3.cell? ⟨b, 13, none⟩ = some rv := H.facts.2.2.2.2.2.2.2.2.2.2.2.2.2.1
        obtain ⟨ou, cu, rfl, _⟩ := hS.slice
        have hB3 : B ≤ W3.heap.size := Nat.le_trans hB ht3.size
        have HH3 := Lib.hid H; have HO3 := Lib.hid hO; have HS3 := Lib.hid hS
        clear H hO hS cS cP
        go_region_law
          (first
            | (refine step_call1 rfl 63 Tryz.func63 (by kernel_rfl) rfl (.tmp 27) 9 rfl (.string s) (by first | rfl | simp [Act.eval, Act.put]) (parts_any s _) ?_; rintro e w1 ⟨rfl, rfl⟩; refine ⟨_, rfl, ?_⟩; have hb1 : Below W3.heap.size W3 (W3.drew.alloc (.cells #[.string s] 9)) := ((Below.refl _ _).drew).alloc (Nat.le_refl _) _; have k1 := (hb1.cell (p := ⟨b, 13, none⟩) hlt).trans k0)
            | (refine step_call1 rfl 62 Tryz.func62 (by kernel_rfl) rfl (.tmp 28) 112 rfl (.func (.func 94) #[] #[.pointer (some ⟨W3.heap.size, 0, none⟩)]) (by first | rfl | simp [Act.eval, Act.put]) (collect_any s hs W3.heap.size (W3.drew.alloc (.cells #[.string s] 9)) (by simp) (box_new W3 s)) ?_; rintro e w2 ⟨v2, rfl, hT2, hb2⟩; refine ⟨_, rfl, ?_⟩; have hb12 := below_two hb1 hb2; have k2 := (hb12.cell (p := ⟨b, 13, none⟩) hlt).trans k0; have hS2 := HS3.out.below hb12; have hl2 : (V.M.parts s.data.toList).length + ([] : List (List UInt8)).length ≤ 1000000 := by omega)
            | (refine step_append_strs rfl (.tmp 29) (.tmp 33) 25 rfl i0 Tryz.underlying25 hi hz0 hz1 hz2 (by first | rfl | simp [Act.eval, Act.put]) (by first | rfl | simp [Act.eval, Act.put]) hT2 hS2 hl2 hb2.size ?_; intro v4 w4 hT4 hg4; obtain ⟨o4, c4, rfl, _⟩ := (strs_of hT4).slice; obtain ⟨n4, hn4⟩ : ∃ n, (V.M.parts s.data.toList ++ ([] : List (List UInt8))).length = n := ⟨_, rfl⟩; rw [hn4] at hT4 ⊢; have HN4 := Lib.hid hn4; clear hn4; have hne : v2.ownBlock ≠ some b := (fun e => by have h0 := texts_block hT2 e; have h1 := hb1.size; omega); have H4 := (HH3.out.below hb12).grown hg4 hne; have k3 : w4.cell? ⟨b, 13, none⟩ = some (.slice ou ([] : List (List UInt8)).length cu) := H4.facts.2.2.2.2.2.2.2.2.2.2.2.2.2.1; have q3 : w4.frozen? ⟨b, 13, none⟩ = false := H4.open.2.2.2.2.2.2.2.2.2.2.2.2.2.1))
        all_goals
          have ht5 := turn_set b 13 (.slice o4 n4 c4) w4
          have hT5 := (strs_of hT4).kept (H4.strKept ht5)
          have hO5 := T.own_kept (T.own_kept (T.own_kept HO3.out (T.EntKept.below hb12)) (ent_grown hg4 hT2)) (H4.entKept ht5)
          have ht6 : Turn (fun k => k = b) W3 w4 := Turn.of_below (hb12.trans (texts_below hT2 hg4 hb1.size hb12.size))
          go_wp2
          go_end0
          exact ⟨rfl, by rw [HF.out, HM.out]; exact ⟨es, _, H4.rest _, hO5, hT5⟩, (ht3.trans ht6).trans ht5⟩
      · have hf : from_ s.data.toList here = here := by unfold from_; rw [if_neg hp]
        rw [decide_eq_false hp] at cP
        have HF := Lib.hid hf
        clear hp hf
        go_upto_region 4 with (go_at_call 58; refine (cP _).mono ?_; rintro e w2 ⟨rfl, hw2⟩; obtain rfl := hw2.symm)
        have hA3 := HA1.out
        have ht3 := HT1.out
        clear HA1 HT1 HA HWW
        generalize w.setCell ⟨b, 15, none⟩ (.bool true) = W3 at *
        obtain ⟨es, rv, H, hO, hS⟩ := hA3
        have hlt := H.lt
        have k0 : W3.cell? ⟨b, 13, none⟩ = some rv := H.facts.2.2.2.2.2.2.2.2.2.2.2.2.2.1
        obtain ⟨ou, cu, rfl, _⟩ := hS.slice
        have hB3 : B ≤ W3.heap.size := Nat.le_trans hB ht3.size
        have HH3 := Lib.hid H; have HO3 := Lib.hid hO; have HS3 := Lib.hid hS
        clear H hO hS cS cP
        go_region_law
          (first
            | (refine step_call1 rfl 63 Tryz.func63 (by kernel_rfl) rfl (.tmp 27) 9 rfl (.string s) (by first | rfl | simp [Act.eval, Act.put]) (parts_any s _) ?_; rintro e w1 ⟨rfl, rfl⟩; refine ⟨_, rfl, ?_⟩; have hb1 : Below W3.heap.size W3 (W3.drew.alloc (.cells #[.string s] 9)) := ((Below.refl _ _).drew).alloc (Nat.le_refl _) _; have k1 := (hb1.cell (p := ⟨b, 13, none⟩) hlt).trans k0)
            | (refine step_call1 rfl 62 Tryz.func62 (by kernel_rfl) rfl (.tmp 28) 112 rfl (.func (.func 94) #[] #[.pointer (some ⟨W3.heap.size, 0, none⟩)]) (by first | rfl | simp [Act.eval, Act.put]) (collect_any s hs W3.heap.size (W3.drew.alloc (.cells #[.string s] 9)) (by simp) (box_new W3 s)) ?_; rintro e w2 ⟨v2, rfl, hT2, hb2⟩; refine ⟨_, rfl, ?_⟩; have hb12 := below_two hb1 hb2; have k2 := (hb12.cell (p := ⟨b, 13, none⟩) hlt).trans k0; have hS2 := HS3.out.below hb12; have hl2 : (V.M.parts s.data.toList).length + ([] : List (List UInt8)).length ≤ 1000000 := by omega)
            | (refine step_append_strs rfl (.tmp 29) (.tmp 33) 25 rfl i0 Tryz.underlying25 hi hz0 hz1 hz2 (by first | rfl | simp [Act.eval, Act.put]) (by first | rfl | simp [Act.eval, Act.put]) hT2 hS2 hl2 hb2.size ?_; intro v4 w4 hT4 hg4; obtain ⟨o4, c4, rfl, _⟩ := (strs_of hT4).slice; obtain ⟨n4, hn4⟩ : ∃ n, (V.M.parts s.data.toList ++ ([] : List (List UInt8))).length = n := ⟨_, rfl⟩; rw [hn4] at hT4 ⊢; have HN4 := Lib.hid hn4; clear hn4; have hne : v2.ownBlock ≠ some b := (fun e => by have h0 := texts_block hT2 e; have h1 := hb1.size; omega); have H4 := (HH3.out.below hb12).grown hg4 hne; have k3 : w4.cell? ⟨b, 13, none⟩ = some (.slice ou ([] : List (List UInt8)).length cu) := H4.facts.2.2.2.2.2.2.2.2.2.2.2.2.2.1; have q3 : w4.frozen? ⟨b, 13, none⟩ = false := H4.open.2.2.2.2.2.2.2.2.2.2.2.2.2.1))
        all_goals
          have ht5 := turn_set b 13 (.slice o4 n4 c4) w4
          have hT5 := (strs_of hT4).kept (H4.strKept ht5)
          have hO5 := T.own_kept (T.own_kept (T.own_kept HO3.out (T.EntKept.below hb12)) (ent_grown hg4 hT2)) (H4.entKept ht5)
          have ht6 : Turn (fun k => k = b) W3 w4 := Turn.of_below (hb12.trans (texts_below hT2 hg4 hb1.size hb12.size))
          go_wp2
          go_end0
          exact ⟨rfl, by rw [HF.out, HM.out]; exact ⟨es, _, H4.rest _, hO5, hT5⟩, (ht3.trans ht6).trans ht5⟩
    | false =>
      rw [hsl] at cS
      go_upto_region 2 with (go_at_call 60; refine (cS _).mono ?_; rintro e w1 ⟨rfl, rfl⟩)
      have HM : Hid ((must || (([] : List (List UInt8)).isEmpty && false)) = must) := Lib.hid (by simp)
      have HA1 := HA; have HT1 : Hid (Turn (fun k => k = b) w w) := Lib.hid (Turn.refl w)
      by_cases hp : s.data.toList.head? = some 47
      · have hf : from_ s.data.toList here = 1 := by unfold from_; rw [if_pos hp]
        rw [decide_eq_true hp] at cP
        have HF := Lib.hid hf
        clear hp hf
        have hW1 := HA.out.wd HWW.out HT1.out
        have cE := enter_any hW1 1 (T.wf_of (by decide) (by decide)) (Nat.le_trans hB HT1.out.size) HA1.out
        have cR := Root_any hW1 1
        rw [hroot] at cR
        obtain ⟨ee, re, He, _, _⟩ := HA1.out
        have x0 : (w).cell? ⟨b, 0, none⟩ = some (.pointer (some ⟨X, 0, none⟩)) := He.facts.1
        clear He
        go_upto_region 4 with (first
          | (go_at_call 58; refine (cP _).mono ?_; rintro e w2 ⟨rfl, hw2⟩; obtain rfl := hw2.symm)
          | (go_at_call 61; refine cR.mono ?_; rintro e w2 ⟨rfl, rfl⟩)
          | (go_at_call 24; refine cE.mono ?_; rintro e W3 ⟨rfl, hA3, ht3'⟩))
        have ht3 := HT1.out.trans ht3'
        clear cE cR hW1 HA1 HT1 HA HWW x0 ht3'
        obtain ⟨es, rv, H, hO, hS⟩ := hA3
        have hlt := H.lt
        have k0 : W3.cell? ⟨b, 13, none⟩ = some rv := H.facts.2.2.2.2.2.2.2.2.2.2.2.2.2.1
        obtain ⟨ou, cu, rfl, _⟩ := hS.slice
        have hB3 : B ≤ W3.heap.size := Nat.le_trans hB ht3.size
        have HH3 := Lib.hid H; have HO3 := Lib.hid hO; have HS3 := Lib.hid hS
        clear H hO hS cS cP
        go_region_law
          (first
            | (refine step_call1 rfl 63 Tryz.func63 (by kernel_rfl) rfl (.tmp 27) 9 rfl (.string s) (by first | rfl | simp [Act.eval, Act.put]) (parts_any s _) ?_; rintro e w1 ⟨rfl, rfl⟩; refine ⟨_, rfl, ?_⟩; have hb1 : Below W3.heap.size W3 (W3.drew.alloc (.cells #[.string s] 9)) := ((Below.refl _ _).drew).alloc (Nat.le_refl _) _; have k1 := (hb1.cell (p := ⟨b, 13, none⟩) hlt).trans k0)
            | (refine step_call1 rfl 62 Tryz.func62 (by kernel_rfl) rfl (.tmp 28) 112 rfl (.func (.func 94) #[] #[.pointer (some ⟨W3.heap.size, 0, none⟩)]) (by first | rfl | simp [Act.eval, Act.put]) (collect_any s hs W3.heap.size (W3.drew.alloc (.cells #[.string s] 9)) (by simp) (box_new W3 s)) ?_; rintro e w2 ⟨v2, rfl, hT2, hb2⟩; refine ⟨_, rfl, ?_⟩; have hb12 := below_two hb1 hb2; have k2 := (hb12.cell (p := ⟨b, 13, none⟩) hlt).trans k0; have hS2 := HS3.out.below hb12; have hl2 : (V.M.parts s.data.toList).length + ([] : List (List UInt8)).length ≤ 1000000 := by omega)
            | (refine step_append_strs rfl (.tmp 29) (.tmp 33) 25 rfl i0 Tryz.underlying25 hi hz0 hz1 hz2 (by first | rfl | simp [Act.eval, Act.put]) (by first | rfl | simp [Act.eval, Act.put]) hT2 hS2 hl2 hb2.size ?_; intro v4 w4 hT4 hg4; obtain ⟨o4, c4, rfl, _⟩ := (strs_of hT4).slice; obtain ⟨n4, hn4⟩ : ∃ n, (V.M.parts s.data.toList ++ ([] : List (List UInt8))).length = n := ⟨_, rfl⟩; rw [hn4] at hT4 ⊢; have HN4 := Lib.hid hn4; clear hn4; have hne : v2.ownBlock ≠ some b := (fun e => by have h0 := texts_block hT2 e; have h1 := hb1.size; omega); have H4 := (HH3.out.below hb12).grown hg4 hne; have k3 : w4.cell? ⟨b, 13, none⟩ = some (.slice ou ([] : List (List UInt8)).length cu) := H4.facts.2.2.2.2.2.2.2.2.2.2.2.2.2.1; have q3 : w4.frozen? ⟨b, 13, none⟩ = false := H4.open.2.2.2.2.2.2.2.2.2.2.2.2.2.1))
        all_goals
          have ht5 := turn_set b 13 (.slice o4 n4 c4) w4
          have hT5 := (strs_of hT4).kept (H4.strKept ht5)
          have hO5 := T.own_kept (T.own_kept (T.own_kept HO3.out (T.EntKept.below hb12)) (ent_grown hg4 hT2)) (H4.entKept ht5)
          have ht6 : Turn (fun k => k = b) W3 w4 := Turn.of_below (hb12.trans (texts_below hT2 hg4 hb1.size hb12.size))
          go_wp2
          go_end0
          exact ⟨rfl, by rw [HF.out, HM.out]; exact ⟨es, _, H4.rest _, hO5, hT5⟩, (ht3.trans ht6).trans ht5⟩
      · have hf : from_ s.data.toList here = here := by unfold from_; rw [if_neg hp]
        rw [decide_eq_false hp] at cP
        have HF := Lib.hid hf
        clear hp hf
        go_upto_region 4 with (go_at_call 58; refine (cP _).mono ?_; rintro e w2 ⟨rfl, hw2⟩; obtain rfl := hw2.symm)
        have hA3 := HA1.out
        have ht3 := HT1.out
        clear HA1 HT1 HA HWW
        obtain ⟨W3, hW3⟩ : ∃ W, w = W := ⟨_, rfl⟩
        rw [hW3] at hA3 ⊢
        have ht3 : Turn (fun k => k = b) w W3 := hW3 ▸ ht3
        obtain ⟨es, rv, H, hO, hS⟩ := hA3
        have hlt := H.lt
        have k0 : W3.cell? ⟨b, 13, none⟩ = some rv := H.facts.2.2.2.2.2.2.2.2.2.2.2.2.2.1
        obtain ⟨ou, cu, rfl, _⟩ := hS.slice
        have hB3 : B ≤ W3.heap.size := Nat.le_trans hB ht3.size
        have HH3 := Lib.hid H; have HO3 := Lib.hid hO; have HS3 := Lib.hid hS
        clear H hO hS cS cP
        go_region_law
          (first
            | (refine step_call1 rfl 63 Tryz.func63 (by kernel_rfl) rfl (.tmp 27) 9 rfl (.string s) (by first | rfl | simp [Act.eval, Act.put]) (parts_any s _) ?_; rintro e w1 ⟨rfl, rfl⟩; refine ⟨_, rfl, ?_⟩; have hb1 : Below W3.heap.size W3 (W3.drew.alloc (.cells #[.string s] 9)) := ((Below.refl _ _).drew).alloc (Nat.le_refl _) _; have k1 := (hb1.cell (p := ⟨b, 13, none⟩) hlt).trans k0)
            | (refine step_call1 rfl 62 Tryz.func62 (by kernel_rfl) rfl (.tmp 28) 112 rfl (.func (.func 94) #[] #[.pointer (some ⟨W3.heap.size, 0, none⟩)]) (by first | rfl | simp [Act.eval, Act.put]) (collect_any s hs W3.heap.size (W3.drew.alloc (.cells #[.string s] 9)) (by simp) (box_new W3 s)) ?_; rintro e w2 ⟨v2, rfl, hT2, hb2⟩; refine ⟨_, rfl, ?_⟩; have hb12 := below_two hb1 hb2; have k2 := (hb12.cell (p := ⟨b, 13, none⟩) hlt).trans k0; have hS2 := HS3.out.below hb12; have hl2 : (V.M.parts s.data.toList).length + ([] : List (List UInt8)).length ≤ 1000000 := by omega)
            | (refine step_append_strs rfl (.tmp 29) (.tmp 33) 25 rfl i0 Tryz.underlying25 hi hz0 hz1 hz2 (by first | rfl | simp [Act.eval, Act.put]) (by first | rfl | simp [Act.eval, Act.put]) hT2 hS2 hl2 hb2.size ?_; intro v4 w4 hT4 hg4; obtain ⟨o4, c4, rfl, _⟩ := (strs_of hT4).slice; obtain ⟨n4, hn4⟩ : ∃ n, (V.M.parts s.data.toList ++ ([] : List (List UInt8))).length = n := ⟨_, rfl⟩; rw [hn4] at hT4 ⊢; have HN4 := Lib.hid hn4; clear hn4; have hne : v2.ownBlock ≠ some b := (fun e => by have h0 := texts_block hT2 e; have h1 := hb1.size; omega); have H4 := (HH3.out.below hb12).grown hg4 hne; have k3 : w4.cell? ⟨b, 13, none⟩ = some (.slice ou ([] : List (List UInt8)).length cu) := H4.facts.2.2.2.2.2.2.2.2.2.2.2.2.2.1; have q3 : w4.frozen? ⟨b, 13, none⟩ = false := H4.open.2.2.2.2.2.2.2.2.2.2.2.2.2.1))
        all_goals
          have ht5 := turn_set b 13 (.slice o4 n4 c4) w4
          have hT5 := (strs_of hT4).kept (H4.strKept ht5)
          have hO5 := T.own_kept (T.own_kept (T.own_kept HO3.out (T.EntKept.below hb12)) (ent_grown hg4 hT2)) (H4.entKept ht5)
          have ht6 : Turn (fun k => k = b) W3 w4 := Turn.of_below (hb12.trans (texts_below hT2 hg4 hb1.size hb12.size))
          go_wp2
          go_end0
          exact ⟨rfl, by rw [HF.out, HM.out]; exact ⟨es, _, H4.rest _, hO5, hT5⟩, (ht3.trans ht6).trans ht5⟩
  · have hr1 : ((rest.length : Int) == 0) = false := by simpa using hr0
    go_upto_region 2 with fail
    have HM : Hid ((must || (rest.isEmpty && V.M.slash s.data.toList)) = must) := Lib.hid (by cases rest with
      | nil => exact absurd rfl hr0
      | cons p r => simp)
    have HA1 := HA; have HT1 : Hid (Turn (fun k => k = b) w w) := Lib.hid (Turn.refl w)
    by_cases hp : s.data.toList.head? = some 47
    · have hf : from_ s.data.toList here = 1 := by unfold from_; rw [if_pos hp]
      rw [decide_eq_true hp] at cP
      have HF := Lib.hid hf
      clear hp hf
      have hW1 := HA.out.wd HWW.out HT1.out
      have cE := enter_any hW1 1 (T.wf_of (by decide) (by decide)) (Nat.le_trans hB HT1.out.size) HA1.out
      have cR := Root_any hW1 1
      rw [hroot] at cR
      obtain ⟨ee, re, He, _, _⟩ := HA1.out
      have x0 : (w).cell? ⟨b, 0, none⟩ = some (.pointer (some ⟨X, 0, none⟩)) := He.facts.1
      clear He
      go_upto_region 4 with (first
        | (go_at_call 58; refine (cP _).mono ?_; rintro e w2 ⟨rfl, hw2⟩; obtain rfl := hw2.symm)
        | (go_at_call 61; refine cR.mono ?_; rintro e w2 ⟨rfl, rfl⟩)
        | (go_at_call 24; refine cE.mono ?_; rintro e W3 ⟨rfl, hA3, ht3'⟩))
      have ht3 := HT1.out.trans ht3'
      clear cE cR hW1 HA1 HT1 HA HWW x0 ht3'
      obtain ⟨es, rv, H, hO, hS⟩ := hA3
      have hlt := H.lt
      have k0 : W3.cell? ⟨b, 13, none⟩ = some rv := H.facts.2.2.2.2.2.2.2.2.2.2.2.2.2.1
      obtain ⟨ou, cu, rfl, _⟩ := hS.slice
      have hB3 : B ≤ W3.heap.size := Nat.le_trans hB ht3.size
      have HH3 := Lib.hid H; have HO3 := Lib.hid hO; have HS3 := Lib.hid hS
      clear H hO hS cS cP
      go_region_law
        (first
          | (refine step_call1 rfl 63 Tryz.func63 (by kernel_rfl) rfl (.tmp 27) 9 rfl (.string s) (by first | rfl | simp [Act.eval, Act.put]) (parts_any s _) ?_; rintro e w1 ⟨rfl, rfl⟩; refine ⟨_, rfl, ?_⟩; have hb1 : Below W3.heap.size W3 (W3.drew.alloc (.cells #[.string s] 9)) := ((Below.refl _ _).drew).alloc (Nat.le_refl _) _; have k1 := (hb1.cell (p := ⟨b, 13, none⟩) hlt).trans k0)
          | (refine step_call1 rfl 62 Tryz.func62 (by kernel_rfl) rfl (.tmp 28) 112 rfl (.func (.func 94) #[] #[.pointer (some ⟨W3.heap.size, 0, none⟩)]) (by first | rfl | simp [Act.eval, Act.put]) (collect_any s hs W3.heap.size (W3.drew.alloc (.cells #[.string s] 9)) (by simp) (box_new W3 s)) ?_; rintro e w2 ⟨v2, rfl, hT2, hb2⟩; refine ⟨_, rfl, ?_⟩; have hb12 := below_two hb1 hb2; have k2 := (hb12.cell (p := ⟨b, 13, none⟩) hlt).trans k0; have hS2 := HS3.out.below hb12; have hl2 : (V.M.parts s.data.toList).length + rest.length ≤ 1000000 := by omega)
          | (refine step_append_strs rfl (.tmp 29) (.tmp 33) 25 rfl i0 Tryz.underlying25 hi hz0 hz1 hz2 (by first | rfl | simp [Act.eval, Act.put]) (by first | rfl | simp [Act.eval, Act.put]) hT2 hS2 hl2 hb2.size ?_; intro v4 w4 hT4 hg4; obtain ⟨o4, c4, rfl, _⟩ := (strs_of hT4).slice; obtain ⟨n4, hn4⟩ : ∃ n, (V.M.parts s.data.toList ++ rest).length = n := ⟨_, rfl⟩; rw [hn4] at hT4 ⊢; have HN4 := Lib.hid hn4; clear hn4; have hne : v2.ownBlock ≠ some b := (fun e => by have h0 := texts_block hT2 e; have h1 := hb1.size; omega); have H4 := (HH3.out.below hb12).grown hg4 hne; have k3 : w4.cell? ⟨b, 13, none⟩ = some (.slice ou rest.length cu) := H4.facts.2.2.2.2.2.2.2.2.2.2.2.2.2.1; have q3 : w4.frozen? ⟨b, 13, none⟩ = false := H4.open.2.2.2.2.2.2.2.2.2.2.2.2.2.1))
      all_goals
        have ht5 := turn_set b 13 (.slice o4 n4 c4) w4
        have hT5 := (strs_of hT4).kept (H4.strKept ht5)
        have hO5 := T.own_kept (T.own_kept (T.own_kept HO3.out (T.EntKept.below hb12)) (ent_grown hg4 hT2)) (H4.entKept ht5)
        have ht6 : Turn (fun k => k = b) W3 w4 := Turn.of_below (hb12.trans (texts_below hT2 hg4 hb1.size hb12.size))
        go_wp2
        go_end0
        exact ⟨rfl, by rw [HF.out, HM.out]; exact ⟨es, _, H4.rest _, hO5, hT5⟩, (ht3.trans ht6).trans ht5⟩
    · have hf : from_ s.data.toList here = here := by unfold from_; rw [if_neg hp]
      rw [decide_eq_false hp] at cP
      have HF := Lib.hid hf
      clear hp hf
      go_upto_region 4 with (go_at_call 58; refine (cP _).mono ?_; rintro e w2 ⟨rfl, hw2⟩; obtain rfl := hw2.symm)
      have hA3 := HA1.out
      have ht3 := HT1.out
      clear HA1 HT1 HA HWW
      obtain ⟨W3, hW3⟩ : ∃ W, w = W := ⟨_, rfl⟩
      rw [hW3] at hA3 ⊢
      have ht3 : Turn (fun k => k = b) w W3 := hW3 ▸ ht3
      obtain ⟨es, rv, H, hO, hS⟩ := hA3
      have hlt := H.lt
      have k0 : W3.cell? ⟨b, 13, none⟩ = some rv := H.facts.2.2.2.2.2.2.2.2.2.2.2.2.2.1
      obtain ⟨ou, cu, rfl, _⟩ := hS.slice
      have hB3 : B ≤ W3.heap.size := Nat.le_trans hB ht3.size
      have HH3 := Lib.hid H; have HO3 := Lib.hid hO; have HS3 := Lib.hid hS
      clear H hO hS cS cP
      go_region_law
        (first
          | (refine step_call1 rfl 63 Tryz.func63 (by kernel_rfl) rfl (.tmp 27) 9 rfl (.string s) (by first | rfl | simp [Act.eval, Act.put]) (parts_any s _) ?_; rintro e w1 ⟨rfl, rfl⟩; refine ⟨_, rfl, ?_⟩; have hb1 : Below W3.heap.size W3 (W3.drew.alloc (.cells #[.string s] 9)) := ((Below.refl _ _).drew).alloc (Nat.le_refl _) _; have k1 := (hb1.cell (p := ⟨b, 13, none⟩) hlt).trans k0)
          | (refine step_call1 rfl 62 Tryz.func62 (by kernel_rfl) rfl (.tmp 28) 112 rfl (.func (.func 94) #[] #[.pointer (some ⟨W3.heap.size, 0, none⟩)]) (by first | rfl | simp [Act.eval, Act.put]) (collect_any s hs W3.heap.size (W3.drew.alloc (.cells #[.string s] 9)) (by simp) (box_new W3 s)) ?_; rintro e w2 ⟨v2, rfl, hT2, hb2⟩; refine ⟨_, rfl, ?_⟩; have hb12 := below_two hb1 hb2; have k2 := (hb12.cell (p := ⟨b, 13, none⟩) hlt).trans k0; have hS2 := HS3.out.below hb12; have hl2 : (V.M.parts s.data.toList).length + rest.length ≤ 1000000 := by omega)
          | (refine step_append_strs rfl (.tmp 29) (.tmp 33) 25 rfl i0 Tryz.underlying25 hi hz0 hz1 hz2 (by first | rfl | simp [Act.eval, Act.put]) (by first | rfl | simp [Act.eval, Act.put]) hT2 hS2 hl2 hb2.size ?_; intro v4 w4 hT4 hg4; obtain ⟨o4, c4, rfl, _⟩ := (strs_of hT4).slice; obtain ⟨n4, hn4⟩ : ∃ n, (V.M.parts s.data.toList ++ rest).length = n := ⟨_, rfl⟩; rw [hn4] at hT4 ⊢; have HN4 := Lib.hid hn4; clear hn4; have hne : v2.ownBlock ≠ some b := (fun e => by have h0 := texts_block hT2 e; have h1 := hb1.size; omega); have H4 := (HH3.out.below hb12).grown hg4 hne; have k3 : w4.cell? ⟨b, 13, none⟩ = some (.slice ou rest.length cu) := H4.facts.2.2.2.2.2.2.2.2.2.2.2.2.2.1; have q3 : w4.frozen? ⟨b, 13, none⟩ = false := H4.open.2.2.2.2.2.2.2.2.2.2.2.2.2.1))
      all_goals
        have ht5 := turn_set b 13 (.slice o4 n4 c4) w4
        have hT5 := (strs_of hT4).kept (H4.strKept ht5)
        have hO5 := T.own_kept (T.own_kept (T.own_kept HO3.out (T.EntKept.below hb12)) (ent_grown hg4 hT2)) (H4.entKept ht5)
        have ht6 : Turn (fun k => k = b) W3 w4 := Turn.of_below (hb12.trans (texts_below hT2 hg4 hb1.size hb12.size))
        go_wp2
        go_end0
        exact ⟨rfl, by rw [HF.out, HM.out]; exact ⟨es, _, H4.rest _, hO5, hT5⟩, (ht3.trans ht6).trans ht5⟩
end
end Go.Proofs.YtlceaecibjbeaaaGreat.K
