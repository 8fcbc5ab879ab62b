/-
  The walk's methods: take, enter, stuck, refused.
-/
import Derived.Test.YtlceaecibjbeaaaGreatKbase
import Derived.Test.YtlceaecibjbeaaaGreatQwho
import Derived.Deep.DeepCutAuto
import Derived.BigRegion
namespace Go.Proofs.YtlceaecibjbeaaaGreat.K
open Go.RowKit Go.Shelf G
attribute [local go_sem] Oper.semAt_some

section
variable {B b X : Nat} {st : St} {here : Int} {rest : List (List UInt8)} {must : Bool} {hops : Nat} {w w' : World}
set_option maxRecDepth 100000 in
set_option maxHeartbeats 8000000 in
theorem take_any {p : List UInt8} {r : List (List UInt8)} (h : At B b X st here (p :: r) must hops w) :
    Calls Tryz.prog 22 #[.pointer (some ⟨b, 0, none⟩)] w fun e w' => e = .returned (.string ⟨p.toArray⟩) ∧ At B b X st here r must hops w' ∧ Turn (fun k => k = b) w w' := by
  obtain ⟨es, rv, H, hO, hS⟩ := h
  obtain ⟨g, o, cap, rfl, h1, h2, hc, hg, hcons⟩ := hS.cons
  obtain ⟨c0, c1, c2, c3, c4, c5, c6, c7, c8, c9, c10, c11, c12, c13, c14, c15⟩ := H.facts
  obtain ⟨f0, f1, f2, f3, f4, f5, f6, f7, f8, f9, f10, f11, f12, f13, f14, f15⟩ := H.open
  have HH := Lib.hid H; have HO := Lib.hid hO; have HC := Lib.hid hcons
  have h3 : (1 : Int) ≤ (cap : Int) := by omega
  have h4 : (0 : Int) < (r.length : Int) + 1 := by omega
  clear hS hcons H hO c0 c1 c2 c3 c4 c5 c6 c7 c8 c9 c10 c11 c12 c14 c15 f0 f1 f2 f3 f4 f5 f6 f7 f8 f9 f10 f11 f12 f14 f15
  go_enter Tryz.func22, Tryz.ntmps22
  go_wp2
  all_goals
    go_ret
    refine ⟨rfl, ⟨es, _, HH.out.rest _, T.own_kept HO.out (HH.out.entKept (turn_set _ _ _ _)), (HC.out _ _ (by omega) (fun hr => ?_)).kept (HH.out.strKept (turn_set _ _ _ _))⟩, turn_set _ _ _ _⟩
    first | rfl | exact absurd (List.length_pos_iff.2 hr) (by omega)
set_option maxRecDepth 100000 in
set_option maxHeartbeats 8000000 in
theorem enter_any {BB A M : Nat} {mv : Value} (hW : Wd BB X A M mv st w) (k : Int) (hk : T.Wf k) (hB : B ≤ w.heap.size) (h : At B b X st here rest must hops w) :
    Calls Tryz.prog 24 #[.pointer (some ⟨b, 0, none⟩), .int .i64 k] w fun e w' => e = .returned (.tuple #[]) ∧ At B b X st k rest must hops w' ∧ Turn (fun k => k = b) w w' := by
  obtain ⟨es, rv, H, hO, hS⟩ := h
  have cg := Get_st hW k hk
  have x0 := hW.facts.1
  obtain ⟨c0, _⟩ := H.facts
  have HH := Lib.hid H; have HS := Lib.hid hS
  have hA : ∀ u v W, WkBox b X ((gets st.n k).as k) u v hops must W → E.Own B u (gets st.n k).es W → Strs v rest W → At B b X st k rest must hops W := fun u v W h1 h2 h3 => ⟨u, v, h1, h2, h3⟩
  clear hS H hO hW
  generalize gets st.n k = nd at *
  generalize (get st.n k).isSome = bb at *
  obtain ⟨no, dev, kind, mode, uid, gid, mt, ct, links, up, data, es'⟩ := nd
  dsimp only [T.Nd.v] at cg hA
  have HA := Lib.hid hA
  clear hA
  go_enter Tryz.func24, Tryz.ntmps24
  go_upto_region 1 with (go_at_call 14; refine cg.mono ?_; rintro e w1 ⟨u, rfl, hO1, hb1⟩; obtain ⟨ou, cu, rfl⟩ := T.own_slice hO1; have H1 := HH.out.below hb1; obtain ⟨a0, a1, a2, a3, a4, a5, a6, a7, a8, a9, a10, a11, a12, a13, a14, a15⟩ := H1.facts; obtain ⟨f0, f1, f2, f3, f4, f5, f6, f7, f8, f9, f10, f11, f12, f13, f14, f15⟩ := H1.open)
  have H2 := H1.fill ⟨no, dev, kind, mode, uid, gid, mt, ct, links, up, data, es'⟩ (.slice ou es'.length cu)
  have ht2 := turn_fillK b ⟨no, dev, kind, mode, uid, gid, mt, ct, links, up, data, es'⟩ (.slice ou es'.length cu) w1
  have hO2 := T.own_kept (hO1.mono hB) (H1.entKept ht2)
  have hS2 := (HS.out.below hb1).kept (H1.strKept ht2)
  unfold fillK at H2 ht2 hO2 hS2
  generalize World.setCell _ _ _ = W2 at H2 ht2 hO2 hS2 ⊢
  clear a0 a1 a2 a3 a4 a5 a6 a7 a8 a9 a10 a11 a12 a13 a14 a15 f0 f1 f2 f3 f4 f5 f6 f7 f8 f9 f10 f11 f12 f13 f14 f15
  have f1 := H2.open.2.1
  have a1 := H2.facts.2.1
  go_wp2
  have ht3 := turn_set b 1 (.int .i64 k) W2
  go_end0
  exact ⟨rfl, HA.out _ _ _ (H2.num k) (T.own_kept hO2 (H2.entKept ht3)) (hS2.kept (H2.strKept ht3)), (Turn.ahead hb1 ht2).trans ht3⟩

/-- the error of what was looked up -/
def stuckE (no kind : Int) (r : List (List UInt8)) (must : Bool) : Int := if no = 0 ∧ r.isEmpty = false then 5 else if no ≠ 0 ∧ kind ≠ 1 ∧ (r.isEmpty = false ∨ must = true) then 9 else 0
set_option maxRecDepth 100000 in
set_option maxHeartbeats 8000000 in
theorem stuck_any (no kind : Int) (h : At B b X st here rest must hops w) :
    Calls Tryz.prog 28 #[.pointer (some ⟨b, 0, none⟩), .int .i64 no, .int .i64 kind] w fun e w' => e = .returned (.int .i64 (stuckE no kind rest must)) ∧ w = w' := by
  obtain ⟨es, rv, H, hO, hS⟩ := h
  obtain ⟨oa, cap, rfl, h2⟩ := hS.slice
  obtain ⟨c0, c1, c2, c3, c4, c5, c6, c7, c8, c9, c10, c11, c12, c13, c14, c15⟩ := H.facts
  clear H hO hS c0 c1 c2 c3 c4 c5 c6 c7 c8 c9 c10 c11 c12 c14
  obtain ⟨z, hz⟩ : ∃ z, stuckE no kind rest must = z := ⟨_, rfl⟩
  have HZ := Lib.hid hz
  rw [hz]
  clear hz
  obtain ⟨n, hn⟩ : ∃ n, rest.length = n := ⟨_, rfl⟩
  have HN : Hid (rest.isEmpty = decide (n = 0)) := Lib.hid (by rw [← hn]; cases rest <;> simp)
  rw [hn] at c13
  clear hn h2
  unfold stuckE at HZ
  by_cases h0 : n = 0
  · subst h0
    obtain rfl | h1 := Decidable.em (no = 0)
    · obtain rfl : z = 0 := by have := HZ.out; rw [HN.out] at this; simpa using this.symm
      go_enter Tryz.func28, Tryz.ntmps28
      go_wp2
      go_ret
      exact ⟨rfl, rfl⟩
    · have h1' : (no == 0) = false := by simpa using h1
      have h1'' : (no != 0) = true := by simpa using h1
      obtain rfl | h3 := Decidable.em (kind = 1)
      · obtain rfl : z = 0 := by have := HZ.out; rw [HN.out] at this; simpa [h1] using this.symm
        go_enter Tryz.func28, Tryz.ntmps28
        go_wp2
        go_ret
        exact ⟨rfl, rfl⟩
      · have h3' : (kind == 1) = false := by simpa using h3
        have h3'' : (kind != 1) = true := by simpa using h3
        cases must with
        | false =>
          obtain rfl : z = 0 := by have := HZ.out; rw [HN.out] at this; simpa [h1, h3] using this.symm
          go_enter Tryz.func28, Tryz.ntmps28
          go_wp2
          go_ret
          exact ⟨rfl, rfl⟩
        | true =>
          obtain rfl : z = 9 := by have := HZ.out; rw [HN.out] at this; simpa [h1, h3] using this.symm
          go_enter Tryz.func28, Tryz.ntmps28
          go_wp2
          go_ret
          exact ⟨rfl, rfl⟩
  · have h0' : (0 : Int) < (n : Int) := by omega
    obtain rfl | h1 := Decidable.em (no = 0)
    · obtain rfl : z = 5 := by have := HZ.out; rw [HN.out] at this; simpa [h0] using this.symm
      go_enter Tryz.func28, Tryz.ntmps28
      go_wp2
      go_ret
      exact ⟨rfl, rfl⟩
    · have h1' : (no == 0) = false := by simpa using h1
      have h1'' : (no != 0) = true := by simpa using h1
      obtain rfl | h3 := Decidable.em (kind = 1)
      · obtain rfl : z = 0 := by have := HZ.out; rw [HN.out] at this; simpa [h1] using this.symm
        go_enter Tryz.func28, Tryz.ntmps28
        go_wp2
        go_ret
        exact ⟨rfl, rfl⟩
      · have h3' : (kind == 1) = false := by simpa using h3
        have h3'' : (kind != 1) = true := by simpa using h3
        obtain rfl : z = 9 := by have := HZ.out; rw [HN.out] at this; simpa [h1, h3, h0] using this.symm
        go_enter Tryz.func28, Tryz.ntmps28
        go_wp2
        go_ret
        exact ⟨rfl, rfl⟩

/-- the error of a component ahead of looking it up -/
def refusedE (cu cg : Int) (n : T.Nd) (p : List UInt8) : Int := if n.kind ≠ 1 then 9 else if PM.may cu cg n.uid n.gid n.mode 1 = false then 6 else if 255 < p.length then 13 else 0
set_option maxRecDepth 100000 in
set_option maxHeartbeats 8000000 in
theorem refused_any (cu cg : Int) (n : T.Nd) {s : Value} (hs : T.Slc s) (p : List UInt8) (w : World) :
    Calls Tryz.prog 23 #[.agg #[.int .i64 cu, .int .i64 cg], n.v s, .string ⟨p.toArray⟩] w fun e w' => e = .returned (.int .i64 (refusedE cu cg n p)) ∧ Below w.heap.size w w' := by
  obtain ⟨ou, lu, cap, rfl⟩ := hs
  obtain ⟨no, dev, kind, mode, uid, gid, mt, ct, links, up, data, es⟩ := n
  have cn := fun W => PM.Node_any cu cg ⟨no, dev, kind, mode, uid, gid, mt, ct, links, up, data, ou, lu, cap⟩ 1 W
  dsimp only [PM.Nd.v, PM.cred] at cn
  dsimp only [T.Nd.v]
  obtain ⟨z, hz⟩ : ∃ z, refusedE cu cg ⟨no, dev, kind, mode, uid, gid, mt, ct, links, up, data, es⟩ p = z := ⟨_, rfl⟩
  have HZ := Lib.hid hz
  rw [hz]
  clear hz
  unfold refusedE at HZ
  dsimp only at HZ
  generalize PM.may cu cg uid gid mode 1 = q at *
  have hpl := size_ll p
  have B1 : ∀ w : World, Below w.heap.size w ((w.alloc (.cells #[.int .i64 cu, .int .i64 cg] 24)).alloc (.cells #[.int .i64 no, .int .i64 dev, .int .i64 kind, .int .i64 mode, .int .i64 uid, .int .i64 gid, .int .i64 mt, .int .i64 ct, .int .i64 links, .int .i64 up, .string data, .slice ou lu cap] 51)) := fun w => ((Below.refl _ _).alloc (Nat.le_refl _) _).alloc (by simp) _
  by_cases h1 : kind = 1
  · subst h1
    cases q with
    | false =>
      obtain rfl : z = 6 := by simpa using HZ.out.symm
      go_enter Tryz.func23, Tryz.ntmps23
      go_wp2_with (go_at_call 64; refine (cn _).mono ?_; rintro e w1 ⟨rfl, hb1⟩)
      go_ret
      exact ⟨rfl, (B1 w).trans (hb1.mono (B1 w).size)⟩
    | true =>
      by_cases h2 : 255 < p.length
      · have h2' : (255 : Int) < (p.length : Int) := by omega
        obtain rfl : z = 13 := by have := HZ.out; simpa [h2] using this.symm
        go_enter Tryz.func23, Tryz.ntmps23
        go_wp2_with (go_at_call 64; refine (cn _).mono ?_; rintro e w1 ⟨rfl, hb1⟩)
        go_ret
        exact ⟨rfl, (B1 w).trans (hb1.mono (B1 w).size)⟩
      · have h2' : ¬ (255 : Int) < (p.length : Int) := by omega
        obtain rfl : z = 0 := by have := HZ.out; simpa [h2] using this.symm
        go_enter Tryz.func23, Tryz.ntmps23
        go_wp2_with (go_at_call 64; refine (cn _).mono ?_; rintro e w1 ⟨rfl, hb1⟩)
        go_ret
        exact ⟨rfl, (B1 w).trans (hb1.mono (B1 w).size)⟩
  · have h1' : (kind == 1) = false := by simpa using h1
    obtain rfl : z = 9 := by have := HZ.out; simpa [h1] using this.symm
    clear cn
    go_enter Tryz.func23, Tryz.ntmps23
    go_wp2
    go_ret
    exact ⟨rfl, B1 w⟩
end
end Go.Proofs.YtlceaecibjbeaaaGreat.K
