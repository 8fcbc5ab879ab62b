/-
  directory, Above, called.
-/
import Derived.Test.YtmoimijclafgcaaGnode
import Derived.Deep.DeepCutAuto
namespace Go.Proofs.Ytmoimijclafgcaa.G
open Go.RowKit Go.Shelf
attribute [local go_sem] Oper.semAt_some

section
variable {B X A M : Nat} {mv : Value} {st : St} {w : World}
theorem isDir_eq (n : List T.Nd) (k : Int) : isDir n k = ((get n k).isSome && decide ((gets n k).kind = 1)) := rfl
theorem isDir_none {n : List T.Nd} {k : Int} (h : (get n k).isSome = false) : isDir n k = false := by rw [isDir_eq, h]; rfl

set_option maxRecDepth 100000 in
set_option maxHeartbeats 8000000 in
theorem directory_any (h : Wd B X A M mv st w) (k : Int) (hk : T.Wf k) : Calls Try.prog 44 #[.pointer (some ⟨X, 0, none⟩), .int .i64 k] w fun e w' =>
    ∃ u, e = .returned (.tuple #[(gets st.n k).v u, .bool (isDir st.n k)]) ∧ E.Own w.heap.size u (gets st.n k).es w' ∧ Below w.heap.size w w' := by
  have hb1 : Below w.heap.size w (w.alloc (.cells #[.int .i64 0, .int .i64 0, .int .i64 0, .int .i64 0, .int .i64 0, .int .i64 0, .int .i64 0, .int .i64 0, .int .i64 0, .int .i64 0, .string ⟨#[]⟩, .slice none 0 0] 71)) := (Below.refl _ _).alloc (Nat.le_refl _) _
  have B1 := T.BoxN.new T.Nd.zero (.slice none 0 0) w
  dsimp only [T.Nd.zero] at B1
  have hs1 : (w.alloc (.cells #[.int .i64 0, .int .i64 0, .int .i64 0, .int .i64 0, .int .i64 0, .int .i64 0, .int .i64 0, .int .i64 0, .int .i64 0, .int .i64 0, .string ⟨#[]⟩, .slice none 0 0] 71)).heap.size = w.heap.size + 1 := by simp
  have cc := fun W (hb : Below w.heap.size w W) => node_any (h.below hb) k hk
  clear h
  rw [isDir_eq]
  generalize gets st.n k = nd at *
  generalize (get st.n k).isSome = bb at *
  obtain ⟨no, dev, kind, mode, uid, gid, mt, ct, links, up, data, es⟩ := nd
  dsimp only [T.Nd.v] at cc ⊢
  go_enter Try.func44, Try.ntmps44
  go_upto_region 1 with fail
  generalize w.alloc (.cells #[.int .i64 0, .int .i64 0, .int .i64 0, .int .i64 0, .int .i64 0, .int .i64 0, .int .i64 0, .int .i64 0, .int .i64 0, .int .i64 0, .string ⟨#[]⟩, .slice none 0 0] 71) = W1 at B1 hb1 hs1 ⊢
  have c1 := cc W1 hb1
  obtain ⟨b0, hbd⟩ : ∃ b, w.heap.size = b := ⟨_, rfl⟩
  rw [hbd] at B1 hb1 hs1 ⊢
  have HB := Lib.hid hbd
  clear hbd cc
  go_upto_region 2 with (go_at_call 25; refine c1.mono ?_; rintro e w3 ⟨u, rfl, hO, hb3⟩; obtain ⟨ou, cu, rfl⟩ := T.own_slice hO; have B3 := T.BoxN.new ⟨no, dev, kind, mode, uid, gid, mt, ct, links, up, data, es⟩ (.slice ou es.length cu) w3)
  have hO3 := T.own_kept hO (T.EntKept.below ((Below.refl w3.heap.size w3).alloc (Nat.le_refl _) (.cells #[.int .i64 no, .int .i64 dev, .int .i64 kind, .int .i64 mode, .int .i64 uid, .int .i64 gid, .int .i64 mt, .int .i64 ct, .int .i64 links, .int .i64 up, .string data, .slice ou es.length cu] 71)))
  have D2 := (B1.below hb3).below ((Below.refl w3.heap.size w3).alloc (Nat.le_refl _) (.cells #[.int .i64 no, .int .i64 dev, .int .i64 kind, .int .i64 mode, .int .i64 uid, .int .i64 gid, .int .i64 mt, .int .i64 ct, .int .i64 links, .int .i64 up, .string data, .slice ou es.length cu] 71))
  have hb4 : Below b0 w (w3.alloc (.cells #[.int .i64 no, .int .i64 dev, .int .i64 kind, .int .i64 mode, .int .i64 uid, .int .i64 gid, .int .i64 mt, .int .i64 ct, .int .i64 links, .int .i64 up, .string data, .slice ou es.length cu] 71)) := (hb1.trans (hb3.mono (by omega))).alloc (by have := hb3.size; omega) _
  have hlt : b0 < w3.heap.size := by have := hb3.size; omega
  generalize w3.heap.size = b3 at *
  generalize w3.alloc (.cells #[.int .i64 no, .int .i64 dev, .int .i64 kind, .int .i64 mode, .int .i64 uid, .int .i64 gid, .int .i64 mt, .int .i64 ct, .int .i64 links, .int .i64 up, .string data, .slice ou es.length cu] 71) = W4 at B3 hO3 D2 hb4 ⊢
  clear B1 hb3 hO c1
  obtain ⟨a0, a1, a2, a3, a4, a5, a6, a7, a8, a9, a10, a11⟩ := D2.facts
  obtain ⟨f0, f1, f2, f3, f4, f5, f6, f7, f8, f9, f10, f11⟩ := D2.open
  obtain ⟨g0, g1, g2, g3, g4, g5, g6, g7, g8, g9, g10, g11⟩ := B3.facts
  have hlt2 := D2.lt
  cases bb with
  | false =>
    go_region
    · skip
      have D3 := D2.fill ⟨no, dev, kind, mode, uid, gid, mt, ct, links, up, data, es⟩ (.slice ou es.length cu)
      have hb5 := (hb4.trans (T.below_fill (Nat.le_refl b0) W4 ⟨no, dev, kind, mode, uid, gid, mt, ct, links, up, data, es⟩ (.slice ou es.length cu))).drew
      have hO4 : E.Own b0 _ es _ := E.own_drew (T.own_kept (hO3.mono (by omega)) (T.EntKept.fill D2 ⟨no, dev, kind, mode, uid, gid, mt, ct, links, up, data, es⟩ (.slice ou es.length cu)))
      replace D3 := D3.below ((Below.refl _ _).drew)
      unfold T.fill at D3 hb5 hO4
      generalize World.drew _ = W5 at D3 hb5 hO4 ⊢
      clear a0 a1 a2 a3 a4 a5 a6 a7 a8 a9 a10 a11 f0 f1 f2 f3 f4 f5 f6 f7 f8 f9 f10 f11 g0 g1 g2 g3 g4 g5 g6 g7 g8 g9 g10 g11 
      go_wp2
      obtain ⟨q0, q1, q2, q3, q4, q5, q6, q7, q8, q9, q10, q11⟩ := D3.facts
      refine bodyPost_ret (by simp [results, Try.results44, go_sem, q0, q1, q2, q3, q4, q5, q6, q7, q8, q9, q10, q11]; rfl) rfl ?_
      exact ⟨_, rfl, HB.out ▸ hO4, HB.out ▸ hb5⟩
  | true =>
    by_cases hk1 : kind = 1
    · subst hk1
      go_region
      have D3 := D2.fill ⟨no, dev, 1, mode, uid, gid, mt, ct, links, up, data, es⟩ (.slice ou es.length cu)
      have hb5 := (hb4.trans (T.below_fill (Nat.le_refl b0) W4 ⟨no, dev, 1, mode, uid, gid, mt, ct, links, up, data, es⟩ (.slice ou es.length cu))).drew
      have hO4 : E.Own b0 _ es _ := E.own_drew (T.own_kept (hO3.mono (by omega)) (T.EntKept.fill D2 ⟨no, dev, 1, mode, uid, gid, mt, ct, links, up, data, es⟩ (.slice ou es.length cu)))
      replace D3 := D3.below ((Below.refl _ _).drew)
      unfold T.fill at D3 hb5 hO4
      generalize World.drew _ = W5 at D3 hb5 hO4 ⊢
      clear a0 a1 a2 a3 a4 a5 a6 a7 a8 a9 a10 a11 f0 f1 f2 f3 f4 f5 f6 f7 f8 f9 f10 f11 g0 g1 g2 g3 g4 g5 g6 g7 g8 g9 g10 g11 
      go_wp2
      obtain ⟨q0, q1, q2, q3, q4, q5, q6, q7, q8, q9, q10, q11⟩ := D3.facts
      refine bodyPost_ret (by simp [results, Try.results44, go_sem, q0, q1, q2, q3, q4, q5, q6, q7, q8, q9, q10, q11]; rfl) rfl ?_
      exact ⟨_, rfl, HB.out ▸ hO4, HB.out ▸ hb5⟩
    · have hk2 : (kind == 1) = false := by simpa using hk1
      have hk3 : decide (kind = 1) = false := by simpa using hk1
      go_region
      have D3 := D2.fill ⟨no, dev, kind, mode, uid, gid, mt, ct, links, up, data, es⟩ (.slice ou es.length cu)
      have hb5 := (hb4.trans (T.below_fill (Nat.le_refl b0) W4 ⟨no, dev, kind, mode, uid, gid, mt, ct, links, up, data, es⟩ (.slice ou es.length cu))).drew
      have hO4 : E.Own b0 _ es _ := E.own_drew (T.own_kept (hO3.mono (by omega)) (T.EntKept.fill D2 ⟨no, dev, kind, mode, uid, gid, mt, ct, links, up, data, es⟩ (.slice ou es.length cu)))
      replace D3 := D3.below ((Below.refl _ _).drew)
      unfold T.fill at D3 hb5 hO4
      generalize World.drew _ = W5 at D3 hb5 hO4 ⊢
      clear a0 a1 a2 a3 a4 a5 a6 a7 a8 a9 a10 a11 f0 f1 f2 f3 f4 f5 f6 f7 f8 f9 f10 f11 g0 g1 g2 g3 g4 g5 g6 g7 g8 g9 g10 g11 
      go_wp2
      obtain ⟨q0, q1, q2, q3, q4, q5, q6, q7, q8, q9, q10, q11⟩ := D3.facts
      refine bodyPost_ret (by simp [results, Try.results44, go_sem, q0, q1, q2, q3, q4, q5, q6, q7, q8, q9, q10, q11]; rfl) rfl ?_
      exact ⟨_, by rw [hk3]; rfl, HB.out ▸ hO4, HB.out ▸ hb5⟩

set_option maxRecDepth 100000 in
set_option maxHeartbeats 8000000 in
theorem Above_any (h : Wd B X A M mv st w) (k : Int) (hk : T.Wf k) (hu : T.Wf (under st.d k)) : Calls Try.prog 18 #[.pointer (some ⟨X, 0, none⟩), .int .i64 k] w fun e w' =>
    e = .returned (.int .i64 (above st k)) ∧ Below w.heap.size w w' := by
  have cd := directory_any h k hk
  have hw := fun W (hb : Below w.heap.size w W) => h.below hb
  have cu := fun W (hb : Below w.heap.size w W) => under_any (h.below hb) k
  have cn := fun W (hb : Below w.heap.size w W) => node_any (h.below hb) (under st.d k) hu
  clear h hw
  have ha : above st k = if isDir st.n k = true then (gets st.n (under st.d k)).up else 0 := rfl
  have hsame : under st.d k = k → gets st.n (under st.d k) = gets st.n k := fun e => by rw [e]
  rw [ha]
  clear ha
  generalize isDir st.n k = bb at *
  generalize (get st.n (under st.d k)).isSome = b2 at *
  generalize gets st.n (under st.d k) = n2 at *
  generalize under st.d k = un at *
  generalize gets st.n k = n1 at *
  have HS := Lib.hid hsame
  clear hsame hu
  obtain ⟨no, dev, kind, mode, uid, gid, mt, ct, links, up, data, es⟩ := n1
  dsimp only [T.Nd.v] at cd
  go_enter Try.func18, Try.ntmps18
  go_upto_region 2 with (go_at_call 44; refine cd.mono ?_; rintro e w3 ⟨u, rfl, hO, hb3⟩; obtain ⟨ou, cu', rfl⟩ := T.own_slice hO; have B3 := T.BoxN.new ⟨no, dev, kind, mode, uid, gid, mt, ct, links, up, data, es⟩ (.slice ou es.length cu') w3; have hb4 := hb3.alloc hb3.size (.cells #[.int .i64 no, .int .i64 dev, .int .i64 kind, .int .i64 mode, .int .i64 uid, .int .i64 gid, .int .i64 mt, .int .i64 ct, .int .i64 links, .int .i64 up, .string data, .slice ou es.length cu'] 71))
  have hlt : w.heap.size ≤ w3.heap.size := hb3.size
  generalize w3.alloc (.cells #[.int .i64 no, .int .i64 dev, .int .i64 kind, .int .i64 mode, .int .i64 uid, .int .i64 gid, .int .i64 mt, .int .i64 ct, .int .i64 links, .int .i64 up, .string data, .slice ou es.length cu'] 71) = W4 at B3 hb4 ⊢
  generalize w3.heap.size = b3 at B3 hlt ⊢
  clear cd hO hb3
  cases bb with
  | false =>
    go_wp2
    go_ret
    exact ⟨rfl, hb4⟩
  | true =>
    have c1 := cu W4 hb4
    clear cu
    go_upto_region 5 with (go_at_call 49; refine c1.mono ?_; rintro e w5 ⟨rfl, hb5⟩)
    have B5 := B3.below hb5
    have hb6 := below_two hb4 hb5
    clear c1
    by_cases e : un = k
    · have e2 := HS.out e
      clear cn HS
      subst e
      subst e2
      obtain ⟨_, _, _, _, _, _, _, _, _, q9, _, _⟩ := B5.facts
      go_wp2
      go_ret
      exact ⟨rfl, hb6⟩
    · have e' : (un == k) = false := by simpa using e
      have c2 := cn w5 hb6
      clear cn HS
      obtain ⟨no2, dev2, kind2, mode2, uid2, gid2, mt2, ct2, links2, up2, data2, es2⟩ := n2
      dsimp only [T.Nd.v] at c2
      go_upto_region 7 with (go_at_call 25; refine c2.mono ?_; rintro e w7 ⟨u, rfl, hO, hb7⟩; obtain ⟨ou2, cu2, rfl⟩ := T.own_slice hO; obtain ⟨a0, a1, a2, a3, a4, a5, a6, a7, a8, a9, a10, a11⟩ := (B5.below hb7).facts; obtain ⟨f0, f1, f2, f3, f4, f5, f6, f7, f8, f9, f10, f11⟩ := (B5.below hb7).open)
      have D3 := (B5.below hb7).fill ⟨no2, dev2, kind2, mode2, uid2, gid2, mt2, ct2, links2, up2, data2, es2⟩ (.slice ou2 es2.length cu2)
      have hb8 := (below_two hb6 hb7).trans (T.below_fill hlt w7 ⟨no2, dev2, kind2, mode2, uid2, gid2, mt2, ct2, links2, up2, data2, es2⟩ (.slice ou2 es2.length cu2))
      unfold T.fill at D3 hb8
      generalize World.setCell _ _ _ = W8 at D3 hb8 ⊢
      clear a0 a1 a2 a3 a4 a5 a6 a7 a8 a9 a10 a11 f0 f1 f2 f3 f4 f5 f6 f7 f8 f9 f10 f11
      obtain ⟨_, _, _, _, _, _, _, _, _, q9, _, _⟩ := D3.facts
      go_wp2
      go_ret
      exact ⟨rfl, hb8⟩

set_option maxRecDepth 100000 in
set_option maxHeartbeats 8000000 in
theorem called_any (h : Wd B X A M mv st w) (k : Int) (hk : T.Wf k) (hu : T.Wf (under st.d k)) (ha : T.Wf (above st k)) (hf : (gets st.n (above st k)).es.length ≤ 100000) : Calls Try.prog 48 #[.pointer (some ⟨X, 0, none⟩), .int .i64 k] w fun e w' =>
    e = .returned (.tuple #[.string ⟨((called st k).getD []).toArray⟩, .bool (called st k).isSome]) ∧ Below w.heap.size w w' := by
  have ca := Above_any h k hk hu
  have cd := fun W (hb : Below w.heap.size w W) => directory_any (h.below hb) (above st k) ha
  have cu := fun W (hb : Below w.heap.size w W) => under_any (h.below hb) k
  have cn := fun {v : Value} {W : World} (hS : E.Sees v (gets st.n (above st k)).es W) => E.name_any hS (under st.d k) hf
  clear h
  have hc : called st k = if isDir st.n (above st k) = true then E.nameOf (gets st.n (above st k)).es (under st.d k) else none := rfl
  rw [hc]
  clear hc ha hu hf
  generalize gets st.n (above st k) = n1 at *
  generalize isDir st.n (above st k) = bb at *
  generalize above st k = up1 at *
  generalize under st.d k = un at *
  obtain ⟨no, dev, kind, mode, uid, gid, mt, ct, links, up, data, es⟩ := n1
  dsimp only [T.Nd.v] at cd cn
  go_enter Try.func48, Try.ntmps48
  go_upto_region 2 with (first
    | (go_at_call 18; refine ca.mono ?_; rintro e w2 ⟨rfl, hb2⟩; have cd2 := cd w2 hb2)
    | (go_at_call 44; refine cd2.mono ?_; rintro e w3 ⟨u, rfl, hO, hb3⟩; obtain ⟨ou, cu', rfl⟩ := T.own_slice hO; have B3 := T.BoxN.new ⟨no, dev, kind, mode, uid, gid, mt, ct, links, up, data, es⟩ (.slice ou es.length cu') w3; have hb4 := hb3.alloc hb3.size (.cells #[.int .i64 no, .int .i64 dev, .int .i64 kind, .int .i64 mode, .int .i64 uid, .int .i64 gid, .int .i64 mt, .int .i64 ct, .int .i64 links, .int .i64 up, .string data, .slice ou es.length cu'] 71)))
  have hO4 := T.own_kept hO (T.EntKept.below ((Below.refl w3.heap.size w3).alloc (Nat.le_refl _) (.cells #[.int .i64 no, .int .i64 dev, .int .i64 kind, .int .i64 mode, .int .i64 uid, .int .i64 gid, .int .i64 mt, .int .i64 ct, .int .i64 links, .int .i64 up, .string data, .slice ou es.length cu'] 71)))
  generalize w3.alloc (.cells #[.int .i64 no, .int .i64 dev, .int .i64 kind, .int .i64 mode, .int .i64 uid, .int .i64 gid, .int .i64 mt, .int .i64 ct, .int .i64 links, .int .i64 up, .string data, .slice ou es.length cu'] 71) = W4 at B3 hb4 hO4 ⊢
  generalize w3.heap.size = b3 at B3 ⊢
  have hb5 := below_two hb2 hb4
  clear cd ca cd2 hO hb3 hb4
  cases bb with
  | false =>
    go_wp2
    go_ret2
    exact ⟨rfl, hb5⟩
  | true =>
    go_upto_region 4 with fail
    have hS4 := hO4.sees
    have hdr : Below W4.heap.size W4 W4.drew := (Below.refl _ _).drew
    have B4 := B3.below hdr
    have c1 := cu W4.drew (below_two hb5 hdr)
    have hS5 := hS4.below hdr
    clear cu
    go_region_held3 (fun w' => w'.cell? ⟨b3, 11, none⟩ = some (.slice ou es.length cu'))
      (with_reducible first | exact B7.facts.2.2.2.2.2.2.2.2.2.2.2 | exact B6.facts.2.2.2.2.2.2.2.2.2.2.2 | exact B4.facts.2.2.2.2.2.2.2.2.2.2.2)
      (first
        | (go_at_call 49; refine c1.mono ?_; rintro e w6 ⟨rfl, hb6⟩; have c2 := cn (hS5.below hb6); have B6 := B4.below hb6)
        | (go_at_call 76; refine c2.mono ?_; rintro e w7 ⟨rfl, hb7⟩; have B7 := B6.below hb7))
    go_wp2
    go_ret2
    exact ⟨rfl, below_two (below_two (below_two hb5 hdr) hb6) hb7⟩
end
end Go.Proofs.Ytmoimijclafgcaa.G
