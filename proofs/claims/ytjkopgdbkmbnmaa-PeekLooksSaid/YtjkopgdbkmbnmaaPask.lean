/-
  Package peek: Target, Read, Look.
-/
import Derived.Test.YtjkopgdbkmbnmaaPfil
namespace Go.Proofs.Ytjkopgdbkmbnmaa.P
open Go.RowKit Go.Shelf G
attribute [local go_sem] Oper.semAt_some

section
variable {B X A M : Nat} {mv : Value} {st : St} {w : World}
set_option maxRecDepth 100000 in
set_option maxHeartbeats 16000000 in
theorem Target_any (h : Wd B X A M mv st w) (k : Int) (hk : T.Wf k) : Calls Try.prog 15 #[.pointer (some ⟨X, 0, none⟩), .int .i64 k] w fun e w' =>
    e = .returned (.tuple #[.string (onlyIf (filE st k 2) (gets st.n k)).data, .int .i64 (filE st k 2)]) ∧ Below w.heap.size w w' := by
  have cc := filled_any h k hk 2
  generalize onlyIf (filE st k 2) (gets st.n k) = nd at *
  generalize filE st k 2 = de at *
  obtain ⟨no, dev, kind, mode, uid, gid, mt, ct, links, up, data, es⟩ := nd
  dsimp only [T.Nd.v] at cc ⊢
  clear h
  go_enter Try.func15, Try.ntmps15
  go_upto_region 2 with (go_at_call 30; refine cc.mono ?_; rintro e w3 ⟨u, rfl, hO, hb3⟩; obtain ⟨ou, cu, rfl⟩ := T.own_slice hO; have B3 := T.BoxN.new ⟨no, dev, kind, mode, uid, gid, mt, ct, links, up, data, es⟩ (.slice ou es.length cu) w3)
  have hb4 : Below w.heap.size w (w3.alloc (.cells #[.int .i64 no, .int .i64 dev, .int .i64 kind, .int .i64 mode, .int .i64 uid, .int .i64 gid, .int .i64 mt, .int .i64 ct, .int .i64 links, .int .i64 up, .string data, .slice ou es.length cu] 70)) := below_two hb3 ((Below.refl _ _).alloc (Nat.le_refl _) _)
  generalize w3.heap.size = b3 at *
  generalize w3.alloc (.cells #[.int .i64 no, .int .i64 dev, .int .i64 kind, .int .i64 mode, .int .i64 uid, .int .i64 gid, .int .i64 mt, .int .i64 ct, .int .i64 links, .int .i64 up, .string data, .slice ou es.length cu] 70) = W4 at B3 hb4 ⊢
  clear hO hb3 cc
  obtain ⟨g0, g1, g2, g3, g4, g5, g6, g7, g8, g9, g10, g11⟩ := B3.facts
  dsimp only at g0 g1 g2 g3 g4 g5 g6 g7 g8 g9 g10 g11
  go_wp2
  go_ret2
  exact ⟨rfl, hb4⟩
set_option maxRecDepth 100000 in
set_option maxHeartbeats 16000000 in
theorem Read_any (h : Wd B X A M mv st w) (cu cg k : Int) (hk : T.Wf k) : Calls Try.prog 12 #[.pointer (some ⟨X, 0, none⟩), .agg #[.int .i64 cu, .int .i64 cg], .int .i64 k] w fun e w' =>
    e = .returned (.tuple #[.string (onlyIf (readE st cu cg k) (gets st.n k)).data, .int .i64 (readE st cu cg k)]) ∧ Below w.heap.size w w' := by
  have hb1 : Below w.heap.size w (w.alloc (.cells #[.int .i64 cu, .int .i64 cg] 24)) := (Below.refl _ _).alloc (Nat.le_refl _) _
  have C1 := CrBox.new cu cg w
  have cc := filled_any (h.below hb1) k hk 3
  have hd : readE st cu cg k = if filE st k 3 ≠ 0 then filE st k 3 else if PM.may cu cg (gets st.n k).uid (gets st.n k).gid (gets st.n k).mode 4 = false then 6 else 0 := rfl
  generalize readE st cu cg k = re at *
  generalize filE st k 3 = de at *
  generalize gets st.n k = nd at *
  clear h
  go_enter Try.func12, Try.ntmps12
  go_upto_region 1 with fail
  generalize w.alloc (.cells #[.int .i64 cu, .int .i64 cg] 24) = W1 at *
  have HD := Lib.hid hd
  clear hd
  by_cases h0 : de = 0
  · subst h0
    rw [only_ok] at cc
    obtain ⟨no, dev, kind, mode, uid, gid, mt, ct, links, up, data, es⟩ := nd
    dsimp only [T.Nd.v] at cc
    go_upto_region 2 with (go_at_call 30; refine cc.mono ?_; rintro e w3 ⟨u, rfl, hO, hb3⟩; obtain ⟨ou, cu', rfl⟩ := T.own_slice hO; have B3 := T.BoxN.new ⟨no, dev, kind, mode, uid, gid, mt, ct, links, up, data, es⟩ (.slice ou es.length cu') w3)
    have hal : Below w3.heap.size w3 (w3.alloc (.cells #[.int .i64 no, .int .i64 dev, .int .i64 kind, .int .i64 mode, .int .i64 uid, .int .i64 gid, .int .i64 mt, .int .i64 ct, .int .i64 links, .int .i64 up, .string data, .slice ou es.length cu'] 70)) := (Below.refl _ _).alloc (Nat.le_refl _) _
    have hb4 := below_two (below_two hb1 hb3) hal
    have C4 := (C1.below hb3).below hal
    generalize w3.heap.size = b3 at *
    generalize w3.alloc (.cells #[.int .i64 no, .int .i64 dev, .int .i64 kind, .int .i64 mode, .int .i64 uid, .int .i64 gid, .int .i64 mt, .int .i64 ct, .int .i64 links, .int .i64 up, .string data, .slice ou es.length cu'] 70) = W4 at B3 hb4 C4 ⊢
    clear hO hb3 cc hal C1 hb1
    obtain ⟨g0, g1, g2, g3, g4, g5, g6, g7, g8, g9, g10, g11⟩ := B3.facts
    obtain ⟨k0, k1⟩ := C4.facts
    dsimp only at g0 g1 g2 g3 g4 g5 g6 g7 g8 g9 g10 g11
    have cn := fun W => PM.Node_any cu cg ⟨no, dev, kind, mode, uid, gid, mt, ct, links, up, data, ou, es.length, cu'⟩ 4 W
    dsimp only [PM.Nd.v, PM.cred] at cn
    cases hm : PM.may cu cg uid gid mode 4 with
    | false =>
      obtain rfl : re = 6 := HD.out.trans (by simp [hm])
      rw [hm] at cn
      go_wp2_with (go_at_call 31; refine (cn _).mono ?_; rintro e W5 ⟨rfl, hb5⟩)
      go_ret2
      exact ⟨rfl, below_two hb4 hb5⟩
    | true =>
      obtain rfl : re = 0 := HD.out.trans (by simp [hm])
      rw [hm] at cn
      go_wp2_with (go_at_call 31; refine (cn _).mono ?_; rintro e W5 ⟨rfl, hb5⟩; obtain ⟨g0, g1, g2, g3, g4, g5, g6, g7, g8, g9, g10, g11⟩ := (B3.below hb5).facts)
      go_ret2
      exact ⟨rfl, below_two hb4 hb5⟩
  · obtain rfl : re = de := HD.out.trans (by simp [h0])
    have h1 : (re == 0) = false := by simpa using h0
    rw [only_err h0] at cc
    clear HD
    unfold T.Nd.zero at *
    dsimp only [T.Nd.v] at cc
    go_wp2_with (go_at_call 30; refine cc.mono ?_; rintro e w3 ⟨u, rfl, hO, hb3⟩; obtain ⟨ou, cu', rfl⟩ := T.own_slice hO)
    go_ret2
    exact ⟨by rw [only_err h0]; rfl, below_two (below_two hb1 hb3) ((Below.refl _ _).alloc (Nat.le_refl _) _)⟩
set_option maxRecDepth 100000 in
set_option maxHeartbeats 16000000 in
theorem Look_any (hI : Inv st) (h : Wd B X A M mv st w) (hT : K.Tree st) (cu cg k : Int) (hk : T.Wf k) (n : List UInt8) : Calls Try.prog 17 #[.pointer (some ⟨X, 0, none⟩), .agg #[.int .i64 cu, .int .i64 cg], .int .i64 k, .string ⟨n.toArray⟩] w fun e w' =>
    e = .returned (.tuple #[.int .i64 (lookN st cu cg k n), .int .i64 (lookE st cu cg k n)]) ∧ Below w.heap.size w w' := by
  have hb1 : Below w.heap.size w (w.alloc (.cells #[.int .i64 cu, .int .i64 cg] 24)) := (Below.refl _ _).alloc (Nat.le_refl _) _
  have C1 := CrBox.new cu cg w
  have cc := directory_any (h.below hb1) cu cg k hk 1
  have cv := fun W (hb : Below w.heap.size w W) => Over_any (h.below hb) (E.numOf (gets st.n k).es n)
  have hd : lookE st cu cg k n = if dirE st cu cg k 1 ≠ 0 then dirE st cu cg k 1 else if E.numOf (gets st.n k).es n = 0 then 5 else 0 := rfl
  have hn : lookN st cu cg k n = if dirE st cu cg k 1 ≠ 0 then 0 else if E.numOf (gets st.n k).es n = 0 then 0 else over st.d (E.numOf (gets st.n k).es n) := rfl
  have hup := K.gets_up hT k
  have hfew := K.gets_few hI k
  generalize lookE st cu cg k n = re at *
  generalize lookN st cu cg k n = rn at *
  generalize dirE st cu cg k 1 = de at *
  generalize gets st.n k = nd at *
  clear h
  go_enter Try.func17, Try.ntmps17
  go_upto_region 1 with fail
  generalize w.alloc (.cells #[.int .i64 cu, .int .i64 cg] 24) = W1 at *
  have HD := Lib.hid hd
  have HN := Lib.hid hn
  clear hd hn
  obtain ⟨k0, k1⟩ := C1.facts
  by_cases h0 : de = 0
  · subst h0
    rw [only_ok] at cc
    obtain ⟨no, dev, kind, mode, uid, gid, mt, ct, links, up, data, es⟩ := nd
    dsimp only [T.Nd.v] at cc
    dsimp only at cv hup hfew
    go_upto_region 2 with (go_at_call 25; refine cc.mono ?_; rintro e w3 ⟨u, rfl, hO, hb3⟩; obtain ⟨ou, cu', rfl⟩ := T.own_slice hO; have B3 := T.BoxN.new ⟨no, dev, kind, mode, uid, gid, mt, ct, links, up, data, es⟩ (.slice ou es.length cu') w3)
    have hal : Below w3.heap.size w3 (w3.alloc (.cells #[.int .i64 no, .int .i64 dev, .int .i64 kind, .int .i64 mode, .int .i64 uid, .int .i64 gid, .int .i64 mt, .int .i64 ct, .int .i64 links, .int .i64 up, .string data, .slice ou es.length cu'] 70)) := (Below.refl _ _).alloc (Nat.le_refl _) _
    have hb4 := below_two (below_two hb1 hb3) hal
    have hO4 := hO.below hal
    generalize w3.heap.size = b3 at *
    generalize w3.alloc (.cells #[.int .i64 no, .int .i64 dev, .int .i64 kind, .int .i64 mode, .int .i64 uid, .int .i64 gid, .int .i64 mt, .int .i64 ct, .int .i64 links, .int .i64 up, .string data, .slice ou es.length cu'] 70) = W4 at B3 hb4 hO4 ⊢
    clear hO hb3 cc hal C1 hb1 k0 k1
    obtain ⟨g0, g1, g2, g3, g4, g5, g6, g7, g8, g9, g10, g11⟩ := B3.facts
    dsimp only at g0 g1 g2 g3 g4 g5 g6 g7 g8 g9 g10 g11
    have cf := E.find_any hO4.sees n hup hfew
    rw [K.noOf_numOf] at cf
    have cv4 := fun W (hb : Below W4.heap.size W4 W) => cv W (below_two hb4 hb)
    clear cv
    by_cases hz : E.numOf es n = 0
    · obtain rfl : re = 5 := HD.out.trans (by simp [hz])
      obtain rfl : rn = 0 := HN.out.trans (by simp [hz])
      rw [hz] at cf
      clear cv4
      go_wp2_with (go_at_call 32; refine cf.mono ?_; rintro e W5 ⟨rfl, hb5⟩)
      go_ret2
      exact ⟨rfl, below_two hb4 hb5⟩
    · obtain rfl : re = 0 := HD.out.trans (by simp [hz])
      have hr : over st.d (E.numOf es n) = rn := (HN.out.trans (by simp [hz])).symm
      have hz' : (E.numOf es n == 0) = false := by simpa using hz
      simp only [hr] at cv4
      clear HN HD hr
      generalize E.numOf es n = z at *
      go_wp2_with (first
        | (go_at_call 32; refine cf.mono ?_; rintro e W5 ⟨rfl, hb5⟩; have cv5 := cv4 _ hb5)
        | (go_at_call 27; refine cv5.mono ?_; rintro e W6 ⟨rfl, hb6⟩))
      go_ret2
      exact ⟨rfl, below_two (below_two hb4 hb5) hb6⟩
  · obtain rfl : re = de := HD.out.trans (by simp [h0])
    obtain rfl : rn = 0 := HN.out.trans (by simp [h0])
    have h1 : (re == 0) = false := by simpa using h0
    rw [only_err h0] at cc
    clear HD HN
    unfold T.Nd.zero at *
    dsimp only [T.Nd.v] at cc
    go_wp2_with (go_at_call 25; refine cc.mono ?_; rintro e w3 ⟨u, rfl, hO, hb3⟩; obtain ⟨ou, cu', rfl⟩ := T.own_slice hO)
    go_ret2
    exact ⟨rfl, below_two (below_two hb1 hb3) ((Below.refl _ _).alloc (Nat.le_refl _) _)⟩
end
end Go.Proofs.Ytjkopgdbkmbnmaa.P
