/-
  Mount, New.
-/
import Derived.Test.YtmoimijclafgcaaGbegin
namespace Go.Proofs.Ytmoimijclafgcaa.G
open Go.RowKit Go.Shelf
attribute [local go_sem] Oper.semAt_some

theorem mount_none {st : St} {k b c : Int} (h : (get st.n k).isSome = false) : mount st k b c = (st, 0, 5) := by unfold mount; rw [if_neg (by rw [h]; simp)]
theorem mount_kind {st : St} {k b c : Int} (h : (get st.n k).isSome = true) (h1 : (gets st.n k).kind ≠ 1) : mount st k b c = (st, 0, 9) := by unfold mount; rw [if_pos h, if_neg h1]
theorem mount_busy {st : St} {k b c : Int} (h : (get st.n k).isSome = true) (h1 : (gets st.n k).kind = 1) (h2 : over st.d k ≠ k ∨ isRoot st.d k = true) : mount st k b c = (st, 0, 16) := by unfold mount; rw [if_pos h, if_pos h1, if_pos h2]
theorem mount_full {st : St} {k b c : Int} (h : (get st.n k).isSome = true) (h1 : (gets st.n k).kind = 1) (h2 : over st.d k = k) (h2' : isRoot st.d k = false) (h3 : 8 ≤ st.d.length) : mount st k b c = (st, 0, 3) := by
  unfold mount; rw [if_pos h, if_pos h1, if_neg (by rw [h2, h2']; simp), if_pos h3]
theorem mount_go {st : St} {k b c : Int} (h : (get st.n k).isSome = true) (h1 : (gets st.n k).kind = 1) (h2 : over st.d k = k) (h2' : isRoot st.d k = false) (h3 : ¬ 8 ≤ st.d.length) :
    mount st k b c = if limits b c = true then (begin_ st k b c, st.last + 1, 0) else (st, 0, 3) := by
  unfold mount; rw [if_pos h, if_pos h1, if_neg (by rw [h2, h2']; simp), if_neg h3]
section
variable {B X A M : Nat} {mv mv' : Value} {st : St} {w w' : World}
/-- begin, whatever the limits -/
theorem begin_any (h : Wd B X A M mv st w) (k b c : Int) (hB : B ≤ w.heap.size) (hdl : st.d.length < 1000) (hlen : st.n.length < 900000) (hlast : st.last < 900000) :
    Calls Try.prog 37 #[.pointer (some ⟨X, 0, none⟩), .int .i64 k, .int .i64 b, .int .i64 c] w fun e w' =>
    ∃ x y st', e = .returned (.tuple #[.int .i64 x, .int .i64 y]) ∧ (if limits b c = true then (begin_ st k b c, st.last + 1, (0 : Int)) else (st, 0, 3)) = (st', x, y) ∧ ∃ mv', Wd B X A M mv' st' w' ∧ Turn (wS X A M mv) w w' := by
  cases hl : limits b c with
  | true =>
    refine (begin_yes h k b c hl hB hdl hlen hlast).mono ?_
    rintro e w' ⟨rfl, mv', h1, h2⟩
    exact ⟨_, _, _, rfl, rfl, mv', h1, h2⟩
  | false =>
    refine (begin_no k b c X hl w).mono ?_
    rintro e w' ⟨rfl, hb⟩
    exact ⟨_, _, _, rfl, rfl, mv, h.below hb, Turn.of_below hb⟩
set_option maxRecDepth 100000 in
set_option maxHeartbeats 8000000 in
theorem Mount_any (h : Wd B X A M mv st w) (k b c : Int) (hk : T.Wf k) (hB : B ≤ w.heap.size) (hdl : st.d.length < 1000) (hlen : st.n.length < 900000) (hlast : st.last < 900000) :
    Calls Try.prog 12 #[.pointer (some ⟨X, 0, none⟩), .int .i64 k, .int .i64 b, .int .i64 c] w fun e w' =>
    e = .returned (.tuple #[.int .i64 (mount st k b c).2.1, .int .i64 (mount st k b c).2.2]) ∧ (∃ mv', Wd B X A M mv' (mount st k b c).1 w') ∧ Turn (wS X A M mv) w w' := by
  obtain ⟨r, hr⟩ : ∃ r, mount st k b c = r := ⟨_, rfl⟩
  rw [hr]
  have HR := Lib.hid hr
  have c1 := node_any h k hk
  have H := Lib.hid h
  have co := fun W (hb : Below w.heap.size w W) => Over_any (h.below hb) k
  have cr := fun W (hb : Below w.heap.size w W) => isRoot_any (h.below hb) (by omega) k
  have cd := fun W (hb : Below w.heap.size w W) => Devs_any (h.below hb)
  have cg := fun W (hb : Below w.heap.size w W) => begin_any (h.below hb) k b c (Nat.le_trans hB hb.size) hdl hlen hlast
  have G1 := Lib.hid (@mount_none st k b c)
  have G2 := Lib.hid (@mount_kind st k b c)
  have G3 := Lib.hid (@mount_busy st k b c)
  have G4 := Lib.hid (@mount_full st k b c)
  have G5 := Lib.hid (@mount_go st k b c)
  clear h hr hB hlen hlast
  rw [HR.out] at G1 G2 G3 G4 G5
  generalize isRoot st.d k = rr at *
  generalize over st.d k = ov at *
  generalize gets st.n k = nd at *
  generalize (get st.n k).isSome = bb at *
  obtain ⟨no, dev, kind, mode, uid, gid, mt, ct', links, up, data, es⟩ := nd
  dsimp only [T.Nd.v] at *
  go_enter Try.func12, Try.ntmps12
  go_upto_region 2 with (go_at_call 25; refine c1.mono ?_; rintro e w3 ⟨u, rfl, hO, hb3⟩; obtain ⟨ou, cu, rfl⟩ := T.own_slice hO; have D3 := T.BoxN.new ⟨no, dev, kind, mode, uid, gid, mt, ct', links, up, data, es⟩ (.slice ou es.length cu) w3)
  have hb4 : Below w.heap.size w (w3.alloc (.cells #[.int .i64 no, .int .i64 dev, .int .i64 kind, .int .i64 mode, .int .i64 uid, .int .i64 gid, .int .i64 mt, .int .i64 ct', .int .i64 links, .int .i64 up, .string data, .slice ou es.length cu] 71)) := hb3.alloc hb3.size _
  generalize w3.alloc (.cells #[.int .i64 no, .int .i64 dev, .int .i64 kind, .int .i64 mode, .int .i64 uid, .int .i64 gid, .int .i64 mt, .int .i64 ct', .int .i64 links, .int .i64 up, .string data, .slice ou es.length cu] 71) = W4 at D3 hb4 ⊢
  generalize w3.heap.size = b3 at D3 ⊢
  clear hb3 hO c1
  have H4 := H.out.below hb4
  have ht4 : Turn (wS X A M mv) w W4 := Turn.of_below hb4
  obtain ⟨_, _, a2, _⟩ := D3.facts
  cases bb with
  | false =>
    obtain rfl := G1.out rfl
    go_wp2
    go_ret2
    exact ⟨rfl, ⟨mv, H4⟩, ht4⟩
  | true =>
    by_cases hk1 : kind = 1
    · subst hk1
      by_cases hov : ov = k
      · subst hov
        have co4 := co W4 hb4
        clear co
        cases rr with
        | true =>
          obtain rfl := G3.out rfl rfl (.inr rfl)
          go_wp2_with (first
            | (go_at_call 20; refine co4.mono ?_; rintro e w5 ⟨rfl, hb5⟩; have hb6 := below_two hb4 hb5; have cr5 := cr w5 hb6)
            | (go_at_call 26; refine cr5.mono ?_; rintro e w7 ⟨rfl, hb7⟩))
          go_ret2
          have hb8 := below_two hb6 hb7
          exact ⟨rfl, ⟨mv, H.out.below hb8⟩, Turn.of_below hb8⟩
        | false =>
          go_upto_region 8 with (first
            | (go_at_call 20; refine co4.mono ?_; rintro e w5 ⟨rfl, hb5⟩; have hb6 := below_two hb4 hb5; have cr5 := cr w5 hb6)
            | (go_at_call 26; refine cr5.mono ?_; rintro e w7 ⟨rfl, hb7⟩; have hb8 := below_two hb6 hb7; have cd8 := cd w7 hb8; have cg8 := cg w7 hb8))
          by_cases h8 : 8 ≤ st.d.length
          · obtain rfl := G4.out (by trivial) (by trivial) (by trivial) (by trivial) h8
            have h8' : (8 : Int) ≤ st.d.length := by omega
            go_wp2_with (go_at_call 14; refine cd8.mono ?_; rintro e w9 ⟨rfl, rfl⟩)
            go_ret2
            exact ⟨rfl, ⟨mv, H.out.below hb8⟩, Turn.of_below hb8⟩
          · have hG := G5.out (by trivial) (by trivial) (by trivial) (by trivial) h8
            have h8' : ¬ (8 : Int) ≤ st.d.length := by omega
            have HG := Lib.hid hG
            clear hG
            go_wp2_with (first
              | (go_at_call 14; refine cd8.mono ?_; rintro e w9 ⟨rfl, rfl⟩)
              | (go_at_call 37; refine cg8.mono ?_; rintro e w9 ⟨x, y, st', rfl, hst, hW9⟩))
            go_ret2
            obtain ⟨mv', H9, t9⟩ := hW9
            have e9 := HG.out.trans hst
            subst e9
            exact ⟨rfl, ⟨mv', H9⟩, Turn.ahead hb8 t9⟩
      · obtain rfl := G3.out rfl rfl (.inl hov)
        have hov' : (ov == k) = false := by simpa using hov
        have co4 := co W4 hb4
        go_wp2_with (go_at_call 20; refine co4.mono ?_; rintro e w5 ⟨rfl, hb5⟩)
        go_ret2
        exact ⟨rfl, ⟨mv, H4.below hb5⟩, ht4.next hb5⟩
    · obtain rfl := G2.out rfl hk1
      have hk1' : (kind == 1) = false := by simpa using hk1
      go_wp2
      go_ret2
      exact ⟨rfl, ⟨mv, H4⟩, ht4⟩
end
end Go.Proofs.Ytmoimijclafgcaa.G
