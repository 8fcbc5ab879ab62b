/-
  begin: one more mount.
-/
import Derived.Test.YtmoimijclafgcaaGapp
import Derived.Deep.DeepCutAuto
namespace Go.Proofs.Ytmoimijclafgcaa.G
open Go.RowKit Go.Shelf
attribute [local go_sem] Oper.semAt_some

theorem limits_eq (b c : Int) : limits b c = (U.btw 1 b 1073741824 && U.btw 1 c 65536) := rfl
theorem fresh_lim {b c : Int} (h : limits b c = true) : U.fresh b c = (⟨0, 0, b, c⟩, 0) := by
  rw [limits_eq, Bool.and_eq_true] at h
  exact U.fresh_yes h.1 h.2
theorem fresh_not {b c : Int} (h : limits b c = false) : U.fresh b c = (⟨0, 0, 0, 0⟩, 3) := by
  rw [limits_eq, Bool.and_eq_false_iff] at h
  exact U.fresh_no h
theorem took_root {b c : Int} (h : limits b c = true) : U.took ⟨0, 0, b, c⟩ 1 1 = (⟨1, 1, b, c⟩, 0) := by
  rw [limits_eq, Bool.and_eq_true, U.btw_iff, U.btw_iff] at h
  obtain ⟨⟨h1, h2⟩, h3, h4⟩ := h
  have hf : U.fine ⟨0, 0, b, c⟩ = true := by rw [U.fine_iff]; exact ⟨Int.le_refl 0, Int.le_refl 0, by show (0 : Int) ≤ b; omega, by show (0 : Int) ≤ c; omega, h2, h4⟩
  unfold U.took
  rw [if_pos ⟨hf, by decide, by decide⟩]
  dsimp only
  rw [if_neg (by omega), if_neg (by omega), if_neg (by omega)]
  rfl
/-- the root as it is made -/
def made (dev : Int) : T.Nd := ⟨0, dev, 1, 493, 0, 0, 0, 0, 1, 0, ⟨#[]⟩, []⟩
theorem mt_snoc (d : List Mt) (m : Mt) : mt (d ++ [m]) ((d.length : Int) + 1) = some m := mt_at (by simp)
theorem set_last (d : List Mt) (m m' : Mt) : (d ++ [m]).set d.length m' = d ++ [m'] := by
  rw [List.set_append_right _ _ (Nat.le_refl _)]; simp
theorem make_root (st : St) (k b c : Int) (h : limits b c = true) :
    make ⟨st.last, st.n, st.d ++ [⟨0, k, ⟨0, 0, b, c⟩⟩]⟩ (made (st.d.length + 1)) = (⟨st.last + 1, st.n ++ [(made (st.d.length + 1)).as (st.last + 1)], st.d ++ [⟨0, k, ⟨1, 1, b, c⟩⟩]⟩, st.last + 1, 0) := by
  have hm := mt_snoc st.d ⟨0, k, ⟨0, 0, b, c⟩⟩
  have hb : blk (made (st.d.length + 1)) = 1 := rfl
  have h1 : terr (st.d ++ [⟨0, k, ⟨0, 0, b, c⟩⟩]) ((made (st.d.length + 1)).dev) (blk (made (st.d.length + 1))) 1 = 0 := by
    show terr _ ((st.d.length : Int) + 1) _ 1 = 0
    rw [terr_some hm, hb, took_root h]
  have h2 : taken (st.d ++ [⟨0, k, ⟨0, 0, b, c⟩⟩]) ((made (st.d.length + 1)).dev) (blk (made (st.d.length + 1))) 1 = st.d ++ [⟨0, k, ⟨1, 1, b, c⟩⟩] := by
    show taken _ ((st.d.length : Int) + 1) _ 1 = _
    rw [taken_some hm, hb, took_root h, settle_some hm, show ((st.d.length : Int) + 1 - 1).toNat = st.d.length by omega]
    exact set_last _ _ _
  unfold make
  rw [if_pos h1, h2]
theorem get_snoc {n : List T.Nd} {x : T.Nd} (h : ∀ p ∈ n, p.no ≠ x.no) : get (n ++ [x]) x.no = some x := by
  unfold get
  rw [List.find?_append, List.find?_eq_none.2 (fun p hp => by simpa using h p hp)]
  simp
theorem setN_snoc {n : List T.Nd} {x y : T.Nd} (h : ∀ p ∈ n, p.no ≠ y.no) (e : x.no = y.no) : setN (n ++ [x]) y = n ++ [y] := by
  unfold setN
  rw [List.map_append]
  congr 1
  · conv => rhs; rw [← List.map_id n]
    refine List.map_congr_left fun p hp => ?_
    rw [if_neg (h p hp)]; rfl
  · simp [e]
theorem box_set9 {b : Nat} {n : T.Nd} {s : Value} {w : World} (h : T.BoxN b n s w) (x : Int) : T.BoxN b { n with up := x } s (w.setCell ⟨b, 9, none⟩ (.int .i64 x)) := by
  unfold T.BoxN at *
  simp [World.setCell, Array.getElem?_modify, h]
theorem and13 {a0 a1 a2 a3 a4 a5 a6 a7 a8 a9 a10 a11 y z : Prop} (h : a0 ∧ a1 ∧ a2 ∧ a3 ∧ a4 ∧ a5 ∧ a6 ∧ a7 ∧ a8 ∧ a9 ∧ a10 ∧ a11) (hy : y) (hz : z) : a0 ∧ a1 ∧ a2 ∧ a3 ∧ a4 ∧ a5 ∧ a6 ∧ a7 ∧ a8 ∧ a9 ∧ a10 ∧ a11 ∧ y ∧ z := and12 h ⟨hy, hz⟩
/-- two cells that are read: a world's table, a mount's root -/
def Pair (X A g o : Nat) (r : Int) (w : World) : Prop := w.cell? ⟨X, 0, none⟩ = some (.pointer (some ⟨A, 0, none⟩)) ∧ w.cell? ⟨g, o, none⟩ = some (.int .i64 r)
section
variable {X A g o : Nat} {r : Int} {w w' : World}
theorem Pair.all (c : Pair X A g o r w) : w.cell? ⟨X, 0, none⟩ = some (.pointer (some ⟨A, 0, none⟩)) ∧ w.cell? ⟨g, o, none⟩ = some (.int .i64 r) := c
theorem Pair.later {n : Nat} (c : Pair X A g o r w) (hb : Below n w w') (l0 : X < n) (l1 : g < n) : Pair X A g o r w' := ⟨(hb.cell (p := ⟨X, 0, none⟩) l0).trans c.1, (hb.cell (p := ⟨g, o, none⟩) l1).trans c.2⟩
theorem Pair.next (c : Pair X A g o r w) (hb : Below w.heap.size w w') : Pair X A g o r w' := c.later hb (World.block_lt_of_cell? _ _ c.1) (World.block_lt_of_cell? _ _ c.2)
theorem Pair.alloc (c : Pair X A g o r w) (ob : Obj) : Pair X A g o r (w.alloc ob) := c.next ((Below.refl _ w).alloc (Nat.le_refl _) ob)
theorem Pair.drew (c : Pair X A g o r w) : Pair X A g o r w.drew := c.next ((Below.refl _ w).drew)
end
theorem below_raw {m b : Nat} (hb : m ≤ b) (w : World) (v0 v1 v2 v3 v4 v5 v6 v7 v8 v9 v10 v11 : Value) : Below m w ((((((((((((w.setCell ⟨b, 0, none⟩ v0).setCell ⟨b, 1, none⟩ v1).setCell ⟨b, 2, none⟩ v2).setCell ⟨b, 3, none⟩ v3).setCell ⟨b, 4, none⟩ v4).setCell ⟨b, 5, none⟩ v5).setCell ⟨b, 6, none⟩ v6).setCell ⟨b, 7, none⟩ v7).setCell ⟨b, 8, none⟩ v8).setCell ⟨b, 9, none⟩ v9).setCell ⟨b, 10, none⟩ v10).setCell ⟨b, 11, none⟩ v11) := by
  refine Below.setCell ?_ hb _
  refine Below.setCell ?_ hb _
  refine Below.setCell ?_ hb _
  refine Below.setCell ?_ hb _
  refine Below.setCell ?_ hb _
  refine Below.setCell ?_ hb _
  refine Below.setCell ?_ hb _
  refine Below.setCell ?_ hb _
  refine Below.setCell ?_ hb _
  refine Below.setCell ?_ hb _
  refine Below.setCell ?_ hb _
  exact Below.setCell (Below.refl _ _) hb _
/-- an empty box of a node, ahead of a call -/
theorem node_box {w w2 : World} (hb : Below ((w.alloc (.cells #[.int .i64 0, .int .i64 0, .int .i64 0, .int .i64 0, .int .i64 0, .int .i64 0, .int .i64 0, .int .i64 0, .int .i64 0, .int .i64 0, .string ⟨#[]⟩, .slice none 0 0] 71)).drew).heap.size ((w.alloc (.cells #[.int .i64 0, .int .i64 0, .int .i64 0, .int .i64 0, .int .i64 0, .int .i64 0, .int .i64 0, .int .i64 0, .int .i64 0, .int .i64 0, .string ⟨#[]⟩, .slice none 0 0] 71)).drew) w2) :
    T.BoxN w.heap.size T.Nd.zero (.slice none 0 0) w2 :=
  ((T.BoxN.new T.Nd.zero (.slice none 0 0) w).below ((Below.refl _ _).drew)).below hb
theorem row_form {w : World} {B : Nat} {e : TypeId} {size : Nat} {v : Value} {n : Nat} {xs : List Value} (h : w.ownsRow B e size v n xs) : ∃ ov cv, v = .slice ov n cv := by
  rcases h.2 with ⟨rfl, rfl⟩ | ⟨g, cap, cur, rfl, _⟩ <;> exact ⟨_, _, rfl⟩
section
variable {B X A M : Nat} {mv mv' : Value} {st : St} {w w' : World}
theorem Wd.given (h : Wd B X A M mv st w) : 0 ≤ st.last ∧ ∀ p ∈ st.n, 1 ≤ p.no ∧ p.no ≤ st.last := by
  obtain ⟨l, h1, h2⟩ := h.tab
  refine ⟨h2.lo, fun p hp => ?_⟩
  rw [← h1] at hp
  obtain ⟨q, hq, rfl⟩ := List.mem_map.1 hp
  exact h2.given q hq
/-- a mount's root is written -/
theorem Wd.rooted (h : Wd B X A M mv st w) {g cap i : Nat} {m : Mt} (hg : mv = .slice (some ⟨g, 0, none⟩) st.d.length cap) (hi : st.d[i]? = some m) (r : Int) :
    Wd B X A M mv ⟨st.last, st.n, st.d.set i { m with root := r }⟩ (w.setCell ⟨g, i * 6, none⟩ (.int .i64 r)) ∧ Turn (fun b => mv.ownBlock = some b) w (w.setCell ⟨g, i * 6, none⟩ (.int .i64 r)) := by
  obtain ⟨hR, hgr⟩ := MRow.putr (hg ▸ h.rows : MRow B 90 (.slice (some ⟨g, 0, none⟩) st.d.length cap) st.d w) hi r
  have ht : Turn (fun b => mv.ownBlock = some b) w (w.setCell ⟨g, i * 6, none⟩ (.int .i64 r)) := Turn.of_grown hgr (by rw [hg]; rfl)
  exact ⟨h.mounts (by subst hg; exact hR) ht, ht⟩
theorem Wd.lastly {last : Int} {n : List T.Nd} {d : List Mt} {m : Mt} (h : Wd B X A M mv ⟨last, n, d ++ [m]⟩ w) : ∃ g cap, mv = .slice (some ⟨g, 0, none⟩) (d.length + 1) cap ∧ w.cell? ⟨g, d.length * 6, none⟩ = some (.int .i64 m.root) ∧ w.frozen? ⟨g, d.length * 6, none⟩ = false := by
  obtain ⟨g, cap, he, hat⟩ := h.rows.at (k := d.length) (m := m) (by simp)
  refine ⟨g, cap, by rw [he, List.length_append]; rfl, hat.1, ?_⟩
  exact MRow.frozen (he ▸ h.rows) _
theorem Wd.lastRoot {last : Int} {n : List T.Nd} {d : List Mt} {m : Mt} (h : Wd B X A M mv ⟨last, n, d ++ [m]⟩ w) {g cap : Nat} (he : mv = .slice (some ⟨g, 0, none⟩) (d.length + 1) cap) (r : Int) :
    Wd B X A M mv ⟨last, n, d ++ [{ m with root := r }]⟩ (w.setCell ⟨g, d.length * 6, none⟩ (.int .i64 r)) ∧ Turn (fun b => mv.ownBlock = some b) w (w.setCell ⟨g, d.length * 6, none⟩ (.int .i64 r)) := by
  have := h.rooted (g := g) (cap := cap) (i := d.length) (m := m) (by rw [he, List.length_append]; rfl) (by simp) r
  dsimp only at this
  rw [set_last] at this
  exact this
theorem Wd.devsLast {last : Int} {n : List T.Nd} {d : List Mt} {m : Mt} (h : Wd B X A M mv ⟨last, n, d ++ [m]⟩ w) : Calls Try.prog 14 #[.pointer (some ⟨X, 0, none⟩)] w fun e w' => e = .returned (.int .i64 ((d.length : Int) + 1)) ∧ w = w' := by
  have := Devs_any h
  rw [List.length_append] at this
  exact this
theorem Wd.partLast {last : Int} {n : List T.Nd} {d : List Mt} {m : Mt} (h : Wd B X A M mv ⟨last, n, d ++ [m]⟩ w) {g cap : Nat} (he : mv = .slice (some ⟨g, 0, none⟩) (d.length + 1) cap) : Calls Try.prog 43 #[.pointer (some ⟨X, 0, none⟩), .int .i64 ((d.length : Int) + 1)] w fun e w' => e = .returned (.pointer (some ⟨g, d.length * 6, none⟩)) ∧ w = w' :=
  part_some h (i := d.length) (m := m) (by simp) (by rw [he, List.length_append]; rfl)
theorem Wd.makeRoot {k b c : Int} (h : Wd B X A M mv ⟨st.last, st.n, st.d ++ [⟨0, k, ⟨0, 0, b, c⟩⟩]⟩ w) (hlim : limits b c = true) (hlen : st.n.length < 900000) (hlast : st.last < 900000) :
    Calls Try.prog 60 #[.pointer (some ⟨X, 0, none⟩), (made (st.d.length + 1)).v (.slice none 0 0)] w fun e w' => e = .returned (.tuple #[.int .i64 (st.last + 1), .int .i64 0]) ∧
      Wd B X A M mv ⟨st.last + 1, st.n ++ [(made (st.d.length + 1)).as (st.last + 1)], st.d ++ [⟨0, k, ⟨1, 1, b, c⟩⟩]⟩ w' ∧ Turn (wS X A M mv) w w' := by
  have := Make_any h (made (st.d.length + 1)) (.slice none 0 0) (fun W => E.sees_none none 0 (Nat.zero_le _) W) (by unfold T.Fits; show 0 * 24 ≤ _; decide) (by show (0 : Nat) ≤ _; decide) (by show st.n.length < _; omega) (by show st.last < _; omega)
  rw [make_root st k b c hlim] at this
  exact this
theorem Wd.getRoot {last dv : Int} {n : List T.Nd} {d : List Mt} (h : Wd B X A M mv ⟨last + 1, n ++ [(made dv).as (last + 1)], d⟩ w) (hn : ∀ p ∈ n, p.no ≤ last) (h0 : 0 ≤ last) (h1 : last < 900000) :
    Calls Try.prog 51 #[.pointer (some ⟨A, 0, none⟩), .int .i64 (last + 1)] w fun e w' => ∃ oa c, e = .returned (.tuple #[((made dv).as (last + 1)).v (.slice oa 0 c), .bool true]) ∧ E.Own w.heap.size (.slice oa 0 c) [] w' ∧ Below w.heap.size w w' := by
  have hg : get (n ++ [(made dv).as (last + 1)]) (last + 1) = some ((made dv).as (last + 1)) := get_snoc (x := (made dv).as (last + 1)) fun p hp e => by have := hn p hp; have e' : p.no = last + 1 := e; omega
  have := Get_st h (last + 1) (T.wf_of (by omega) (by omega))
  dsimp only at this
  rw [hg, gets_some hg] at this
  refine this.mono ?_
  rintro e w' ⟨u, rfl, hO, hb⟩
  obtain ⟨oa, c, rfl⟩ := T.own_slice hO
  exact ⟨oa, c, rfl, hO, hb⟩
theorem Wd.setRoot {last dv : Int} {n : List T.Nd} {d : List Mt} {s : Value} (h : Wd B X A M mv ⟨last + 1, n ++ [(made dv).as (last + 1)], d⟩ w) (hS : E.Sees s [] w) (hn : ∀ p ∈ n, p.no ≤ last) (h0 : 0 ≤ last) (hlen : n.length < 900000) (h1 : last < 900000) :
    Calls Try.prog 35 #[.pointer (some ⟨A, 0, none⟩), .agg #[.int .i64 (last + 1), .int .i64 dv, .int .i64 1, .int .i64 493, .int .i64 0, .int .i64 0, .int .i64 0, .int .i64 0, .int .i64 1, .int .i64 (last + 1), .string ⟨#[]⟩, s]] w fun e w' =>
    e = .returned (.bool true) ∧ Wd B X A M mv ⟨last + 1, n ++ [rootNode (last + 1) dv], d⟩ w' ∧ Turn (fun k => k = A ∨ k = M) w w' := by
  have hne : ∀ p ∈ n, p.no ≠ last + 1 := fun p hp e => by have := hn p hp; omega
  have hg : get (n ++ [(made dv).as (last + 1)]) (last + 1) = some ((made dv).as (last + 1)) := get_snoc (x := (made dv).as (last + 1)) hne
  have := Set_st h (rootNode (last + 1) dv) s hS (by unfold T.Fits; show 0 * 24 ≤ _; decide) (T.wf_of (by show -9223372036854775808 ≤ last + 1; omega) (by show last + 1 ≤ _; omega)) (by show (n ++ [_]).length < _; rw [List.length_append]; show n.length + 1 < _; omega)
  have e : setN (n ++ [(made dv).as (last + 1)]) (rootNode (last + 1) dv) = n ++ [rootNode (last + 1) dv] := setN_snoc (y := rootNode (last + 1) dv) hne rfl
  dsimp only at this
  rw [e, show get (n ++ [(made dv).as (last + 1)]) (rootNode (last + 1) dv).no = some ((made dv).as (last + 1)) from hg] at this
  exact this
theorem Wd.grown (h : Wd B X A M mv st w) (hg : w.grownBy w' mv.ownBlock) : w'.cell? ⟨X, 1, none⟩ = some mv ∧ w'.frozen? ⟨X, 1, none⟩ = false := by
  have hX : w'.heap[X]? = some (.cells #[.pointer (some ⟨A, 0, none⟩), mv] 51 (0, 0)) := (hg.block X h.ltX fun e => by
    obtain ⟨_, cur, hc⟩ := h.rows.block e.symm
    exact ne_type h.head hc (by decide) rfl).trans h.head
  exact ⟨by rw [Lib.cell_of_heap hX]; rfl, Lib.frozen_of_heap hX 1⟩
set_option maxHeartbeats 4000000 in
theorem begin_no (k b c : Int) (X : Nat) (h : limits b c = false) (w : World) : Calls Try.prog 37 #[.pointer (some ⟨X, 0, none⟩), .int .i64 k, .int .i64 b, .int .i64 c] w fun e w' =>
    e = .returned (.tuple #[.int .i64 0, .int .i64 3]) ∧ Below w.heap.size w w' := by
  have c1 := U.New_any b c w
  rw [fresh_not h] at c1
  clear h
  dsimp only [U.Sp.v] at *
  go_enter Try.func37, Try.ntmps37
  go_wp2_with (go_at_call 70; refine c1.mono ?_; rintro e w1 ⟨rfl, hb⟩)
  go_ret2
  exact ⟨rfl, hb.alloc hb.size _⟩
set_option maxRecDepth 100000 in
set_option maxHeartbeats 8000000 in
theorem begin_yes (H0 : Wd B X A M mv st w) (k b c : Int) (hlim : limits b c = true) (hB : B ≤ w.heap.size) (hdl : st.d.length < 1000) (hlen : st.n.length < 900000) (hlast : st.last < 900000) :
    Calls Try.prog 37 #[.pointer (some ⟨X, 0, none⟩), .int .i64 k, .int .i64 b, .int .i64 c] w fun e w' =>
    e = .returned (.tuple #[.int .i64 (st.last + 1), .int .i64 0]) ∧ ∃ mv', Wd B X A M mv' (begin_ st k b c) w' ∧ Turn (wS X A M mv) w w' := by
  obtain ⟨i0, hi, hz0, hz1, hz2⟩ := E.info_parts infoM
  have mixed : Try.prog.follows Departure.mixedOrders = true := by kernel_rfl
  have c1 := U.New_any b c w
  rw [fresh_lim hlim] at c1
  have HL := Lib.hid hlim
  have HW := Lib.hid H0
  have hslc := H0.rows.slice
  obtain ⟨oa, cap, hmv⟩ := hslc
  clear H0 hlim
  dsimp only [U.Sp.v] at *
  go_enter Try.func37, Try.ntmps37
  go_upto_region 4 with (go_at_call 70; refine c1.mono ?_; rintro e w1 ⟨rfl, hb1⟩; have E1 := U.Box4.new w1 ⟨0, 0, b, c⟩ 53)
  have hb2 : Below w.heap.size w (w1.alloc (.cells #[.int .i64 0, .int .i64 0, .int .i64 b, .int .i64 c] 53)) := hb1.alloc hb1.size _
  generalize w1.alloc (.cells #[.int .i64 0, .int .i64 0, .int .i64 b, .int .i64 c] 53) = W2 at hb2 E1 ⊢
  generalize w1.heap.size = b1 at E1 ⊢
  clear hb1 c1
  have hW2 := HW.out.below hb2
  obtain ⟨x0, x1, x2, x3⟩ := hW2.facts
  have hXl := hW2.ltX
  have hbl := E1.lt
  obtain ⟨e0, e1, e2, e3⟩ := E1
  have hR := (hW2.drew).rows
  unfold MRow at hR
  have hB2 : B ≤ W2.heap.size := Nat.le_trans hB hb2.size
  have HR := Lib.hid hR
  have HW2 := Lib.hid hW2
  have HB2 := Lib.hid hb2
  subst hmv
  have hcs := cs_one ⟨0, k, ⟨0, 0, b, c⟩⟩
  clear hW2 hb2 hR
  go_cut [32, 33] (fun s32 s33 wx => ∃ g cv, s32 = .slice (some ⟨W2.heap.size, 0, none⟩) 1 1 ∧ s33 = .slice (some ⟨g, 0, none⟩) (st.d.length + 1) cv ∧ Wd B X A M (.slice (some ⟨g, 0, none⟩) (st.d.length + 1) cv) ⟨st.last, st.n, st.d ++ [⟨0, k, ⟨0, 0, b, c⟩⟩]⟩ wx ∧ Turn (wS X A M (.slice oa st.d.length cap)) w wx ∧
    ∀ i, wS X A M (.slice (some ⟨g, 0, none⟩) (st.d.length + 1) cv) i → wS X A M (.slice oa st.d.length cap) i ∨ w.heap.size ≤ i)
  case first =>
    go_region_law (refine step_append_fresh rfl (.tmp 28) (.tmp 32) 49 rfl B 90 i0 (.agg #[.int .i64 0, .int .i64 0, .int .i64 0, .int .i64 0, .int .i64 0, .int .i64 0]) 6 48 Try.underlying49 hi hz0 hz1 hz2 rfl (by decide) (.slice oa st.d.length cap) st.d.length (flat st.d) (by simp [Act.eval]) (HR.out.alloc _) ⟨W2.heap.size, 0, none⟩ 1 1 (Mt.cs ⟨0, k, ⟨0, 0, b, c⟩⟩) (by simp [Act.eval]) rfl (one_mount _ _ _) hcs (by unfold maxLen; omega) (by omega) (by simp; omega) ?_; intro v' w3 hown3 hgr3 hnew3; have hg4 := Wd.grown (HW2.out.drew.alloc _) hgr3; obtain ⟨hg5, hg6⟩ := hg4; obtain ⟨ov, cv, hv⟩ := row_form hown3; subst hv)
    all_goals
      have hnew : ∀ i, wS X A M (.slice ov (st.d.length + 1) cv) i → wS X A M (.slice oa st.d.length cap) i ∨ w.heap.size ≤ i := fun i hS => by
        rcases hS with h | h | h | h
        · exact .inl (.inl h)
        · exact .inl (.inr (.inl h))
        · exact .inl (.inr (.inr (.inl h)))
        · rcases hnew3 i h with h | h
          · exact .inl (wS_row h)
          · refine .inr (Nat.le_trans HB2.out.size ?_)
            simp at h
            omega
      obtain ⟨H3, t3⟩ := Wd.snoc (HW2.out.drew.alloc _) hown3 hgr3
      have ht3 := Turn.ahead (HB2.out.drew.alloc (by have := HB2.out.size; simpa using this) _) t3
      obtain ⟨g, cap', he, _⟩ := H3.lastly
      cases he
      go_wp2_with fail
      go_meet
      case rel => exact ⟨g, _, rfl, rfl, H3, ht3, hnew⟩
  case rest =>
    obtain ⟨g, cv, rfl, rfl, H3, ht3, hnew⟩ := hcut
    have HN := Lib.hid hnew
    have cD := H3.devsLast
    have cP := H3.partLast rfl
    have cM := H3.makeRoot HL.out hlen hlast
    dsimp only [made, T.Nd.v] at cM
    clear hnew x0 x1 x2 x3 e0 e1 e2 e3 hcs hi hz0 hz1 hz2 hB2 HB2 hXl hbl HW2 HR
    go_upto_region 7 with (first
      | (go_at_call 14; refine cD.mono ?_; rintro e w4 ⟨rfl, rfl⟩)
      | (go_at_call 43; refine cP.mono ?_; rintro e w4 ⟨rfl, rfl⟩)
      | (go_at_call 60; refine cM.mono ?_; rintro e w5 ⟨rfl, H5, t5⟩; obtain ⟨g5, cap5, he5, q5, f5⟩ := H5.lastly; cases he5))
    obtain ⟨H6, t6⟩ := H5.lastRoot rfl (st.last + 1)
    dsimp only at H6 t6
    have ht6 := (ht3.late t5 HN.out).late t6 fun i hi => HN.out i (wS_row hi)
    have hgv := H3.given
    dsimp only at hgv
    have hcell := H6.lastly
    obtain ⟨g6, cap6, he6, hc6, _⟩ := hcell
    cases he6
    dsimp only at hc6
    have hW6 : ∃ W6, w5.setCell ⟨g, st.d.length * 6, none⟩ (.int .i64 (st.last + 1)) = W6 := ⟨_, rfl⟩
    obtain ⟨W6, hW6⟩ := hW6
    rw [hW6] at H6 ht6 hc6 ⊢
    have P6 : Pair X A g (st.d.length * 6) (st.last + 1) W6 := ⟨H6.head1, hc6⟩
    have cg := fun W (hW : Wd B X A M (.slice (some ⟨g, 0, none⟩) (st.d.length + 1) cv) ⟨st.last + 1, st.n ++ [(made (st.d.length + 1)).as (st.last + 1)], st.d ++ [⟨st.last + 1, k, ⟨1, 1, b, c⟩⟩]⟩ W) => hW.getRoot (fun p hp => (hgv.2 p hp).2) hgv.1 hlast
    have kp := P6.drew
    have H6d := H6.drew
    have H6a := (H6.alloc (.cells #[.int .i64 0, .int .i64 0, .int .i64 0, .int .i64 0, .int .i64 0, .int .i64 0, .int .i64 0, .int .i64 0, .int .i64 0, .int .i64 0, .string ⟨#[]⟩, .slice none 0 0] 71)).drew
    have hXl := H6.ltX
    have hgl : g < W6.heap.size := World.block_lt_of_cell? _ _ hc6
    clear hW6 H5 t5 t6 ht3 H3 cD cP cM f5 q5
    dsimp only [made, T.Nd.as, T.Nd.v] at cg
    go_cut [13, 14] (fun s13 s14 wx => ∃ Y oa c, s13 = .pointer (some ⟨Y, 0, none⟩) ∧ s14 = .bool true ∧ W6.heap.size ≤ Y ∧ T.BoxN Y ((made (st.d.length + 1)).as (st.last + 1)) (.slice oa 0 c) wx ∧ E.Own W6.heap.size (.slice oa 0 c) [] wx ∧ Below W6.heap.size W6 wx)
    case first =>
      go_region_held3 (fun w' => w'.cell? ⟨X, 0, none⟩ = some (.pointer (some ⟨A, 0, none⟩)) ∧ w'.cell? ⟨g, st.d.length * 6, none⟩ = some (.int .i64 (st.last + 1)))
        (with_reducible first | exact Pair.all kq | exact Pair.all (Pair.alloc kq _) | exact Pair.all kp | exact Pair.all (Pair.drew (Pair.alloc P6 _)) | exact Pair.all (Pair.later kq (below_raw (Nat.le_refl _) _ _ _ _ _ _ _ _ _ _ _ _ _) hXl hgl))
        (first
          | (go_at_call 51; refine (cg _ H6d).mono ?_; rintro e w7 ⟨oa7, c7, rfl, hO7, hb7⟩; have kq : Pair X A g (st.d.length * 6) (st.last + 1) w7 := (by with_reducible exact Pair.next kp hb7))
          | (go_at_call 51; refine (cg _ H6a).mono ?_; rintro e w7 ⟨oa7, c7, rfl, hO7, hb7⟩; have kq : Pair X A g (st.d.length * 6) (st.last + 1) w7 := (by with_reducible exact Pair.next (Pair.drew (Pair.alloc P6 _)) hb7); have nb := node_box hb7; obtain ⟨a0, a1, a2, a3, a4, a5, a6, a7, a8, a9, a10, a11⟩ := nb.facts; obtain ⟨f0, f1, f2, f3, f4, f5, f6, f7, f8, f9, f10, f11⟩ := nb.open))
      · go_wp2_with fail
        go_meet
        case rel =>
          have hB7 : Below W6.heap.size W6 w7 := below_two ((Below.refl W6.heap.size W6).drew) hb7
          have hal : Below w7.heap.size w7 (w7.alloc (.cells #[.int .i64 (st.last + 1), .int .i64 ((st.d.length : Int) + 1), .int .i64 1, .int .i64 493, .int .i64 0, .int .i64 0, .int .i64 0, .int .i64 0, .int .i64 1, .int .i64 0, .string ⟨#[]⟩, .slice oa7 0 c7] 71)) := (Below.refl _ _).alloc (Nat.le_refl _) _
          exact ⟨w7.heap.size, oa7, c7, rfl, rfl, hB7.size, T.BoxN.new ((made (st.d.length + 1)).as (st.last + 1)) (.slice oa7 0 c7) w7, (T.own_kept hO7 (T.EntKept.below hal) : E.Own W6.heap.size _ [] _), below_two hB7 hal⟩
      · go_wp2_with fail
        go_meet
        case rel =>
          have hB7 : Below W6.heap.size W6 w7 := ((Below.refl W6.heap.size W6).alloc (Nat.le_refl _) _).drew.trans (hb7.mono (by simp))
          have D := nb.fill ((made (st.d.length + 1)).as (st.last + 1)) (.slice oa7 0 c7)
          have hk := T.EntKept.fill nb ((made (st.d.length + 1)).as (st.last + 1)) (.slice oa7 0 c7)
          have hO : E.Own W6.heap.size (.slice oa7 0 c7) [] w7 := hO7.mono (by simp)
          exact ⟨W6.heap.size, oa7, c7, rfl, rfl, Nat.le_refl _, D, T.own_kept hO hk, hB7.trans (T.below_fill (Nat.le_refl _) w7 ((made (st.d.length + 1)).as (st.last + 1)) (.slice oa7 0 c7))⟩
    case rest =>
      obtain ⟨Y, oa8, c8, rfl, rfl, hY, D8, O8, b8⟩ := hcut
      obtain ⟨p0, p1⟩ := P6.next b8
      obtain ⟨f0, f1, f2, f3, f4, f5, f6, f7, f8, f9, f10, f11⟩ := D8.open
      obtain ⟨a0, a1, a2, a3, a4, a5, a6, a7, a8, a9, a10, a11⟩ := D8.facts
      dsimp only [made, T.Nd.as] at a9
      go_upto_region 9 with fail
      have b9 : Below W6.heap.size W6 (wc.setCell ⟨Y, 9, none⟩ (.int .i64 (st.last + 1))) := b8.setCell (p := ⟨Y, 9, none⟩) hY _
      have D9 := box_set9 D8 (st.last + 1)
      have O9 := T.own_kept O8 (box_entKept D8 9 (.int .i64 (st.last + 1)))
      clear p0 p1 f0 f1 f2 f3 f4 f5 f6 f7 f8 f9 f10 f11 a0 a1 a2 a3 a4 a5 a6 a7 a8 a9 a10 a11 D8 O8 b8
      generalize wc.setCell ⟨Y, 9, none⟩ (.int .i64 (st.last + 1)) = W9 at b9 D9 O9 ⊢
      have hdr : Below W9.heap.size W9 W9.drew := (Below.refl _ _).drew
      have b10 := below_two b9 hdr
      have H10 := H6.below b10
      have D10 := D9.below hdr
      obtain ⟨px, _⟩ := P6.next b10
      have ht10 := ht6.next b10
      have cs := H10.setRoot (O9.below hdr).sees (fun p hp => (hgv.2 p hp).2) hgv.1 hlen hlast
      have hXl := H10.ltX
      clear O9 b9 b10 D9 hdr H6 P6 ht6 cg kp H6d H6a hgl
      dsimp only [made, T.Nd.as] at D10
      go_region_held3 (fun w' => w'.cell? ⟨Y, 0, none⟩ = some (.int .i64 (st.last + 1)) ∧ w'.cell? ⟨Y, 1, none⟩ = some (.int .i64 ((st.d.length : Int) + 1)) ∧ w'.cell? ⟨Y, 2, none⟩ = some (.int .i64 1) ∧ w'.cell? ⟨Y, 3, none⟩ = some (.int .i64 493) ∧
          w'.cell? ⟨Y, 4, none⟩ = some (.int .i64 0) ∧ w'.cell? ⟨Y, 5, none⟩ = some (.int .i64 0) ∧ w'.cell? ⟨Y, 6, none⟩ = some (.int .i64 0) ∧ w'.cell? ⟨Y, 7, none⟩ = some (.int .i64 0) ∧
          w'.cell? ⟨Y, 8, none⟩ = some (.int .i64 1) ∧ w'.cell? ⟨Y, 9, none⟩ = some (.int .i64 (st.last + 1)) ∧ w'.cell? ⟨Y, 10, none⟩ = some (.string ⟨#[]⟩) ∧ w'.cell? ⟨Y, 11, none⟩ = some (.slice oa8 0 c8) ∧ w'.cell? ⟨X, 0, none⟩ = some (.pointer (some ⟨A, 0, none⟩)))
        (with_reducible first | exact and12 D11.facts H11.head1 | exact and12 D10.facts px)
        (first | (go_at_call 35; refine cs.mono ?_; rintro e w11 ⟨rfl, H11, t11⟩; have D11 := box_turn D10 H10 t11.tab (fun _ e => e)))
      obtain ⟨g6, cap6, he6, hc6, _⟩ := H11.lastly
      cases he6
      dsimp only at hc6
      go_wp2
      go_ret2
      exact ⟨rfl, _, H11, ht10.late t11.tab HN.out⟩
end
end Go.Proofs.Ytmoimijclafgcaa.G
