/-
  A mount's space written; take.
-/
import Derived.Test.YtmoimijclafgcaaGdir
namespace Go.Proofs.Ytmoimijclafgcaa.G
open Go.RowKit Go.Shelf
attribute [local go_sem] Oper.semAt_some

theorem flat_setq : ∀ (ds : List Mt) (i : Nat) (m : Mt) (q : U.Sp), ds[i]? = some m →
    flat (ds.set i { m with q := q }) = ((((flat ds).set (i * 6 + 2) (.int .i64 q.b)).set (i * 6 + 3) (.int .i64 q.n)).set (i * 6 + 4) (.int .i64 q.mb)).set (i * 6 + 5) (.int .i64 q.mn)
  | [], i, m, q, h => by simp at h
  | y :: ls, 0, m, q, h => by
    simp at h; subst h
    simp [flat, Mt.cs]
  | y :: ls, i + 1, m, q, h => by
    have h' : ls[i]? = some m := by simpa using h
    have e := flat_setq ls i m q h'
    simp only [flat, List.set_cons_succ, List.flatMap_cons] at e ⊢
    rw [e]
    have c : ∀ (l : List Value) (j : Nat) (v : Value), (y.cs ++ l).set ((i + 1) * 6 + j) v = y.cs ++ l.set (i * 6 + j) v := fun l j v => by
      rw [List.set_append_right _ _ (by rw [cs_len]; omega), cs_len, show (i + 1) * 6 + j - 6 = i * 6 + j by omega]
    rw [c, c, c, c]
theorem flat_setr : ∀ (ds : List Mt) (i : Nat) (m : Mt) (r : Int), ds[i]? = some m → flat (ds.set i { m with root := r }) = (flat ds).set (i * 6) (.int .i64 r)
  | [], i, m, q, h => by simp at h
  | y :: ls, 0, m, q, h => by
    simp at h; subst h
    simp [flat, Mt.cs]
  | y :: ls, i + 1, m, r, h => by
    have h' : ls[i]? = some m := by simpa using h
    have e := flat_setr ls i m r h'
    simp only [flat, List.set_cons_succ, List.flatMap_cons] at e ⊢
    rw [e, List.set_append_right _ _ (by rw [cs_len]; omega), cs_len, show (i + 1) * 6 - 6 = i * 6 by omega]

/-- a space written at a place -/
def putq (w : World) (g o : Nat) (q : U.Sp) : World := (((w.setCell ⟨g, o + 2, none⟩ (.int .i64 q.b)).setCell ⟨g, o + 3, none⟩ (.int .i64 q.n)).setCell ⟨g, o + 4, none⟩ (.int .i64 q.mb)).setCell ⟨g, o + 5, none⟩ (.int .i64 q.mn)
theorem grown_trans {a b c : World} {r : Option Nat} (h : a.grownBy b r) (k : b.grownBy c r) : a.grownBy c r :=
  ⟨k.os.trans h.os, k.tape.trans h.tape, k.output.trans h.output, Nat.le_trans h.size k.size, fun i hi hr => (k.block i (Nat.lt_of_lt_of_le hi h.size) hr).trans (h.block i hi hr)⟩
theorem Turn.of_grown {S : Nat → Prop} {w w' : World} {g : Nat} (h : w.grownBy w' (some g)) (hS : S g) : Turn S w w' :=
  ⟨h.os, h.tape, h.output, h.size, fun k hk hn => h.block k hk fun e => hn (by cases e; exact hS)⟩
theorem MRow.frozen {B : Nat} {t : TypeId} {g cap : Nat} {ds : List Mt} {w : World} (h : MRow B t (.slice (some ⟨g, 0, none⟩) ds.length cap) ds w) (j : Nat) : w.frozen? ⟨g, j, none⟩ = false := World.ownsRow.frozenAt h j
theorem MRow.putq {B : Nat} {t : TypeId} {g cap i : Nat} {ds : List Mt} {w : World} {m : Mt} (h : MRow B t (.slice (some ⟨g, 0, none⟩) ds.length cap) ds w) (hi : ds[i]? = some m) (q : U.Sp) :
    MRow B t (.slice (some ⟨g, 0, none⟩) ds.length cap) (ds.set i { m with q := q }) (putq w g (i * 6) q) ∧ w.grownBy (G.putq w g (i * 6) q) (some g) := by
  unfold MRow
  rw [flat_setq ds i m q hi, List.length_set]
  obtain ⟨h1, g1⟩ := World.ownsRow.stored h (i * 6 + 2) (.int .i64 q.b)
  obtain ⟨h2, g2⟩ := World.ownsRow.stored h1 (i * 6 + 3) (.int .i64 q.n)
  obtain ⟨h3, g3⟩ := World.ownsRow.stored h2 (i * 6 + 4) (.int .i64 q.mb)
  obtain ⟨h4, g4⟩ := World.ownsRow.stored h3 (i * 6 + 5) (.int .i64 q.mn)
  exact ⟨h4, grown_trans (grown_trans (grown_trans g1 g2) g3) g4⟩
theorem MRow.putr {B : Nat} {t : TypeId} {g cap i : Nat} {ds : List Mt} {w : World} {m : Mt} (h : MRow B t (.slice (some ⟨g, 0, none⟩) ds.length cap) ds w) (hi : ds[i]? = some m) (r : Int) :
    MRow B t (.slice (some ⟨g, 0, none⟩) ds.length cap) (ds.set i { m with root := r }) (w.setCell ⟨g, i * 6, none⟩ (.int .i64 r)) ∧ w.grownBy (w.setCell ⟨g, i * 6, none⟩ (.int .i64 r)) (some g) := by
  unfold MRow
  rw [flat_setr ds i m r hi, List.length_set]
  exact World.ownsRow.stored h (i * 6) (.int .i64 r)
theorem settle_some {d : List Mt} {k : Int} {m : Mt} (h : mt d k = some m) (q : U.Sp) : settle d k q = d.set (k - 1).toNat { m with q := q } := by unfold settle; rw [h]
theorem settle_none {d : List Mt} {k : Int} (h : mt d k = none) (q : U.Sp) : settle d k q = d := by unfold settle; rw [h]
section
variable {B X A M : Nat} {mv : Value} {st : St} {w w' : World}
/-- the world's mounts turn, the rest stays -/
theorem Wd.mounts (h : Wd B X A M mv st w) {d : List Mt} (hR : MRow B 90 mv d w') (hT : Turn (fun b => mv.ownBlock = some b) w w') : Wd B X A M mv ⟨st.last, st.n, d⟩ w' := by
  obtain ⟨l, h1, h2⟩ := h.tab
  have hn : ∀ k, (k = X ∨ k = A ∨ k = M) → w'.heap[k]? = w.heap[k]? := fun k hk => by
    refine hT.block k (h.lt (hk.imp id (Or.imp id .inl))) fun e => ?_
    obtain ⟨_, cur, hc⟩ := h.rows.block e
    rcases hk with rfl | rfl | rfl
    · exact ne_type h.head hc (by decide) rfl
    · exact ne_type h2.head hc (by decide) rfl
    · obtain ⟨es, clock, hm, _⟩ := h2.map
      exact ne_map hc hm rfl
  have hE : T.EntKept w w' := fun g cur hg => (hT.block g (Array.getElem?_eq_some_iff.1 hg).1 fun e => by
    obtain ⟨_, cur', hc⟩ := h.rows.block e
    exact ne_type hg hc (by decide) rfl).trans hg
  exact ⟨h.bx, (hn X (.inl rfl)).trans h.head, hR, l, h1, h2.stays (hn A (.inr (.inl rfl))) (hn M (.inr (.inr rfl))) hE⟩
theorem take_none (h : Wd B X A M mv st w) (k x y : Int) (hk : mt st.d k = none) : Calls Try.prog 27 #[.pointer (some ⟨X, 0, none⟩), .int .i64 k, .int .i64 x, .int .i64 y] w fun e w' => e = .returned (.int .i64 1) ∧ w = w' := by
  have c1 := part_none h k hk
  clear h
  go_enter Try.func27, Try.ntmps27
  go_wp2_with (refine c1.mono ?_; rintro e w1 ⟨rfl, rfl⟩)
  go_ret
  exact ⟨rfl, rfl⟩
set_option maxHeartbeats 4000000 in
theorem take_some (h : Wd B X A M mv st w) (k x y : Int) {m : Mt} (hk : mt st.d k = some m) : Calls Try.prog 27 #[.pointer (some ⟨X, 0, none⟩), .int .i64 k, .int .i64 x, .int .i64 y] w fun e w' =>
    e = .returned (.int .i64 (U.took m.q x y).2) ∧ Wd B X A M mv ⟨st.last, st.n, settle st.d k (U.took m.q x y).1⟩ w' ∧ Turn (fun b => mv.ownBlock = some b) w w' := by
  obtain ⟨k1, k2, k3⟩ := mt_some hk
  rw [settle_some hk]
  obtain ⟨i, hi⟩ : ∃ i, (k - 1).toNat = i := ⟨_, rfl⟩
  rw [hi] at k3 ⊢
  obtain ⟨g, cap, hg, hat⟩ := h.rows.at k3
  have c1 := part_some h k3 hg
  rw [show (i : Int) + 1 = k by omega] at c1
  have c2 := fun W => U.Take_any m.q x y W
  obtain ⟨_, _, a2, a3, a4, a5⟩ := hat
  have HW := Lib.hid h
  have HI := Lib.hid k3
  have HG := Lib.hid hg
  have hfr := fun j => MRow.frozen (hg ▸ h.rows : MRow B 90 (.slice (some ⟨g, 0, none⟩) st.d.length cap) st.d w) j
  have hlt : g < w.heap.size := World.block_lt_of_cell? _ _ a2
  clear h hk k1 k2 k3 hi hg
  generalize (U.took m.q x y).1 = q' at *
  generalize (U.took m.q x y).2 = er at *
  obtain ⟨r, cv, q⟩ := m
  obtain ⟨b1, b2, b3, b4⟩ := q
  dsimp only [U.Sp.v] at *
  go_enter Try.func27, Try.ntmps27
  go_upto_region 5 with (first | (go_at_call 43; refine c1.mono ?_; rintro e w1 ⟨rfl, rfl⟩) | (go_at_call 65; refine (c2 _).mono ?_; rintro e w2 ⟨rfl, hb2⟩))
  have hb3 : Below w.heap.size w (w2.alloc (.cells #[.int .i64 q'.b, .int .i64 q'.n, .int .i64 q'.mb, .int .i64 q'.mn] 53)) := hb2.alloc hb2.size _
  have e1 := U.Box4.new w2 q' 53
  have hlt2 : g < w2.heap.size := Nat.lt_of_lt_of_le hlt hb2.size
  generalize w2.alloc (.cells #[.int .i64 q'.b, .int .i64 q'.n, .int .i64 q'.mb, .int .i64 q'.mn] 53) = W at hb3 e1 ⊢
  generalize w2.heap.size = bb at *
  obtain ⟨e0, e1, e2, e3⟩ := e1
  have f2 := (hb3.frozen (p := ⟨g, i * 6 + 2, none⟩) hlt).trans (hfr _)
  have f3 := (hb3.frozen (p := ⟨g, i * 6 + 2 + 1, none⟩) hlt).trans (hfr _)
  have f4 := (hb3.frozen (p := ⟨g, i * 6 + 2 + 2, none⟩) hlt).trans (hfr _)
  have f5 := (hb3.frozen (p := ⟨g, i * 6 + 2 + 3, none⟩) hlt).trans (hfr _)
  have d2 := (hb3.cell (p := ⟨g, i * 6 + 2, none⟩) hlt).trans a2
  have d3 := (hb3.cell (p := ⟨g, i * 6 + 2 + 1, none⟩) hlt).trans a3
  have d4 := (hb3.cell (p := ⟨g, i * 6 + 2 + 2, none⟩) hlt).trans a4
  have d5 := (hb3.cell (p := ⟨g, i * 6 + 2 + 3, none⟩) hlt).trans a5
  go_wp2
  go_ret
  have hW := HW.out.below hb3
  obtain ⟨hR, hgr⟩ := MRow.putq (HG.out ▸ hW.rows) HI.out q'
  refine ⟨rfl, ?_, ?_⟩
  · exact hW.mounts (HG.out ▸ hR) (Turn.of_grown hgr (by rw [HG.out]; rfl))
  · exact Turn.ahead hb3 (Turn.of_grown hgr (by rw [HG.out]; rfl))
end
end Go.Proofs.Ytmoimijclafgcaa.G
