/-
  The reference's Make.
-/
import Derived.Test.YtmoimijclafgcaaFover
import Derived.Deep.DeepCutAuto
namespace Go.Proofs.Ytmoimijclafgcaa.G
open Go.RowKit Go.Shelf
attribute [local go_sem] Oper.semAt_some

/-- the eight cells that a taking reads -/
def Nine (b F g o : Nat) (n : T.Nd) (dv : Value) (q : U.Sp) (w : World) : Prop :=
  w.cell? ⟨b, 1, none⟩ = some (.int .i64 n.dev) ∧ w.cell? ⟨b, 2, none⟩ = some (.int .i64 n.kind) ∧ w.cell? ⟨b, 10, none⟩ = some (.string n.data) ∧ w.cell? ⟨F, 1, none⟩ = some dv ∧
  w.cell? ⟨g, o + 2, none⟩ = some (.int .i64 q.b) ∧ w.cell? ⟨g, o + 2 + 1, none⟩ = some (.int .i64 q.n) ∧ w.cell? ⟨g, o + 2 + 2, none⟩ = some (.int .i64 q.mb) ∧ w.cell? ⟨g, o + 2 + 3, none⟩ = some (.int .i64 q.mn)
section
variable {b F g o m : Nat} {n : T.Nd} {dv : Value} {q : U.Sp} {w w' : World}
theorem Nine.all (c : Nine b F g o n dv q w) : w.cell? ⟨b, 1, none⟩ = some (.int .i64 n.dev) ∧ w.cell? ⟨b, 2, none⟩ = some (.int .i64 n.kind) ∧ w.cell? ⟨b, 10, none⟩ = some (.string n.data) ∧ w.cell? ⟨F, 1, none⟩ = some dv ∧
  w.cell? ⟨g, o + 2, none⟩ = some (.int .i64 q.b) ∧ w.cell? ⟨g, o + 2 + 1, none⟩ = some (.int .i64 q.n) ∧ w.cell? ⟨g, o + 2 + 2, none⟩ = some (.int .i64 q.mb) ∧ w.cell? ⟨g, o + 2 + 3, none⟩ = some (.int .i64 q.mn) := c
theorem Nine.later (c : Nine b F g o n dv q w) (hb : Below m w w') (l0 : b < m) (l1 : F < m) (l2 : g < m) : Nine b F g o n dv q w' := by
  obtain ⟨c0, c1, c2, c3, c4, c5, c6, c7⟩ := c
  refine ⟨?_, ?_, ?_, ?_, ?_, ?_, ?_, ?_⟩ <;> rw [hb.cell (by assumption)] <;> assumption
theorem Nine.next (c : Nine b F g o n dv q w) (hb : Below w.heap.size w w') : Nine b F g o n dv q w' :=
  c.later hb (World.block_lt_of_cell? _ _ c.1) (World.block_lt_of_cell? _ _ c.2.2.2.1) (World.block_lt_of_cell? _ _ c.2.2.2.2.1)
theorem Nine.alloc (c : Nine b F g o n dv q w) (x : Obj) : Nine b F g o n dv q (w.alloc x) := c.next ((Below.refl _ w).alloc (Nat.le_refl _) x)
theorem Nine.drew (c : Nine b F g o n dv q w) : Nine b F g o n dv q w.drew := c.next ((Below.refl _ w).drew)
end
theorem Open4.next {b : Nat} {w w' : World} (c : U.Open4 b w) (hl : b < w.heap.size) (hb : Below w.heap.size w w') : U.Open4 b w' := c.later hb hl
/-- a box that was made before a call, behind the call -/
theorem new_box {w w2 : World} {q : U.Sp} {t : TypeId} (hb : Below ((w.alloc (.cells #[.int .i64 q.b, .int .i64 q.n, .int .i64 q.mb, .int .i64 q.mn] t)).drew).heap.size ((w.alloc (.cells #[.int .i64 q.b, .int .i64 q.n, .int .i64 q.mb, .int .i64 q.mn] t)).drew) w2) :
    U.Box4 w.heap.size q w2 ∧ U.Open4 w.heap.size w2 := by
  have hl : w.heap.size < ((w.alloc (.cells #[.int .i64 q.b, .int .i64 q.n, .int .i64 q.mb, .int .i64 q.mn] t)).drew).heap.size := (U.Box4.drew (U.Box4.new w q t)).lt
  exact ⟨U.Box4.next (U.Box4.drew (U.Box4.new w q t)) hb, Open4.next (U.Open4.later (U.Open4.new w t _) ((Below.refl _ _).drew) (U.Box4.new w q t).lt) hl hb⟩
theorem raw_set (d : List Mt) (i : Nat) (m m' : Mt) (q : U.Sp) (hd : d[i]? = some m) (hr : (raw d)[i]? = some m') : (raw d).set i { m' with q := q } = raw (d.set i { m with q := q }) := by
  cases d with
  | nil => cases hd
  | cons x r =>
    cases i with
    | zero =>
      simp [raw] at hd hr ⊢
      subst hd hr
      simp
    | succ i =>
      simp [raw] at hd hr ⊢
      rw [hd] at hr
      cases hr
      rfl
theorem raw_some {d : List Mt} {i : Nat} {m : Mt} (h : d[i]? = some m) : ∃ m', (raw d)[i]? = some m' ∧ m'.root = m.root ∧ m'.q = m.q := by
  rw [raw_at]
  split
  · rename_i e
    subst e
    rw [h]
    exact ⟨_, rfl, rfl, rfl⟩
  · exact ⟨m, h, rfl, rfl⟩
section
variable {B F : Nat} {nv nv' dv : Value} {st : St} {w w' : World}
/-- the reference's mounts turn, in their place -/
theorem Fs.deved (h : Fs B F nv dv st w) {d : List Mt} (hR : MRow B 56 dv (raw d) w') (hT : Turn (fun b => dv.ownBlock = some b) w w') : Fs B F nv dv ⟨st.last, st.n, d⟩ w' := by
  obtain ⟨l, h1, h2, h3⟩ := h.nodes
  have hE : T.EntKept w w' := h.entKept (hT.mono fun _ e => fS_dev e)
  refine ⟨h.bf, ?_, ⟨l, h1, row_same h2 fun g hg => ?_, fun p hp => T.own_kept (h3 p hp) hE⟩, hR⟩
  · refine (hT.block F h.ltF fun e => ?_).trans h.head
    obtain ⟨_, cur, hc⟩ := h.devs.block e
    exact ne_type h.head hc (by decide) rfl
  · obtain ⟨_, cur, hc⟩ := row_block h2 hg
    refine hT.block g (Array.getElem?_eq_some_iff.1 hc).1 fun e => ?_
    obtain ⟨_, cur', hc'⟩ := h.devs.block e
    exact ne_type hc hc' (by decide) rfl
/-- a mount's space is written -/
theorem Fs.spaced (h : Fs B F nv dv st w) {g cap i : Nat} {m : Mt} (hg : dv = .slice (some ⟨g, 0, none⟩) st.d.length cap) (hi : st.d[i]? = some m) (q : U.Sp) :
    Fs B F nv dv ⟨st.last, st.n, st.d.set i { m with q := q }⟩ (putq w g (i * 6) q) ∧ Turn (fun b => dv.ownBlock = some b) w (putq w g (i * 6) q) := by
  obtain ⟨m', h1, h2, h3⟩ := raw_some hi
  have hg' : dv = .slice (some ⟨g, 0, none⟩) (raw st.d).length cap := by rw [length_raw]; exact hg
  obtain ⟨hR, hgr⟩ := MRow.putq (hg' ▸ h.devs : MRow B 56 (.slice (some ⟨g, 0, none⟩) (raw st.d).length cap) (raw st.d) w) h1 q
  have ht : Turn (fun b => dv.ownBlock = some b) w (putq w g (i * 6) q) := Turn.of_grown hgr (by rw [hg]; rfl)
  rw [raw_set _ _ _ _ _ hi h1] at hR
  exact ⟨h.deved (hg' ▸ hR) ht, ht⟩
theorem Fs.mount (h : Fs B F nv dv st w) {i : Nat} {m : Mt} (hi : st.d[i]? = some m) : ∃ g cap, dv = .slice (some ⟨g, 0, none⟩) st.d.length cap ∧ w.cell? ⟨g, i * 6, none⟩ = some (.int .i64 m.root) ∧
    w.cell? ⟨g, i * 6 + 2, none⟩ = some (.int .i64 m.q.b) ∧ w.cell? ⟨g, i * 6 + 2 + 1, none⟩ = some (.int .i64 m.q.n) ∧ w.cell? ⟨g, i * 6 + 2 + 2, none⟩ = some (.int .i64 m.q.mb) ∧ w.cell? ⟨g, i * 6 + 2 + 3, none⟩ = some (.int .i64 m.q.mn) ∧ ∀ j, w.frozen? ⟨g, j, none⟩ = false := by
  obtain ⟨m', h1, h2, h3⟩ := raw_some hi
  obtain ⟨g, cap, he, hat⟩ := h.devs.at h1
  have hf := fun j => MRow.frozen (he ▸ h.devs : MRow B 56 (.slice (some ⟨g, 0, none⟩) (raw st.d).length cap) (raw st.d) w) j
  rw [length_raw] at he
  obtain ⟨c0, c1, c2, c3, c4, c5⟩ := hat
  rw [h2] at c0
  rw [h3] at c2 c3 c4 c5
  exact ⟨g, cap, he, c0, c2, c3, c4, c5, hf⟩
end
end Go.Proofs.Ytmoimijclafgcaa.G
