/-
  The reference's At and Get.
-/
import Derived.Test.YtmoimijclafgcaaGnew
namespace Go.Proofs.Ytmoimijclafgcaa.G
open Go.RowKit Go.Shelf
attribute [local go_sem] Oper.semAt_some

theorem row_at {B : Nat} {v : Value} {l : T.Row} {w : World} (h : T.RowOwn B v l w) {k : Nat} {p : T.Nd × Value} (hk : l[k]? = some p) : ∃ g cap, v = .slice (some ⟨g, 0, none⟩) l.length cap ∧ T.At g (k * 12) p.1 p.2 w := by
  have hlt : k < l.length := (List.getElem?_eq_some_iff.1 hk).1
  rcases h.forms with ⟨rfl, rfl⟩ | ⟨g, cap, rfl⟩
  · simp at hlt
  · refine ⟨g, cap, rfl, fun j hj => ?_⟩
    rw [World.ownsRow.cellAt h (k * 12 + j) (by omega)]
    exact T.flat_at l k p j hk hj
/-- the place of a node -/
def AtIs (l : T.Row) (no z : Int) : Prop := (z = -1 ∧ T.look l no = none) ∨ ∃ (i : Nat) (p : T.Nd × Value), z = i ∧ l[i]? = some p ∧ T.look l no = some p
set_option maxRecDepth 100000 in
set_option maxHeartbeats 4000000 in
theorem At_row {B F : Nat} {nv : Value} {l : T.Row} {w : World} (hc : w.cell? ⟨F, 0, none⟩ = some nv) (hR : T.RowOwn B nv l w) (no : Int) (hl : l.length ≤ 1000000) :
    Calls Try.prog 67 #[.pointer (some ⟨F, 0, none⟩), .int .i64 no] w fun e w' => (∃ z, e = .returned (.int .i64 z) ∧ AtIs l no z) ∧ w = w' := by
  obtain ⟨oa, cap, rfl, _⟩ := hR.sees
  have HR := Lib.hid hR
  clear hR
  go_enter Try.func67, Try.ntmps67
  go_wp2
  go_loopw [5] (fun i wr => ∃ k : Nat, k ≤ l.length ∧ i = .int .i64 k ∧ (∀ y ∈ l.take k, decide (y.1.no = no) = false) ∧ wr = w) (fun i _ => l.length - (RowKit.intOf i).toNat)
  case atStart => exact ⟨0, Nat.zero_le _, rfl, fun y hy => by simp at hy, rfl⟩
  case round =>
    obtain ⟨k, hk, rfl, hno, rfl⟩ := hrel
    have HB := Lib.hid hno
    clear hno
    by_cases hlt : k < l.length
    · obtain ⟨x, hx⟩ : ∃ x, l[k]? = some x := ⟨_, List.getElem?_eq_getElem hlt⟩
      obtain ⟨g, cap', he, hat⟩ := row_at HR.out hx
      cases he
      obtain ⟨c0, _⟩ := hat.facts
      have HF := Lib.hid (seek_take (fun p : T.Nd × Value => decide (p.1.no = no)) hx HB.out)
      have HX := Lib.hid hx
      clear hx hat
      by_cases hn : x.1.no = no
      · have HN := Lib.hid (HF.out.1 (by simpa using hn))
        subst hn
        clear HF
        go_wp2
        go_ret
        exact ⟨⟨k, rfl, .inr ⟨k, x, rfl, HX.out, HN.out⟩⟩, by first | rfl | trivial⟩
      · have HN := Lib.hid (HF.out.2 (by simpa using hn))
        have hn' : (x.1.no == no) = false := by simpa using hn
        clear HF hn
        go_wp2
        go_roundw
        case rel => exact ⟨k + 1, by omega, by go_num, HN.out, by first | rfl | trivial⟩
        case measure => simp [RowKit.intOf]; omega
    · have HE := Lib.hid (seek_end (fun p : T.Nd × Value => decide (p.1.no = no)) (l := l) (by have := HB.out; rwa [List.take_of_length_le (by omega)] at this))
      go_wp2
      go_ret
      exact ⟨⟨-1, rfl, .inl ⟨rfl, HE.out⟩⟩, by first | rfl | trivial⟩
section
variable {B F : Nat} {nv dv : Value} {st : St} {w w' : World}
theorem gets_row {l : T.Row} {n : List T.Nd} (h : l.map Prod.fst = n) {k : Int} : get n k = (T.look l k).map Prod.fst := by rw [← h, look_fst]
set_option maxRecDepth 100000 in
set_option maxHeartbeats 8000000 in
/-- what Get answers: the node, its entries where they lie -/
theorem refGet_any (h : Fs B F nv dv st w) (k : Int) (hl : st.n.length ≤ 1000000) : Calls Try.prog 30 #[.pointer (some ⟨F, 0, none⟩), .int .i64 k] w fun e w' =>
    ∃ u, e = .returned ((gets st.n k).v u) ∧ E.Own B u (gets st.n k).es w' ∧ Below w.heap.size w w' := by
  obtain ⟨l, h1, h2, h3⟩ := h.nodes
  have hll : l.length = st.n.length := by rw [← h1, List.length_map]
  have hg := gets_row h1 (k := k)
  have hz : T.look l k = none → gets st.n k = T.Nd.zero := fun e => by rw [e] at hg; exact gets_none hg
  have hp : ∀ p, T.look l k = some p → gets st.n k = p.1 := fun p e => by rw [e] at hg; exact gets_some hg
  have hb1 : Below w.heap.size w (w.alloc (.cells #[.int .i64 0, .int .i64 0, .int .i64 0, .int .i64 0, .int .i64 0, .int .i64 0, .int .i64 0, .int .i64 0, .int .i64 0, .int .i64 0, .string ⟨#[]⟩, .slice none 0 0] 71)) := (Below.refl _ _).alloc (Nat.le_refl _) _
  have B1 := T.BoxN.new T.Nd.zero (.slice none 0 0) w
  dsimp only [T.Nd.zero] at B1
  have hF := (h.below hb1).facts.1
  have c1 := At_row hF (h2.below hb1) k (by omega)
  have HR := Lib.hid (h2.below hb1)
  have HE := Lib.hid (fun p (hp : p ∈ l) => T.own_kept (h3 p hp) (T.EntKept.below hb1))
  have HZ := Lib.hid hz
  have HP := Lib.hid hp
  obtain ⟨oa, cap, rfl, _⟩ := h2.sees
  clear h h2 h3 hll hl h1 hg hz hp
  generalize gets st.n k = nd at *
  go_enter Try.func30, Try.ntmps30
  go_upto_region 1 with fail
  generalize w.alloc (.cells #[.int .i64 0, .int .i64 0, .int .i64 0, .int .i64 0, .int .i64 0, .int .i64 0, .int .i64 0, .int .i64 0, .int .i64 0, .int .i64 0, .string ⟨#[]⟩, .slice none 0 0] 71) = W1 at *
  obtain ⟨b0, hbd⟩ : ∃ b, w.heap.size = b := ⟨_, rfl⟩
  rw [hbd] at B1 hb1 ⊢
  have HB := Lib.hid hbd
  clear hbd
  go_upto_region 2 with (go_at_call 67; refine c1.mono ?_; rintro e w1 ⟨⟨z, rfl, hz⟩, rfl⟩)
  obtain ⟨f0, f1, f2, f3, f4, f5, f6, f7, f8, f9, f10, f11⟩ := B1.open
  obtain ⟨a0, a1, a2, a3, a4, a5, a6, a7, a8, a9, a10, a11⟩ := B1.facts
  dsimp only at a0 a1 a2 a3 a4 a5 a6 a7 a8 a9 a10 a11
  rcases hz with ⟨hz0, hn⟩ | ⟨i, p, rfl, hi, hn⟩
  · have hz1 : z < 0 := by omega
    obtain rfl := HZ.out hn
    clear hz0
    go_wp2
    have D3 := B1.fill T.Nd.zero (.slice none 0 0)
    have hb4 := hb1.trans (T.below_fill (Nat.le_refl b0) W1 T.Nd.zero (.slice none 0 0))
    unfold T.fill at D3 hb4
    dsimp only [T.Nd.zero] at D3 hb4
    generalize World.setCell _ _ _ = W4 at D3 hb4 ⊢
    obtain ⟨g0, g1, g2, g3, g4, g5, g6, g7, g8, g9, g10, g11⟩ := D3.facts
    refine bodyPost_ret (by simp [results, Try.results30, go_sem, g0, g1, g2, g3, g4, g5, g6, g7, g8, g9, g10, g11]; rfl) rfl ?_
    exact ⟨.slice none 0 0, rfl, E.Own.nil _ _, HB.out ▸ hb4⟩
  · obtain rfl := HP.out p hn
    have hil : i < l.length := (List.getElem?_eq_some_iff.1 hi).1
    have hi0 : ¬ (i : Int) < 0 := by omega
    have hi1 : (i : Int) < l.length := by omega
    obtain ⟨g, cap', he, hat⟩ := row_at HR.out hi
    cases he
    have hO := HE.out p (List.mem_of_getElem? hi)
    obtain ⟨n, s⟩ := p
    dsimp only at hO
    obtain ⟨ou, cu, rfl⟩ := T.own_slice hO
    obtain ⟨no, dev, kind, mode, uid, gid, mt, ct, links, up, data, es⟩ := n
    obtain ⟨q0, q1, q2, q3, q4, q5, q6, q7, q8, q9, q10, q11⟩ := hat.facts
    dsimp only at q0 q1 q2 q3 q4 q5 q6 q7 q8 q9 q10 q11 hO
    have HI := Lib.hid hi
    clear hat hi hn HP HZ HE
    go_wp2
    have D3 := B1.fill ⟨no, dev, kind, mode, uid, gid, mt, ct, links, up, data, es⟩ (.slice ou es.length cu)
    have hb4 := hb1.trans (T.below_fill (Nat.le_refl b0) W1 ⟨no, dev, kind, mode, uid, gid, mt, ct, links, up, data, es⟩ (.slice ou es.length cu))
    have hO4 : E.Own B _ es _ := T.own_kept hO (T.EntKept.fill B1 ⟨no, dev, kind, mode, uid, gid, mt, ct, links, up, data, es⟩ (.slice ou es.length cu))
    unfold T.fill at D3 hb4 hO4
    dsimp only at D3 hb4 hO4
    generalize World.setCell _ _ _ = W4 at D3 hb4 hO4 ⊢
    obtain ⟨g0, g1, g2, g3, g4, g5, g6, g7, g8, g9, g10, g11⟩ := D3.facts
    refine bodyPost_ret (by simp [results, Try.results30, go_sem, g0, g1, g2, g3, g4, g5, g6, g7, g8, g9, g10, g11]; rfl) rfl ?_
    exact ⟨.slice ou es.length cu, rfl, hO4, HB.out ▸ hb4⟩
end
end Go.Proofs.Ytmoimijclafgcaa.G
