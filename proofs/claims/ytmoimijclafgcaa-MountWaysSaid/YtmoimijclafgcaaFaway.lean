/-
  The reference's Away.
-/
import Derived.Test.YtmoimijclafgcaaFadd
namespace Go.Proofs.Ytmoimijclafgcaa.G
open Go.RowKit Go.Shelf
attribute [local go_sem] Oper.semAt_some

theorem strike_snoc (a : T.Row) (p : T.Nd × Value) (k : Int) : T.strike (a ++ [p]) k = T.strike a k ++ if p.1.no = k then [] else [p] := by
  unfold T.strike
  rw [List.filter_append]
  by_cases h : p.1.no = k <;> simp [h]
theorem strike_take {l : T.Row} {i : Nat} {p : T.Nd × Value} (k : Int) (h : l[i]? = some p) : T.strike (l.take (i + 1)) k = T.strike (l.take i) k ++ if p.1.no = k then [] else [p] := by
  rw [List.take_add_one, h]
  exact strike_snoc _ p k
section
variable {B F : Nat} {nv nv' dv : Value} {st : St} {w w' : World}
theorem Fs.swap (h : Fs B F nv dv st w) {l : T.Row} (h2 : T.RowOwn B nv' l w) (h3 : ∀ p ∈ l, E.Own B p.2 p.1.es w) : Fs B F nv' dv ⟨st.last, l.map Prod.fst, st.d⟩ (w.setCell ⟨F, 0, none⟩ nv') := by
  have hn : ∀ (b : Nat) (x : Array Value) (t : TypeId) (mk : Nat × Nat), w.heap[b]? = some (.cells x t mk) → t ≠ 47 → (w.setCell ⟨F, 0, none⟩ nv').heap[b]? = w.heap[b]? := fun b x t mk hb ht => RowKit.Below.heap_setCell _ _ _ _ (fun e => by
    subst e
    rw [h.head] at hb
    cases hb
    exact ht rfl)
  refine ⟨h.bf, ?_, ⟨l, rfl, row_same h2 fun g hg => ?_, fun p hp => T.own_kept (h3 p hp) (T.entKept_set h.head (by decide) _ _)⟩, h.devs.same fun g hg => ?_⟩
  · simp [World.setCell, Array.getElem?_modify, h.head]
  · obtain ⟨_, cur, hc⟩ := row_block h2 hg
    exact hn _ _ _ _ hc (by decide)
  · obtain ⟨_, cur, hc⟩ := h.devs.block hg
    exact hn _ _ _ _ hc (by decide)
set_option maxRecDepth 100000 in
set_option maxHeartbeats 8000000 in
theorem refAway_any (h : Fs B F nv dv st w) (no : Int) (hB : B ≤ w.heap.size) (hl : st.n.length ≤ 1000000) :
    Calls Try.prog 34 #[.pointer (some ⟨F, 0, none⟩), .int .i64 no] w fun e w' =>
    e = .returned (.tuple #[]) ∧ ∃ nv', Fs B F nv' dv ⟨st.last, dropN st.n no, st.d⟩ w' ∧ Turn (fS F nv dv) w w' ∧ ∀ k, fS F nv' dv k → fS F nv dv k ∨ w.heap.size ≤ k := by
  obtain ⟨i0, hi, hz0, hz1, hz2⟩ := E.info_parts T.infoN
  obtain ⟨l, h1, h2, h3⟩ := h.nodes
  have hll : l.length = st.n.length := by rw [← h1, List.length_map]
  obtain ⟨x0, x1, x2, y0, y1, y2⟩ := h.facts
  have hFl := h.ltF
  obtain ⟨oa, cap, rfl, _⟩ := h2.sees
  have HH := Lib.hid h
  have HR := Lib.hid h2
  have HE := Lib.hid h3
  have H1 := Lib.hid h1
  clear h h1 h2 h3 x1 x2 y1 y2
  go_enter Try.func34, Try.ntmps34
  go_wp2
  go_loopw [4, 5] (fun u i wr => ∃ k : Nat, k ≤ l.length ∧ i = .int .i64 k ∧ T.RowOwn w.heap.size u (T.strike (l.take k) no) wr ∧ Below w.heap.size w wr) (fun _ i _ => l.length - (RowKit.intOf i).toNat)
  case atStart => exact ⟨0, Nat.zero_le _, rfl, T.RowOwn.nil _ _, Below.refl _ _⟩
  case round =>
    obtain ⟨k, hk, rfl, hO, hb⟩ := hrel
    have z0 := (hb.cell (p := ⟨F, 0, none⟩) hFl).trans x0
    have g0 := (hb.frozen (p := ⟨F, 0, none⟩) hFl).trans y0
    by_cases hlt : k < l.length
    · obtain ⟨p, hp⟩ : ∃ p, l[k]? = some p := ⟨_, List.getElem?_eq_getElem hlt⟩
      obtain ⟨g, cap', he, hat⟩ := row_at HR.out hp
      cases he
      have hat' := hat.below hb hat.lt
      have HN := Lib.hid (strike_take no hp)
      obtain ⟨oe, ce, hsl⟩ := T.own_slice (HE.out p (List.mem_of_getElem? hp))
      obtain ⟨n, s⟩ := p
      dsimp only at hsl HN
      subst hsl
      obtain ⟨no', dev, kind, mode, uid, gid, mt, ct, links, up, data, es⟩ := n
      obtain ⟨q0, q1, q2, q3, q4, q5, q6, q7, q8, q9, q10, q11⟩ := hat'.facts
      dsimp only at q0 q1 q2 q3 q4 q5 q6 q7 q8 q9 q10 q11 HN
      obtain ⟨ou, cu, hu, _⟩ := hO.sees
      subst hu
      have HO := Lib.hid hO
      clear hat hat' hp hO
      have hsl : (T.strike (l.take k) no).length ≤ k := Nat.le_trans (T.length_strike_le _ _) (by rw [List.length_take]; omega)
      by_cases hn : no' = no
      · have HN' := HN.out
        rw [if_pos hn, List.append_nil] at HN'
        have HN2 := Lib.hid HN'
        clear HN HN'
        subst hn
        go_wp2
        go_roundw
        case rel => exact ⟨k + 1, by omega, by go_num, by rw [HN2.out]; exact HO.out, hb⟩
        case measure => simp [RowKit.intOf]; omega
      · have HN' := HN.out
        rw [if_neg hn] at HN'
        have HN2 := Lib.hid HN'
        clear HN HN'
        have hn' : (no' == no) = false := by simpa using hn
        have hfl := T.cs_one ⟨no', dev, kind, mode, uid, gid, mt, ct, links, up, data, es⟩ (s := .slice oe es.length ce) ⟨_, _, _, rfl⟩
        have hOk := HO.out
        unfold T.RowOwn at hOk
        obtain ⟨m, hm⟩ : ∃ m, (T.strike (l.take k) no).length = m := ⟨_, rfl⟩
        have HM := Lib.hid hm
        rw [hm] at hOk hsl ⊢
        clear hm
        go_wp2_with (at_builtin; refine wpList_append_own _ rfl _ _ 43 rfl w.heap.size 71 i0 (.agg #[.int .i64 0, .int .i64 0, .int .i64 0, .int .i64 0, .int .i64 0, .int .i64 0, .int .i64 0, .int .i64 0, .int .i64 0, .int .i64 0, .string ⟨#[]⟩, .slice none 0 0]) 12 120 Try.underlying43 hi hz0 hz1 hz2 rfl (by decide) _ _ _ rfl (hOk.alloc _) ⟨wr.heap.size, 0, none⟩ 1 1 (T.Nd.cs ⟨no', dev, kind, mode, uid, gid, mt, ct, links, up, data, es⟩ (.slice oe es.length ce)) rfl rfl (T.cell_new _ _ _ _) hfl (by unfold maxLen; omega) (by omega) (by have := hb.size; simp; omega) ?_; intro v' w4 hown' hgrow _)
        have HO' := Lib.hid hown'
        clear hown'
        have hb4 := (hb.alloc hb.size (.cells #[.int .i64 no', .int .i64 dev, .int .i64 kind, .int .i64 mode, .int .i64 uid, .int .i64 gid, .int .i64 mt, .int .i64 ct, .int .i64 links, .int .i64 up, .string data, .slice oe es.length ce] 71)).grown hgrow (by have := hb.size; simp; omega) (fun k hk => (hOk.lt k hk).1)
        have HB4 := Lib.hid hb4
        clear hb4 hgrow hOk
        go_roundw
        case rel => exact ⟨k + 1, by omega, by go_num, by rw [HN2.out]; refine T.RowOwn.snoc ?_; rw [HM.out]; exact HO'.out, HB4.out⟩
        case measure => simp [RowKit.intOf]; omega
    · have hall : l.take k = l := List.take_of_length_le (by omega)
      rw [hall] at hO
      obtain ⟨ou, cu, hu, _⟩ := hO.sees
      subst hu
      have HO := Lib.hid hO
      clear hO
      go_wp2
      refine bodyPost_end (by simp [results, Try.results34]; rfl) rfl ?_
      have hF := (HH.out.below hb).swap (HO.out.mono hB) fun p hp => T.own_kept (HE.out p (T.mem_strike hp)) (T.EntKept.below hb)
      rw [fst_strike, H1.out] at hF
      refine ⟨rfl, _, hF, (Turn.of_below hb).trans (Fs.turnF _ 0 _), fun i hi => ?_⟩
      rcases hi with hi | hi | hi
      · exact .inl (.inl hi)
      · exact .inr (row_block HO.out hi).1
      · exact .inl (fS_dev hi)
end
end Go.Proofs.Ytmoimijclafgcaa.G
