/-
  table.Add and table.Set.
-/
import Derived.Test.YtmoimijclafgcaaTtab
namespace Go.Proofs.Ytmoimijclafgcaa.T
open Go.RowKit Go.Shelf Go.Maps

theorem BoxN.ne_map {b M n : Nat} {m : Nd} {s : Value} {D : DataW Value} {w : World} (h : BoxN b m s w) (hm : w.ownsMap Try.prog 3 elem M n D) : some b ≠ some M := by
  intro e
  cases e
  obtain ⟨es, clock, hb, _⟩ := hm
  unfold BoxN at h
  rw [h] at hb
  cases hb
/-- a node put into a map: SOME world in which the map reads so -/
theorem put_run {M n : Nat} {l l' : Row} {w : World} (h : w.ownsMap Try.prog 3 elem M n (DD l)) (hn : n < maxLen) (q : Nd × Value) (hk : Wf q.1.no) (hd : (DD l).put (.int .i64 q.1.no) (.held (q.1.v q.2)) = DD l') :
    ∃ w', (Instr.mapUpdate 85 (.map (some M)) (.int .i64 q.1.no) (q.1.v q.2)).run Try.prog w = .ok () w' ∧ w'.ownsMap Try.prog 3 elem M l'.length (DD l') ∧ w.grownBy w' (some M) := by
  obtain ⟨w', hrun, hown, ht⟩ := h.store law Try.underlying85 hn (key_of hk) (d := .held (q.1.v q.2)) (ps := []) rfl
  rw [hd] at hown
  exact ⟨w', hrun, tight hown, ht.grown⟩

set_option maxRecDepth 100000 in
set_option maxHeartbeats 8000000 in
theorem Set_any {B T M : Nat} {last : Int} {l : Row} {w : World} (h : Tab B T M last l w) (n : Nd) (s : Value) (hS : E.Sees s n.es w) (hl : Fits n.es) (hk : Wf n.no) (hlen : l.length < 1000000) :
    Calls Try.prog 35 #[.pointer (some ⟨T, 0, none⟩), n.v s] w fun e w' =>
    e = .returned (.bool (look l n.no).isSome) ∧ Only T M w w' ∧ (((look l n.no).isSome = false ∧ Tab B T M last l w') ∨ ((look l n.no).isSome = true ∧ ∃ u, Tab B T M last (repl l (n, u)) w')) := by
  have c1 := fun W hW => kept_any T (some M) W hW
  obtain ⟨hfo, hfit⟩ := h.found_own n.no
  obtain ⟨fa, fc, hs⟩ := own_slice hfo
  have HT := Lib.hid h
  have hf := fun W (hW : Tab B T M last l W) => hW.finds hk
  generalize found l n.no = f at hf hs hfo hfit ⊢
  obtain ⟨⟨fno, fdev, fkind, fmode, fuid, fgid, fmt, fct, flinks, fup, fdata, fes⟩, fs⟩ := f
  dsimp only at hs hfo hfit
  subst hs
  have cc := fun W hS => apart_any n (s := s) (w := W) hS hl
  obtain ⟨oa, cap, rfl, hcells⟩ := hS
  have hS : E.Sees (.slice oa n.es.length cap) n.es w := ⟨oa, cap, rfl, hcells⟩
  obtain ⟨no, dev, kind, mode, uid, gid, mt, ct, links, up, data, es⟩ := n
  dsimp only [Nd.v] at *
  clear h hcells hfo hfit
  have HK := Lib.hid hk
  have B1 := BoxN.new ⟨no, dev, kind, mode, uid, gid, mt, ct, links, up, data, es⟩ (.slice oa es.length cap) w
  dsimp only at B1
  obtain ⟨b, hbb⟩ : ∃ b, (look l no).isSome = b := ⟨_, rfl⟩
  rw [hbb] at hf ⊢
  have HBB := Lib.hid hbb
  clear hbb
  go_enter Try.func35, Try.ntmps35
  go_upto_region 1 with fail
  have hb1 : Below w.heap.size w (w.alloc (.cells #[.int .i64 no, .int .i64 dev, .int .i64 kind, .int .i64 mode, .int .i64 uid, .int .i64 gid, .int .i64 mt, .int .i64 ct, .int .i64 links, .int .i64 up, .string data, .slice oa es.length cap] 71)) := (Below.refl _ _).alloc (Nat.le_refl _) _
  generalize hW1 : w.alloc (.cells #[.int .i64 no, .int .i64 dev, .int .i64 kind, .int .i64 mode, .int .i64 uid, .int .i64 gid, .int .i64 mt, .int .i64 ct, .int .i64 links, .int .i64 up, .string data, .slice oa es.length cap] 71) = W1 at B1 hb1 ⊢
  have hT1 := HT.out.below hb1
  have hf1 := hf W1 hT1
  have hk1 := c1 W1 hT1.facts.1
  have hS1 := hS.below hb1
  have HT1 := Lib.hid hT1
  have HB1 := Lib.hid B1
  have HS1 := Lib.hid hS1
  clear hW1 hf c1 HT hS hT1 hS1
  obtain ⟨c0, c1, c2, c3, c4, c5, c6, c7, c8, c9, c10, c11⟩ := B1.facts
  clear B1
  go_upto_region 3 with (refine hk1.mono ?_; rintro e w1 ⟨rfl, rfl⟩)
  have hb2 : Below W1.heap.size W1 (W1.alloc (.cells #[.int .i64 fno, .int .i64 fdev, .int .i64 fkind, .int .i64 fmode, .int .i64 fuid, .int .i64 fgid, .int .i64 fmt, .int .i64 fct, .int .i64 flinks, .int .i64 fup, .string fdata, .slice fa fes.length fc] 71)) := (Below.refl _ _).alloc (Nat.le_refl _) _
  generalize W1.alloc (.cells #[.int .i64 fno, .int .i64 fdev, .int .i64 fkind, .int .i64 fmode, .int .i64 fuid, .int .i64 fgid, .int .i64 fmt, .int .i64 fct, .int .i64 flinks, .int .i64 fup, .string fdata, .slice fa fes.length fc] 71) = W2 at hb2 ⊢
  have hB2 := Lib.hid (HB1.out.below hb2)
  have hT2 := Lib.hid (HT1.out.below hb2)
  have hS2 := Lib.hid (HS1.out.below hb2)
  have hb12 := below_two hb1 hb2
  clear hf1 hk1 HT1 HS1 HB1 hb1 hb2 c0 c1 c2 c3 c4 c5 c6 c7 c8 c9 c10 c11
  cases b with
  | false =>
    go_wp2
    go_ret
    first | exact ⟨rfl, Only.of_below hb12, hT2.out⟩ | exact ⟨rfl, Only.of_below hb12, .inl ⟨rfl, hT2.out⟩⟩
  | true =>
    obtain ⟨bx, hbx⟩ : ∃ b, w.heap.size = b := ⟨_, rfl⟩
    have HBX := Lib.hid hbx
    rw [hbx] at hB2 ⊢
    clear hbx
    go_upto_region 5 with fail
    have hdr : Below W2.heap.size W2 W2.drew := (Below.refl _ _).drew
    have D2 := hB2.out.below hdr
    have call := cc W2.drew (hS2.out.below hdr)
    have HC := Lib.hid cc
    clear cc
    go_region_held3 (fun w' => w'.cell? ⟨bx, 0, none⟩ = some (.int .i64 no) ∧ w'.cell? ⟨bx, 1, none⟩ = some (.int .i64 dev) ∧ w'.cell? ⟨bx, 2, none⟩ = some (.int .i64 kind) ∧ w'.cell? ⟨bx, 3, none⟩ = some (.int .i64 mode) ∧
      w'.cell? ⟨bx, 4, none⟩ = some (.int .i64 uid) ∧ w'.cell? ⟨bx, 5, none⟩ = some (.int .i64 gid) ∧ w'.cell? ⟨bx, 6, none⟩ = some (.int .i64 mt) ∧ w'.cell? ⟨bx, 7, none⟩ = some (.int .i64 ct) ∧
      w'.cell? ⟨bx, 8, none⟩ = some (.int .i64 links) ∧ w'.cell? ⟨bx, 9, none⟩ = some (.int .i64 up) ∧ w'.cell? ⟨bx, 10, none⟩ = some (.string data) ∧ w'.cell? ⟨bx, 11, none⟩ = some (.slice oa es.length cap))
      (with_reducible first | exact D5.facts | exact D4.facts | exact D2.facts)
      (first
        | (go_at_call 69
           refine call.mono ?_
           rintro e w4 ⟨u, rfl, hO4, hb4⟩
           obtain ⟨ou, cu, rfl⟩ := own_slice hO4
           have D4 := D2.below hb4
           have hT4 := (hT2.out.below hdr).below hb4
           obtain ⟨w5, hrun5, hown5, hg5⟩ := put_run hT4.map (by unfold maxLen; omega) ((⟨no, dev, kind, mode, uid, gid, mt, ct, links, up, data, es⟩, .slice ou es.length cu) : Nd × Value) HK.out (put_old hT4.rise _ HBB.out)
           have D5 : BoxN bx ⟨no, dev, kind, mode, uid, gid, mt, ct, links, up, data, es⟩ (.slice oa es.length cap) w5 := (hg5.block bx D4.lt (D4.ne_map hT4.map)).trans D4
           dsimp only [Nd.v] at hrun5))
    go_wp2
    go_ret
    have hO4' := Only.grown (T := T) hg5
    have hgo := (Only.of_below (T := T) (M := M) ((hb12.trans (hdr.mono hb12.size)).trans (hb4.mono (Nat.le_trans hb12.size hdr.size)))).trans hO4'
    have htab : Tab B T M last (repl l (⟨no, dev, kind, mode, uid, gid, mt, ct, links, up, data, es⟩, .slice ou es.length cu)) w5 := by
      refine ⟨hT4.bt, hT4.bm, (hg5.block T hT4.ltT (by intro e; cases e; exact hT4.ne rfl)).trans hT4.head, hown5, hT4.rise.repl _, hT4.given.repl HBB.out, fun p hp => ?_, fun p hp => ?_, hT4.lo⟩
      · rcases mem_repl hp with rfl | hp
        · exact own_kept (hO4.mono (by have := hT2.out.ltT; have := hT2.out.bt; have := hdr.size; omega)) (hT4.entKept hO4')
        · exact own_kept (hT4.ents p hp) (hT4.entKept hO4')
      · rcases mem_repl hp with rfl | hp
        · exact hl
        · exact hT4.fits p hp
    first | exact ⟨rfl, hgo, _, htab⟩ | exact ⟨rfl, hgo, .inr ⟨rfl, _, htab⟩⟩

theorem Only.more {T M n : Nat} {a b c : World} (h : Only T M a b) (k : Below n b c) (hn : a.heap.size ≤ n) : Only T M a c :=
  ⟨k.os.trans h.os, k.tape.trans h.tape, k.output.trans h.output, Nat.le_trans h.size k.size, fun i hi h1 h2 => (k.block i (Nat.lt_of_lt_of_le hi hn)).trans (h.block i hi h1 h2)⟩
/-- who reads entries sees the same where only a table turns -/
theorem sees_only {B T M : Nat} {last : Int} {l : Row} {v : Value} {ls : List E.Ent} {w w' : World} (h : E.Sees v ls w) (hT : Tab B T M last l w) (hO : Only T M w w') : E.Sees v ls w' := by
  obtain ⟨oa, cap, rfl, hm, hc⟩ := h
  refine ⟨oa, cap, rfl, hm, fun k x hk => ?_⟩
  obtain ⟨g, o, rfl, h0, h1⟩ := hc k x hk
  have hlt : g < w.heap.size := World.block_lt_of_cell? _ _ h0
  have e1 : g ≠ T := fun e => by
    subst e
    rw [Lib.cell_of_heap hT.head] at h0
    rcases hq : o + k * 2 with _ | _ | q
    · rw [hq] at h0; simp at h0
    · rw [hq] at h0; simp at h0
    · rw [hq] at h0; simp at h0
  have e2 : g ≠ M := fun e => by
    subst e
    obtain ⟨es, clock, hb, _⟩ := hT.map
    simp [World.cell?, hb] at h0
  have hb := hO.block g hlt e1 e2
  have cc : ∀ i, w'.cell? ⟨g, i, none⟩ = w.cell? ⟨g, i, none⟩ := fun i => by simp [World.cell?, hb]
  exact ⟨g, o, rfl, (cc _).trans h0, (cc _).trans h1⟩
theorem entKept_set {b : Nat} {cs : Array Value} {t : TypeId} {mk : Nat × Nat} {w : World} (h : w.heap[b]? = some (.cells cs t mk)) (ht : t ≠ 128) (i : Nat) (u : Value) : EntKept w (w.setCell ⟨b, i, none⟩ u) := fun g cur hg => by
  have hne : g ≠ b := fun e => by subst e; rw [h] at hg; cases hg; exact ht rfl
  rw [RowKit.Below.heap_setCell _ _ _ _ hne]; exact hg
theorem Tab.bump {B T M : Nat} {last k : Int} {l : Row} {w : World} (h : Tab B T M last l w) (hk : last ≤ k) : Tab B T M k l (w.setCell ⟨T, 1, none⟩ (.int .i64 k)) := by
  refine ⟨h.bt, h.bm, ?_, h.map.setCell (fun e => h.ne e.symm) _, h.rise, h.given.mono hk, fun p hp => own_kept (h.ents p hp) (entKept_set h.head (by decide) _ _), h.fits, by have := h.lo; omega⟩
  have := h.head
  simp [World.setCell, Array.getElem?_modify, this]
theorem Tab.beside {B T M b : Nat} {last : Int} {l : Row} {n : Nd} {s : Value} {w : World} (h : Tab B T M last l w) (hb : BoxN b n s w) (i : Nat) (u : Value) : Tab B T M last l (w.setCell ⟨b, i, none⟩ u) := by
  have h1 : T ≠ b := fun e => by
    subst e
    have := h.head
    unfold BoxN at hb
    rw [hb] at this; cases this
  have h2 : M ≠ b := fun e => hb.ne_map h.map (by rw [e])
  exact h.stays (RowKit.Below.heap_setCell _ _ _ _ h1) (RowKit.Below.heap_setCell _ _ _ _ h2) (entKept_set hb (by decide) _ _)

set_option maxRecDepth 100000 in
set_option maxHeartbeats 8000000 in
theorem Add_any {B T M : Nat} {last : Int} {l : Row} {w : World} (h : Tab B T M last l w) (n : Nd) (s : Value) (hS : E.Sees s n.es w) (hl : Fits n.es) (hlen : l.length < 1000000) (hlast : last < 1000000) :
    Calls Try.prog 79 #[.pointer (some ⟨T, 0, none⟩), n.v s] w fun e w' =>
    e = .returned (.int .i64 (last + 1)) ∧ Only T M w w' ∧ ∃ u, Tab B T M (last + 1) (l ++ [(n.as (last + 1), u)]) w' := by
  have c1 := fun W hW => kept_any T (some M) W hW
  have HT := Lib.hid h
  have h0 := h.lo
  have hq := map_nil (some M)
  have hgiven := h.given
  have cc := fun W hS => apart_any (n.as (last + 1)) (s := s) (w := W) hS hl
  obtain ⟨oa, cap, rfl, hcells⟩ := hS
  have hS : E.Sees (.slice oa n.es.length cap) n.es w := ⟨oa, cap, rfl, hcells⟩
  obtain ⟨no, dev, kind, mode, uid, gid, mt, ct, links, up, data, es⟩ := n
  dsimp only [Nd.v, Nd.as] at *
  have HK : Hid (Wf (last + 1)) := Lib.hid (wf_of (by omega) (by omega))
  clear h hcells
  have B1 := BoxN.new ⟨no, dev, kind, mode, uid, gid, mt, ct, links, up, data, es⟩ (.slice oa es.length cap) w
  dsimp only at B1
  go_enter Try.func79, Try.ntmps79
  go_upto_region 1 with fail
  have hb1 : Below w.heap.size w (w.alloc (.cells #[.int .i64 no, .int .i64 dev, .int .i64 kind, .int .i64 mode, .int .i64 uid, .int .i64 gid, .int .i64 mt, .int .i64 ct, .int .i64 links, .int .i64 up, .string data, .slice oa es.length cap] 71)) := (Below.refl _ _).alloc (Nat.le_refl _) _
  generalize hW1 : w.alloc (.cells #[.int .i64 no, .int .i64 dev, .int .i64 kind, .int .i64 mode, .int .i64 uid, .int .i64 gid, .int .i64 mt, .int .i64 ct, .int .i64 links, .int .i64 up, .string data, .slice oa es.length cap] 71) = W1 at B1 hb1 ⊢
  have HW := HT
  have HS := Lib.hid hS
  have hT1 := HT.out.below hb1
  have hk1 := c1 W1 hT1.facts.1
  obtain ⟨t0, t1, t2, t3⟩ := hT1.facts
  have hS1 := hS.below hb1
  obtain ⟨bx, hbx⟩ : ∃ b, w.heap.size = b := ⟨_, rfl⟩
  have HBX := Lib.hid hbx
  rw [hbx] at B1 ⊢
  have hB1 := Lib.hid B1
  have HT1 := Lib.hid hT1
  have HS1 := Lib.hid hS1
  clear hW1 c1 HT hS hT1 hS1 B1 hbx
  go_upto_region 5 with (refine hk1.mono ?_; rintro e w1 ⟨rfl, rfl⟩)
  have hT2 := HT1.out.bump (k := last + 1) (by omega)
  have hne : bx ≠ T := fun e => by have h1 := HT1.out.head; have h2 := hB1.out; unfold BoxN at h2; rw [e, h1] at h2; cases h2
  have B2 := hB1.out.other hne 1 (.int .i64 (last + 1))
  have hO2 : Only T M W1 (W1.setCell ⟨T, 1, none⟩ (.int .i64 (last + 1))) := Only.set _ _ _
  have hE2 : EntKept W1 (W1.setCell ⟨T, 1, none⟩ (.int .i64 (last + 1))) := entKept_set HT1.out.head (by decide) _ _
  generalize W1.setCell ⟨T, 1, none⟩ (.int .i64 (last + 1)) = W2 at hT2 B2 hO2 hE2 ⊢
  clear t0 t1 t2 t3
  obtain ⟨t0, t1, _, _⟩ := hT2.facts
  obtain ⟨c0, _⟩ := B2.facts
  obtain ⟨f0, _⟩ := B2.open
  go_upto_region 6 with fail
  have hT3 := hT2.beside B2 0 (.int .i64 (last + 1))
  have B3 := B2.set0 (last + 1)
  dsimp only [Nd.as] at B3
  have hE3 : EntKept W2 (W2.setCell ⟨bx, 0, none⟩ (.int .i64 (last + 1))) := entKept_set B2 (by decide) _ _
  have hb3 : Below bx W2 (W2.setCell ⟨bx, 0, none⟩ (.int .i64 (last + 1))) := (Below.refl _ _).setCell (p := ⟨bx, 0, none⟩) (Nat.le_refl _) _
  generalize W2.setCell ⟨bx, 0, none⟩ (.int .i64 (last + 1)) = W3 at hT3 B3 hE3 hb3 ⊢
  have hO3 : Only T M w W3 := ((Only.of_below hb1).trans hO2).more hb3 (Nat.le_of_eq HBX.out)
  have hS3 : E.Sees (.slice oa es.length cap) es W3 := sees_only HS.out HW.out hO3
  have hdr : Below W3.heap.size W3 W3.drew := (Below.refl _ _).drew
  have D2 := B3.below hdr
  have call := cc W3.drew (hS3.below hdr)
  have HC := Lib.hid cc
  have HQ := Lib.hid hT3
  have HB2 := Lib.hid hT2
  clear cc t0 t1 c0 f0 hT3 hT2 hS3 hq
  go_region_held3 (fun w' => w'.cell? ⟨bx, 0, none⟩ = some (.int .i64 (last + 1)) ∧ w'.cell? ⟨bx, 1, none⟩ = some (.int .i64 dev) ∧ w'.cell? ⟨bx, 2, none⟩ = some (.int .i64 kind) ∧ w'.cell? ⟨bx, 3, none⟩ = some (.int .i64 mode) ∧
      w'.cell? ⟨bx, 4, none⟩ = some (.int .i64 uid) ∧ w'.cell? ⟨bx, 5, none⟩ = some (.int .i64 gid) ∧ w'.cell? ⟨bx, 6, none⟩ = some (.int .i64 mt) ∧ w'.cell? ⟨bx, 7, none⟩ = some (.int .i64 ct) ∧
      w'.cell? ⟨bx, 8, none⟩ = some (.int .i64 links) ∧ w'.cell? ⟨bx, 9, none⟩ = some (.int .i64 up) ∧ w'.cell? ⟨bx, 10, none⟩ = some (.string data) ∧ w'.cell? ⟨bx, 11, none⟩ = some (.slice oa es.length cap))
      (with_reducible first | exact D5.facts | exact D4.facts | exact D2.facts)
      (first
        | (go_at_call 69
           refine call.mono ?_
           rintro e w4 ⟨u, rfl, hO4, hb4⟩
           obtain ⟨ou, cu, rfl⟩ := own_slice hO4
           have D4 := D2.below hb4
           have hT4 := (HQ.out.below hdr).below hb4
           obtain ⟨w5, hrun5, hown5, hg5⟩ := put_run hT4.map (by unfold maxLen; omega) ((⟨last + 1, dev, kind, mode, uid, gid, mt, ct, links, up, data, es⟩, .slice ou es.length cu) : Nd × Value) HK.out (put_new hgiven _ (by show last < last + 1; omega))
           have D5 : BoxN bx ⟨last + 1, dev, kind, mode, uid, gid, mt, ct, links, up, data, es⟩ (.slice oa es.length cap) w5 := (hg5.block bx D4.lt (D4.ne_map hT4.map)).trans D4
           dsimp only [Nd.v] at hrun5))
  have d0 := D5.facts.1
  go_wp2
  go_ret
  have hO4' := Only.grown (T := T) hg5
  have htab : Tab B T M (last + 1) (l ++ [(⟨last + 1, dev, kind, mode, uid, gid, mt, ct, links, up, data, es⟩, .slice ou es.length cu)]) w5 := by
    refine ⟨hT4.bt, hT4.bm, (hg5.block T hT4.ltT (by intro e; cases e; exact hT4.ne rfl)).trans hT4.head, hown5, hT4.rise.snoc hgiven _ (by show last < last + 1; omega), hgiven.snoc _ rfl h0, fun p hp => ?_, fun p hp => ?_, hT4.lo⟩
    · rcases List.mem_append.1 hp with hp | hp
      · exact own_kept (hT4.ents p hp) (hT4.entKept hO4')
      · obtain rfl := List.mem_singleton.1 hp
        exact own_kept (hO4.mono (by have := HQ.out.ltT; have := HQ.out.bt; have := hdr.size; omega)) (hT4.entKept hO4')
    · rcases List.mem_append.1 hp with hp | hp
      · exact hT4.fits p hp
      · obtain rfl := List.mem_singleton.1 hp
        exact hl
  have hgo : Only T M w w5 := ((hO3.more hdr hO3.size).more hb4 (Nat.le_trans hO3.size hdr.size)).trans hO4'
  exact ⟨rfl, hgo, _, htab⟩
end Go.Proofs.Ytmoimijclafgcaa.T
