/-
  The law's all: a table's nodes are those of a row.
-/
import Derived.Test.YtjliinpjkhfdbaaTlaw
import Derived.Shelf.RegionOpen
import Derived.Sort.QuietIn
namespace Go.Proofs.Ytjliinpjkhfdbaa.T
open Go.RowKit Go.Shelf
attribute [local go_sem] Oper.semAt_some

theorem equal_nil (b : Array Value) (W : World) : (Op.equal 51 (.func (.func 22) #[] b) .nilFunc).run Try.prog W = .ok false W := by
  have hu := run_underlying Try.underlying51
  have h : Op.equal 51 (.func (.func 22) #[] b) .nilFunc = Op.equalIn (9999 + 1) 51 (.func (.func 22) #[] b) .nilFunc := rfl
  rw [h, Op.equalIn]
  simp [go_sem, hu]
theorem hnil (b : Array Value) (W : World) : (binOp .eql 51 (.func (.func 22) #[] b) .nilFunc).run Try.prog W = .ok (.bool false) W := by
  simp [binOp, go_sem, equal_nil]

set_option maxRecDepth 100000 in
set_option maxHeartbeats 8000000 in
theorem all_any {B T M : Nat} {last : Int} {l : Row} {w : World} (h : Tab B T M last l w) (hlen : l.length < 1000000) (hlast : last < 1000000) (v : Value) (r : Row) (hv : RowSees v r w) (hr : r.map Prod.fst = l.map Prod.fst) (hE : ∀ p ∈ r, E.Sees p.2 p.1.es w) :
    Calls Try.prog 12 #[.pointer (some ⟨T, 0, none⟩), v] w fun e w' => e = .returned (.bool true) ∧ Below w.heap.size w w' := by
  have hrl : r.length = l.length := by have := congrArg List.length hr; simpa using this
  obtain ⟨oa, cap, hv, _, hc⟩ := hv
  rw [hrl] at hv
  subst hv
  have HRL := Lib.hid hrl
  clear hrl
  have HT := Lib.hid h; have HC := Lib.hid hc; have HE := Lib.hid hE; have HR := Lib.hid hr
  clear h hc hE hr
  have hB3 : Below w.heap.size w ((w.alloc (.cells #[.slice oa l.length cap] 26)).alloc (.cells #[.bool false] 4)) :=
    ((Below.refl _ w).alloc (Nat.le_refl _) _).alloc (by simp) _
  have hs3 : ((w.alloc (.cells #[.slice oa l.length cap] 26)).alloc (.cells #[.bool false] 4)).heap.size = w.heap.size + 2 := by simp
  have b0 := (Boxed.new w 26 (.slice oa l.length cap)).alloc (.cells #[.bool false] 4)
  have b1 := Boxed.new (w.alloc (.cells #[.slice oa l.length cap] 26)) 4 (.bool false)
  simp only [World.size_alloc] at b1
  have call := All_any (HT.out.below hB3) hlen hlast
  refine (callsIn_wide (n := 5)).1 ?_
  refine callsIn_of_wp_marks Try.func12 rfl trivial ?_ rfl
  simp only [Try.ntmps12, List.size_toArray, List.length_cons, List.length_nil, Nat.reduceAdd, Nat.reduceSub, Array.replicate_succ, Array.replicate_zero, List.push_toArray, List.append_toArray, List.nil_append, List.cons_append]
  gi_wp2_with fail
  generalize (w.alloc (.cells #[.slice oa l.length cap] 26)).alloc (.cells #[.bool false] 4) = W3 at b0 b1 hB3 hs3 call ⊢
  have HX := Lib.hid (And.intro b0 b1); have HB3 := Lib.hid hB3; have HS3 := Lib.hid hs3
  clear b0 b1 hB3 hs3
  gi_wp2_with (refine ⟨trivial, ?_⟩; gi_at_call 19; refine (callsIn_wide.2 call).mono ?_; rintro e w1 ⟨b9, u, rfl, hbx, hb9, hO, hb⟩
               have HO := Lib.hid hO
               have HBX := Lib.hid hbx
               have HB1 := Lib.hid hb
               have e0 := (Boxed.below HX.out.1 hb).cell
               have e1 := (Boxed.below HX.out.2 hb).cell
               have hne := hnil #[.pointer (some ⟨b9, 0, none⟩)]
               clear hbx hO hb)
  have hT1 := (HT.out.below HB3.out).below HB1.out
  have hdr : Below w1.heap.size w1 w1.drew := (Below.refl _ _).drew
  have hTd := hT1.below hdr
  have e0d : w1.drew.cell? ⟨w.heap.size, 0, none⟩ = some (.slice oa l.length cap) := e0
  refine wpIn_wide.2 ?_
  go_region_held3 (fun w' => w'.cell? ⟨w.heap.size, 0, none⟩ = some (.slice oa l.length cap) ∧ Tab B T M last l w') (exact ⟨e0d, hTd⟩) (first | (go_at_call 16; refine (Len_any hTd).mono ?_; rintro e w4 ⟨rfl, rfl⟩))
  gi_wp2_with fail
  have hb1d : Below w1.heap.size w1 (w1.alloc (.cells #[.int .i64 0] 3)).drew := ((Below.refl _ w1).alloc (Nat.le_refl _) _).drew
  have c0 := Boxed.below (Boxed.below HX.out.1 HB1.out) hb1d
  have c1 := Boxed.below (Boxed.below HX.out.2 HB1.out) hb1d
  have ck : Boxed (w1.alloc (.cells #[.int .i64 0] 3)).drew w1.heap.size 3 (.int .i64 0) := Boxed.new w1 3 (.int .i64 0)
  have hsz : (w1.alloc (.cells #[.int .i64 0] 3)).drew.heap.size = w1.heap.size + 1 := by
    show (w1.alloc (.cells #[.int .i64 0] 3)).heap.size = _
    simp
  have hs1 : w.heap.size + 2 ≤ w1.heap.size := by have := HS3.out; have := HB1.out.size; omega
  have hBW : Below w.heap.size w (w1.alloc (.cells #[.int .i64 0] 3)).drew := (below_two HB3.out HB1.out).trans (hb1d.mono (by omega))
  generalize (w1.alloc (.cells #[.int .i64 0] 3)).drew = W0 at hb1d c0 c1 ck hsz hBW ⊢
  have hEl : ∀ p ∈ l, E.Sees p.2 p.1.es w1 ∧ Fits p.1.es := fun p hp => ⟨(hT1.ents p hp).sees, hT1.fits p hp⟩
  have HTD := Lib.hid hTd
  have HH := Lib.hid hb1d
  have HEL := Lib.hid hEl
  obtain ⟨bk, hbk⟩ : ∃ bk, w1.heap.size = bk := ⟨_, rfl⟩
  rw [hbk] at ck hs1 hsz ⊢
  have HBK := Lib.hid hbk
  clear hbk e0 e1 e0d hne hT1 hTd hdr hb1d hEl
  refine range_in (by omega) (gf := 22) (lb := #[.pointer (some ⟨b9, 0, none⟩)]) rfl (enters_of Try.func22 (by kernel_rfl) rfl) (encs := fun y : Nd × Value => #[y.1.v y.2]) (fun _ => rfl)
    (l.map Prod.fst) GN w1.heap.size HH.out.size (all_yields _ (by omega) HH.out hlen HBX.out HO.out.sees HEL.out)
    (fun k W => k ≤ l.length ∧ Boxed W w.heap.size 26 (.slice oa l.length cap) ∧ Boxed W (w.heap.size + 1) 4 (.bool false) ∧ Boxed W bk 3 (.int .i64 k) ∧ Below w.heap.size w W)
    (OwnFrom.and (ownFrom_pure _ _) (OwnFrom.and (Own.from (boxed_own _ _ (fun _ => .slice oa l.length cap)) _) (OwnFrom.and (Own.from (boxed_own _ _ (fun _ => .bool false)) _) (OwnFrom.and (Own.from (boxed_own _ _ (fun k : Nat => .int .i64 k)) _) (ownFrom_below (Nat.le_refl _) (by omega))))))
    ⟨Nat.zero_le _, c0, c1, ck, hBW⟩ (fun x y a' W => GN x y W ∧ ∃ X, bk < X ∧ BoxN X x y.2 W ∧ a' = { tmps := #[.pointer (some ⟨T, 0, none⟩), .slice oa l.length cap, undef, .pointer (some ⟨w.heap.size, 0, none⟩), .pointer (some ⟨w.heap.size + 1, 0, none⟩), (.func (.func 22) #[] #[.pointer (some ⟨b9, 0, none⟩)]), .pointer (some ⟨bk, 0, none⟩), .pointer (some ⟨X, 0, none⟩), .pointer (some ⟨T, 0, none⟩), (.func (.func 22) #[] #[.pointer (some ⟨b9, 0, none⟩)]), (.func (.func 22) #[] #[.pointer (some ⟨b9, 0, none⟩)]), .bool false, .bool false, .pointer (some ⟨T, 0, none⟩), .int .i64 l.length, .slice oa l.length cap, .int .i64 l.length, .bool false, .bool false, (.func (.func 22) #[] #[.pointer (some ⟨b9, 0, none⟩)]), y.1.v y.2, undef, undef, undef, undef, undef, undef, undef, undef, undef, undef, undef, undef, undef, undef, undef, undef, undef, undef, undef], defers := [] }) ?ax ?assign ?body ?done
  case ax =>
    rintro x y a' s W W' row ⟨hg, X, hX, hB, e⟩ hgr hr
    refine ⟨GN.own _ x y W W' row hg hgr hr, X, hX, ?_, e⟩
    unfold BoxN at hB ⊢
    refine (hgr.block X (Array.getElem?_eq_some_iff.1 hB).1 (fun e' => ?_)).trans hB
    obtain ⟨_, o, ho, hn⟩ := hr X e'.symm
    rw [hB] at ho; cases ho; cases hn
  case assign =>
    rintro j k x y W K hx hg ⟨i1, i2, i3, i4, i5⟩ hK
    obtain ⟨hg1, hgO⟩ := hg
    obtain ⟨ou, cu, hs⟩ := own_slice hgO
    obtain ⟨n, s⟩ := y
    dsimp only at hg1 hgO hs
    subst hg1
    subst hs
    have hlt := i4.lt
    have hbz : Below W.heap.size W (W.alloc (.cells #[.int .i64 n.no, .int .i64 n.dev, .int .i64 n.kind, .int .i64 n.mode, .int .i64 n.uid, .int .i64 n.gid, .int .i64 n.mt, .int .i64 n.ct, .int .i64 n.links, .int .i64 n.up, .string n.data, .slice ou n.es.length cu] 29)) := (Below.refl _ _).alloc (Nat.le_refl _) _
    have hbx := BoxN.new n (.slice ou n.es.length cu) W
    have hp := hK
    dsimp only [Nd.v]
    gi_wp2
    refine hK _ _ (KeepsFrom.of_grownBy (below_grown hbz) (fun j e => by cases e)) (hbz.mono (by have := HH.out.size; have := HBK.out; omega)) ⟨i1, Boxed.below i2 hbz, Boxed.below i3 hbz, Boxed.below i4 hbz, i5.trans (hbz.mono i5.size)⟩ ⟨⟨rfl, own_kept hgO (EntKept.below hbz)⟩, W.heap.size, hlt, hbx, rfl⟩
  case body =>
    rintro j k x y a' X0 hx ⟨⟨hg1, hgO⟩, X, hX, hB, rfl⟩ ⟨i1, i2, i3, i4, i5⟩
    obtain ⟨ou, cu, hs⟩ := own_slice hgO
    obtain ⟨n, s⟩ := y
    dsimp only at hg1 hgO hs hB
    subst hg1
    subst hs
    have hrx : (r.map Prod.fst)[k]? = some n := by rw [HR.out]; exact hx
    obtain ⟨p, hp, hpn⟩ : ∃ p, r[k]? = some p ∧ p.1 = n := by
      rw [List.getElem?_map] at hrx
      cases e : r[k]? with
      | none => rw [e] at hrx; cases hrx
      | some p => rw [e] at hrx; exact ⟨p, rfl, by simpa using hrx⟩
    have hkl : k < l.length := by have := (List.getElem?_eq_some_iff.1 hx).1; simpa using this
    obtain ⟨g, o, rfl, hat⟩ := HC.out k p hp
    have hsee := HE.out p (List.mem_of_getElem? hp)
    obtain ⟨oe, ce, hps⟩ : ∃ oa c, p.2 = .slice oa p.1.es.length c := by
      obtain ⟨oa, c, e, _⟩ := hsee
      exact ⟨oa, c, e⟩
    have hat2 := hat.below i5 hat.lt
    have hdr : Below X0.heap.size X0 X0.drew := (Below.refl _ _).drew
    obtain ⟨pn, ps⟩ := p
    dsimp only at hpn hps hsee hat2
    subst hpn
    subst hps
    have call := Same_any pn _ _ X0.drew ((own_kept hgO (EntKept.below hdr)).sees) (hsee.below (i5.trans (hdr.mono i5.size)))
    obtain ⟨no, dev, kind, mode, uid, gid, mt, ct, links, up, data, es⟩ := pn
    dsimp only [Nd.v] at call ⊢
    have r1 := i2.cell
    have rk := i4.cell
    have fk := i4.frozen
    obtain ⟨c0, c1, c2, c3, c4, c5, c6, c7, c8, c9, c10, c11⟩ := hat2.facts
    obtain ⟨d0, d1, d2, d3, d4, d5, d6, d7, d8, d9, d10, d11⟩ := hB.facts
    have I2 := Lib.hid i2; have I3 := Lib.hid i3; have I4 := Lib.hid i4; have I5 := Lib.hid i5
    have hmx : Try.prog.follows .mixedOrders = true := by kernel_rfl
    have hnk : ¬ l.length ≤ k := by omega
    have hki : (k : Int) < (l.length : Int) := by omega
    clear hat hat2 hB i2 i3 i4 i5 hx hrx hp hgO hsee hdr
    gi_wp2
    gi_region_with_o (refine ⟨trivial, ?_⟩; gi_at_call 14; refine (CallsIn.inRound j (callsIn_wide.2 call)).mono ?_; rintro e w5 ⟨rfl, hb5⟩)
    all_goals
      have hb6 : Below X0.heap.size X0 w5 := ((Below.refl _ X0).drew).trans hb5
      have i2 := Boxed.below I2.out hb6
      have i3 := Boxed.below I3.out hb6
      have i4 := Boxed.below I4.out hb6
      have rk5 := i4.cell
      have fk5 := i4.frozen
      have HI := Lib.hid (And.intro i2 (And.intro i3 i4))
      have HB6 := Lib.hid hb6
      clear c0 c1 c2 c3 c4 c5 c6 c7 c8 c9 c10 c11 d0 d1 d2 d3 d4 d5 d6 d7 d8 d9 d10 d11 r1 rk fk hb6 hb5 i2 i3 i4 call
      gi_wp2
      have hle : (((k + 1 : Nat)) : Int) = (k : Int) + 1 := by omega
      have hbs : bk ≤ X0.heap.size := Nat.le_of_lt I4.out.lt
      refine ⟨(KeepsFrom.of_grownBy (below_grown HB6.out) (fun j e => by cases e)).trans ((KeepsOthers.setCell _ _ _).from _), (HB6.out.mono (by have := HBK.out; omega)).setCell (p := ⟨bk, 0, none⟩) (Nat.le_of_eq HBK.out) _, hkl, HI.out.1.other (by omega) _, HI.out.2.1.other (by omega) _, ?_, (I5.out.trans (HB6.out.mono I5.out.size)).setCell (p := ⟨bk, 0, none⟩) (show w.heap.size ≤ bk by omega) _⟩
      rw [hle]; exact HI.out.2.2.set _
  case done =>
    clear c0 c1 ck hBW
    rintro Dd W hD ⟨hk, c0, c1, c4, hB⟩ hK
    rw [List.length_map] at c4
    have r1 := c0.cell
    have r2 := c1.cell
    have f2 := c1.frozen
    have r4 := c4.cell
    have HK := Lib.hid hK
    have hDl := (Array.getElem?_eq_some_iff.1 HK.out).1
    have hK2 := (RowKit.Below.heap_setCell W ⟨w.heap.size + 1, 0, none⟩ (.bool true) Dd (show Dd ≠ w.heap.size + 1 by omega)).trans HK.out
    have e2 := ((c1.set (.bool true)).kept (grownBy_putObj' _ Dd (.deferred none)) (by intro e; cases e; omega)).cell
    clear hK hk
    gi_wp2
    refine ⟨by simp, .inl ⟨_, _, rfl, run_takeDeferred hK2, ?_⟩⟩
    refine ⟨_, by simp [results, Try.results12, go_sem, e2], rfl, ?_⟩
    exact (hB.setCell (p := ⟨w.heap.size + 1, 0, none⟩) (show w.heap.size ≤ w.heap.size + 1 by omega) _).trans (belowK_b (n₀ := w.heap.size) (w := w) (Nat.le_refl _) _ Dd _ _ (by omega) hK2 rfl rfl)
end Go.Proofs.Ytjliinpjkhfdbaa.T
