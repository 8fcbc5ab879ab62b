/-
  A loop of the law's acts: BringPlays, from the program's contracts.
-/
import Derived.Test.YtenopnfclbegbaaGreatBdo
import Derived.Test.YtenopnfclbegbaaGreatBacs
import Derived.Test.YtenopnfclbegbaaGreatLall
namespace Go.Proofs.YtenopnfclbegbaaGreat.BR
open Go.RowKit Go.Shelf G
attribute [local go_sem] Oper.semAt_some

/-- the reference's clock is another one -/
theorem _root_.Go.Proofs.YtenopnfclbegbaaGreat.G.Fs.clock {B F : Nat} {ex : Ext} {nv dv : Value} {st : St} {w : World} (h : Fs ex B F nv dv st w) (t : Int) : Fs { ex with now := t } B F nv dv st (w.setCell ⟨F, 3, none⟩ (.int .i64 t)) := by
  obtain ⟨l, h1, h2, h3⟩ := h.nodes
  have hn : ∀ (b : Nat) (x : Array Value) (t' : TypeId) (mk : Nat × Nat), w.heap[b]? = some (.cells x t' mk) → t' ≠ 37 → (w.setCell ⟨F, 3, none⟩ (.int .i64 t)).heap[b]? = w.heap[b]? := fun b x t' mk hb ht => RowKit.Below.heap_setCell _ _ _ _ (fun e => by
    subst e
    rw [h.head] at hb
    cases hb
    exact ht rfl)
  refine ⟨h.bf, ?_, ⟨l, h1, row_same h2 fun g hg => ?_, fun p hp => T.own_kept (h3 p hp) (T.entKept_set h.head (by decide) _ _)⟩, h.devs.same fun g hg => ?_⟩
  · simp [World.setCell, Array.getElem?_modify, h.head]
  · obtain ⟨_, cur, hc⟩ := row_block h2 hg
    exact hn _ _ _ _ hc (by decide)
  · obtain ⟨_, cur, hc⟩ := h.devs.block hg
    exact hn _ _ _ _ hc (by decide)
theorem _root_.Go.Proofs.YtenopnfclbegbaaGreat.G.Fs.facts3 {B F : Nat} {ex : Ext} {nv dv : Value} {st : St} {w : World} (h : Fs ex B F nv dv st w) : w.cell? ⟨F, 3, none⟩ = some (.int .i64 ex.now) ∧ w.frozen? ⟨F, 3, none⟩ = false := by
  refine ⟨by rw [Lib.cell_of_heap h.head]; rfl, ?_⟩
  simp [World.frozen?, h.head]
/-- the acts, one after another -/
def playN (st : St) (ls : List Ac) : Nat → St
  | 0 => st
  | k + 1 => match ls[k]? with
    | some x => actSt (playN st ls k) (5 * (k : Int)) x
    | none => playN st ls k
theorem play_step {st : St} {ls : List Ac} {k : Nat} {x : Ac} (h : ls[k]? = some x) : playN st ls (k + 1) = actSt (playN st ls k) (5 * (k : Int)) x := by
  show (match ls[k]? with | some x => actSt (playN st ls k) (5 * (k : Int)) x | none => playN st ls k) = _
  rw [h]
theorem fine_play {m : Int} {st : St} {ls : List Ac} (h : Fine m st) (hs : ∀ a ∈ ls, a.text.size ≤ 2000) : ∀ k : Nat, m + k ≤ 900 → Fine (m + k) (playN st ls k)
  | 0, _ => by show Fine (m + ((0 : Nat) : Int)) st; simpa using h
  | k + 1, hk => by
    have ih := fine_play h hs k (by omega)
    show Fine _ (match ls[k]? with | some x => actSt (playN st ls k) (5 * (k : Int)) x | none => playN st ls k)
    cases e : ls[k]? with
    | none => exact ih.mono (by omega)
    | some x =>
      have := ih.acts (5 * (k : Int)) x (hs x (List.mem_of_getElem? e)) (by omega)
      exact this.mono (by omega)
/-- what is asked of the program -/
structure Plays : Prop where
  acts : ∀ {B X A M : Nat} {mv : Value} {st : St}, Fine 900 st → Brings B X A M mv st
  same : ∀ {ex : Ext} {B X A M F : Nat} {mv nv dv : Value} {st : St} {W : World}, Fine 900 st → Wd B X A M mv st W → Fs ex B F nv dv st W → Calls Tryz.prog 10 #[.pointer (some ⟨X, 0, none⟩), .pointer (some ⟨F, 0, none⟩)] W fun e w' => e = .returned (.bool true) ∧ Below W.heap.size W w'
  awake : ∀ W, Calls Tryz.prog 7 #[] W fun e w' => e = .returned (.bool true) ∧ Below W.heap.size W w'
theorem Few_any {v : Value} {ls : List It} {w : World} (hS : ItSees v ls w) : Calls Tryz.prog 5 #[v] w fun e w' => e = .returned (.bool (few ls)) ∧ w = w' := by
  have hl : ls.length ≤ 9223372036854775807 := by obtain ⟨_, _, _, hmm, _⟩ := hS; have := Nat.le_trans hmm.1 hmm.2; unfold maxLen at this; omega
  have cf := few_any hS hl
  obtain ⟨oa, cap, rfl, _, _⟩ := hS
  go_enter Tryz.func5, Tryz.ntmps5
  go_wp2_with (go_at_call 19; refine cf.mono ?_; rintro e w' ⟨rfl, rfl⟩)
  go_ret
  first | trivial | exact ⟨rfl, rfl⟩ | simp
set_option maxRecDepth 100000 in
set_option maxHeartbeats 32000000 in
theorem plays_any (hP : Plays) {qb qc : Int} (hqb : 0 ≤ qb ∧ qb ≤ 65535) (hqc : 0 ≤ qc ∧ qc ≤ 65535) {v lv : Value} {ls : List It} {acs : List Ac} {w : World} (hS : ItSees v ls w) (hA : AcSees lv acs w) :
    Calls Tryz.prog 3 #[.agg #[.int .u16 qb, .int .u16 qc], v, lv] w fun e w' => e = .returned (.bool true) ∧ Below w.heap.size w w' := by
  have hb1 : Below w.heap.size w (w.alloc (.cells #[.int .u16 qb, .int .u16 qc] 23)) := (Below.refl _ _).alloc (Nat.le_refl _) _
  go_enter Tryz.func3, Tryz.ntmps3
  go_upto_region 1 with fail
  have D1 : (w.alloc (.cells #[.int .u16 qb, .int .u16 qc] 23)).cell? ⟨w.heap.size, 0, none⟩ = some (.int .u16 qb) ∧ (w.alloc (.cells #[.int .u16 qb, .int .u16 qc] 23)).cell? ⟨w.heap.size, 1, none⟩ = some (.int .u16 qc) := by
    constructor <;> (rw [World.cell?_alloc_new]; rfl)
  have cF := Few_any (hS.below hb1)
  have cE := fewA_any (hA.below hb1)
  have cG := fun b c hlim hf => Grow_any b c hlim (hS.below hb1) hf
  have hAw := hA
  obtain ⟨oa, cap, rfl, _, hcells⟩ := hA
  obtain ⟨oi, ci, rfl, _, _⟩ := hS
  generalize w.alloc (.cells #[.int .u16 qb, .int .u16 qc] 23) = W1 at *
  cases hf : few ls with
  | false =>
    rw [hf] at cF
    have cA := hP.awake W1
    clear cG cE
    go_wp2_with (first
      | (go_at_call 5; refine cF.mono ?_; rintro e w2 ⟨rfl, rfl⟩)
      | (go_at_call 7; refine cA.mono ?_; rintro e w3 ⟨rfl, hb3⟩))
    go_ret
    exact ⟨rfl, below_two hb1 hb3⟩
  | true =>
    rw [hf] at cF
    cases he : fewA acs with
    | false =>
      rw [he] at cE
      have cA := hP.awake W1
      clear cG
      go_wp2_with (first
        | (go_at_call 5; refine cF.mono ?_; rintro e w2 ⟨rfl, rfl⟩)
        | (go_at_call 6; refine cE.mono ?_; rintro e w2 ⟨rfl, rfl⟩)
        | (go_at_call 7; refine cA.mono ?_; rintro e w3 ⟨rfl, hb3⟩))
      go_ret
      exact ⟨rfl, below_two hb1 hb3⟩
    | true =>
      rw [he] at cE
      obtain ⟨d0, d1⟩ := D1
      obtain ⟨x, hx, hx0, hx1⟩ : ∃ x, qb.tmod 200 = x ∧ 0 ≤ x ∧ x < 200 := ⟨_, rfl, by rw [Int.tmod_eq_emod_of_nonneg hqb.1]; omega, by rw [Int.tmod_eq_emod_of_nonneg hqb.1]; omega⟩
      obtain ⟨y, hy, hy0, hy1⟩ : ∃ y, qc.tmod 60 = y ∧ 0 ≤ y ∧ y < 60 := ⟨_, rfl, by rw [Int.tmod_eq_emod_of_nonneg hqc.1]; omega, by rw [Int.tmod_eq_emod_of_nonneg hqc.1]; omega⟩
      have hx2 : IntKind.u16.wrap x = x := by simp [IntKind.wrap, IntKind.signed, IntKind.bits]; omega
      have hy2 : IntKind.u16.wrap y = y := by simp [IntKind.wrap, IntKind.signed, IntKind.bits]; omega
      have hx3 : IntKind.i64.wrap x = x := wrap_id (by omega) (by omega)
      have hy3 : IntKind.i64.wrap y = y := wrap_id (by omega) (by omega)
      have hx4 : IntKind.i64.wrap (x + 1) = x + 1 := wrap_id (by omega) (by omega)
      have hy4 : IntKind.i64.wrap (y + 1) = y + 1 := wrap_id (by omega) (by omega)
      have cG1 := cG (x + 1) (y + 1) (by simp [limits, U.btw]; omega) hf
      clear cG
      go_upto_region 5 with (first
        | (go_at_call 5; refine cF.mono ?_; rintro e w2 ⟨rfl, rfl⟩)
        | (go_at_call 6; refine cE.mono ?_; rintro e w2 ⟨rfl, rfl⟩)
        | (go_at_call 8; refine cG1.mono ?_; rintro e W2 ⟨X, A, M, F, rfl, ⟨mv, nv, dv, hW, hF⟩, hb2⟩))
      have hB0 : Hid (w.heap.size ≤ W1.heap.size) := Lib.hid hb1.size
      have hfine := fine_grown (b := x + 1) (c := y + 1) hf
      have hb12 := hb1.trans (hb2.mono hB0.out)
      obtain ⟨hs1, hs2⟩ := fewA_iff.1 he
      generalize growAll (begin_ bare 1 (x + 1) (y + 1)) ls = st at *
      have HS := Lib.hid (fun (k : Nat) hk => fine_play hfine (fun a ha => (hs1 a ha).2.2) k hk)
      have HS1 := Lib.hid hs1
      have HC := Lib.hid hcells
      have HP := Lib.hid hP
      have HB := Lib.hid (hB0.out)
      obtain ⟨B0, hB0'⟩ : ∃ b, W1.heap.size = b := ⟨_, rfl⟩
      rw [hB0'] at hW hF HB hb2
      have HR : Hid (∃ ex nv', Wd B0 X A M mv (playN st acs 0) W2 ∧ Fs ex B0 F nv' dv (playN st acs 0) W2) := Lib.hid ⟨_, _, hW, hF⟩
      have HB2 : Hid (Below w.heap.size w W2 ∧ B0 ≤ W2.heap.size) := Lib.hid ⟨hb12, by rw [← hB0']; rw [← hB0'] at hb2; exact hb2.size⟩
      clear hs1 hfine hcells hP hB0 cF cE cG1 hW hF hAw hb12 hb2 hb1 hx hy hx0 hx1 hx2 hx3 hx4 hy0 hy1 hy2 hy3 hy4 hqb hqc d0 d1 hB0' hf he
      go_loopw [10] (fun i wr => ∃ k : Nat, k ≤ acs.length ∧ i = .int .i64 k ∧ (∃ ex nv', Wd B0 X A M mv (playN st acs k) wr ∧ Fs ex B0 F nv' dv (playN st acs k) wr) ∧ Below w.heap.size w wr ∧ B0 ≤ wr.heap.size) (fun i _ => acs.length - (RowKit.intOf i).toNat)
      case atStart => exact ⟨0, Nat.zero_le _, rfl, HR.out, HB2.out⟩
      case round =>
        obtain ⟨k, hk, rfl, ⟨ex, nv', hW, hF⟩, hb, hBk⟩ := hrel
        clear HR HB2
        by_cases hlt : k < acs.length
        · obtain ⟨a, ha⟩ : ∃ a, acs[k]? = some a := ⟨_, List.getElem?_eq_getElem hlt⟩
          obtain ⟨g, o, rfl, hat⟩ := HC.out k a ha
          have hfn := HS.out k (by omega)
          have hfn1 := HS.out (k + 1) (by omega)
          rw [play_step ha] at hfn1
          have hpl := play_step (st := st) ha
          obtain ⟨hn1, _, hn3⟩ := HS1.out a (List.mem_of_getElem? ha)
          generalize playN st acs k = sk at *
          have hfg : w.heap.size ≤ F := Nat.le_trans HB.out hF.bf
          have hF5 := hF.clock (5 * (k : Int))
          have hW5 := hW.beside hF (Fs.turnF wr 3 (.int .i64 (5 * (k : Int))))
          have hb5 := hb.setCell (p := ⟨F, 3, none⟩) hfg (.int .i64 (5 * (k : Int)))
          have hB5 : B0 ≤ (wr.setCell ⟨F, 3, none⟩ (.int .i64 (5 * (k : Int)))).heap.size := by rw [World.size_setCell]; exact hBk
          obtain ⟨x3, y3⟩ := hF.facts3
          have hw5 : IntKind.i64.wrap (5 * (k : Int)) = 5 * (k : Int) := wrap_id (by omega) (by omega)
          have cd := do_any (HP.out.acts (hfn.mono (by omega))) hfn.inv hfn.links hW5 hF5 hfn.one (by have := hfn.last; omega) hB5 a hn1 hn3
          have hat5 := hat.below hb5 hat.lt
          have HPL := Lib.hid hpl
          have HFN1 := Lib.hid hfn1
          clear hat hW hF hb hBk hfn hfn1 hn1 hn3 ha hpl hW5 hF5
          go_upto_region 10 with fail
          generalize wr.setCell ⟨F, 3, none⟩ (.int .i64 (5 * (k : Int))) = W5 at *
          obtain ⟨c0, c1, c2, c3, c4, c5, c6, c7, c8, c9⟩ := hat5
          dsimp only [Ac.v] at cd
          have cw := fun nv6 W hW6 hF6 => HP.out.same (ex := { ex with now := 5 * (k : Int) }) (B := B0) (X := X) (A := A) (M := M) (F := F) (mv := mv) (dv := dv) (nv := nv6) (W := W) (HFN1.out.mono (by omega)) hW6 hF6
          go_wp2_with (first
            | (go_at_call 9; refine cd.mono ?_; rintro e W6 ⟨rfl, nv6, hW6, hF6, hb6⟩; have cw6 := cw nv6 W6 hW6 hF6)
            | (go_at_call 10; refine cw6.mono ?_; rintro e W7 ⟨rfl, hb7⟩))
          have hB6 : B0 ≤ W6.heap.size := Nat.le_trans hB5 hb6.size
          have hrel2 : (∃ ex nv', Wd B0 X A M mv (playN st acs (k + 1)) W7 ∧ Fs ex B0 F nv' dv (playN st acs (k + 1)) W7) ∧ Below w.heap.size w W7 ∧ B0 ≤ W7.heap.size := by
            rw [HPL.out]
            exact ⟨⟨_, nv6, hW6.below hb7, hF6.below hb7⟩, (hb5.trans (hb6.mono HB.out)).trans (hb7.mono (Nat.le_trans HB.out hB6)), Nat.le_trans hB6 hb7.size⟩
          clear cw cw6 cd hW6 hF6 hb6 hb7 hb5
          go_roundw
          case rel => exact ⟨k + 1, by omega, by go_num, hrel2⟩
          case measure => simp [RowKit.intOf]; omega
        · clear hW hF
          have cA := HP.out.awake wr
          go_wp2_with (go_at_call 7; refine cA.mono ?_; rintro e w3 ⟨rfl, hb3⟩)
          go_ret
          exact ⟨rfl, hb.trans (hb3.mono (Nat.le_trans HB.out hBk))⟩
end Go.Proofs.YtenopnfclbegbaaGreat.BR
