/-
  The law's MountPlays.
-/
import Derived.Test.YtmoimijclafgcaaLsame
namespace Go.Proofs.Ytmoimijclafgcaa.G
open Go.RowKit Go.Shelf
attribute [local go_sem] Oper.semAt_some

/-- a deed -/
structure Dd where
  kind : Int
  no : Int
  data : ByteArray
def DdAt (g o : Nat) (x : Dd) (w : World) : Prop := w.cell? ⟨g, o, none⟩ = some (.int .i64 x.kind) ∧ w.cell? ⟨g, o + 1, none⟩ = some (.int .i64 x.no) ∧ w.cell? ⟨g, o + 2, none⟩ = some (.string x.data)
theorem DdAt.lt {g o : Nat} {x : Dd} {w : World} (h : DdAt g o x w) : g < w.heap.size := World.block_lt_of_cell? _ _ h.1
theorem DdAt.low {g o m : Nat} {x : Dd} {w w' : World} (h : DdAt g o x w) (hb : Below m w w') (hg : g < m) : DdAt g o x w' := by
  obtain ⟨c0, c1, c2⟩ := h
  refine ⟨?_, ?_, ?_⟩ <;> rw [hb.cell (by exact hg)] <;> assumption
theorem DdAt.turn {g o : Nat} {x : Dd} {w w' : World} {S : Nat → Prop} (h : DdAt g o x w) (ht : Turn S w w') (hg : ¬ S g) : DdAt g o x w' := by
  have hl := h.lt
  obtain ⟨c0, c1, c2⟩ := h
  refine ⟨?_, ?_, ?_⟩ <;> rw [ht.cell (by exact hl) (by exact hg)] <;> assumption
def DdSees (v : Value) (ls : List Dd) (w : World) : Prop :=
  ∃ oa cap, v = .slice oa ls.length cap ∧ (ls.length ≤ cap ∧ cap ≤ maxLen) ∧ ∀ k x, ls[k]? = some x → T.Wf x.no ∧ ∃ g o, oa = some ⟨g, o, none⟩ ∧ DdAt g (o + k * 3) x w
theorem DdSees.below {v : Value} {ls : List Dd} {w w' : World} (h : DdSees v ls w) (hb : Below w.heap.size w w') : DdSees v ls w' := by
  obtain ⟨oa, cap, e, hm, hc⟩ := h
  refine ⟨oa, cap, e, hm, fun k x hk => ?_⟩
  obtain ⟨hw, g, o, e, h0⟩ := hc k x hk
  exact ⟨hw, g, o, e, h0.low hb h0.lt⟩
/-- a deed in both worlds -/
def deed (st : St) (x : Dd) : St := if x.kind = 0 then (kill st x.no).1 else if x.kind = 1 then (fill st x.no x.data).1 else (mount st x.no x.data.size x.data.size).1
theorem deed_inv {st : St} (h : Inv st) (x : Dd) (hx : x.data.size ≤ 3000) : Inv (deed st x) ∧ (deed st x).last ≤ st.last + 1 := by
  unfold deed
  split
  · refine ⟨h.kills _, ?_⟩
    unfold kill; split <;> (show st.last ≤ _; omega)
  · split
    · refine ⟨h.fills _ _ (by omega), ?_⟩
      unfold fill; split
      · split <;> (show st.last ≤ _; omega)
      · show st.last ≤ _; omega
    · exact ⟨h.mounted _ _ _, (mount_last _ _ _ _).2⟩
section
variable {B X A M F : Nat} {mv nv dv : Value} {st : St} {w w' : World}
theorem Fs.slices (h : Fs B F nv dv st w) : (∃ oa c, nv = .slice oa st.n.length c) ∧ ∃ oa c, dv = .slice oa st.d.length c := ⟨h.nlen, h.dlen⟩
def SD (b : Nat) (x : Dd) (w : World) : Prop := w.cell? ⟨b, 0, none⟩ = some (.int .i64 x.kind) ∧ w.cell? ⟨b, 1, none⟩ = some (.int .i64 x.no) ∧ w.cell? ⟨b, 2, none⟩ = some (.string x.data)
theorem SD.new (x : Dd) (w : World) : SD w.heap.size x (w.alloc (.cells #[.int .i64 x.kind, .int .i64 x.no, .string x.data] 33)) := by
  refine ⟨?_, ?_, ?_⟩ <;> (rw [World.cell?_alloc_new]; rfl)
theorem SD.turn {b : Nat} {x : Dd} {w w' : World} {S : Nat → Prop} (h : SD b x w) (ht : Turn S w w') (hg : ¬ S b) : SD b x w' := by
  have hl : b < w.heap.size := World.block_lt_of_cell? _ _ h.1
  obtain ⟨c0, c1, c2⟩ := h
  refine ⟨?_, ?_, ?_⟩ <;> rw [ht.cell (by exact hl) (by exact hg)] <;> assumption
def SQ (F g i : Nat) (v : Value) (q : U.Sp) (w0 w : World) : Prop := w.cell? ⟨F, 1, none⟩ = some v ∧ w.cell? ⟨g, i * 6 + 2, none⟩ = some (.int .i64 q.b) ∧ w.cell? ⟨g, i * 6 + 2 + 1, none⟩ = some (.int .i64 q.n) ∧
  w.cell? ⟨g, i * 6 + 2 + 2, none⟩ = some (.int .i64 q.mb) ∧ w.cell? ⟨g, i * 6 + 2 + 3, none⟩ = some (.int .i64 q.mn) ∧ Below w0.heap.size w0 w
theorem SQ.below {F g i : Nat} {v : Value} {q : U.Sp} {w0 w w' : World} (h : SQ F g i v q w0 w) (hb : Below w.heap.size w w') : SQ F g i v q w0 w' := by
  obtain ⟨c0, c1, c2, c3, c4, hl⟩ := h
  have h1 : F < w.heap.size := World.block_lt_of_cell? _ _ c0
  have h2 : g < w.heap.size := World.block_lt_of_cell? _ _ c1
  refine ⟨?_, ?_, ?_, ?_, ?_, below_two hl hb⟩
  · rw [hb.cell (by exact h1)]; exact c0
  · rw [hb.cell (by exact h2)]; exact c1
  · rw [hb.cell (by exact h2)]; exact c2
  · rw [hb.cell (by exact h2)]; exact c3
  · rw [hb.cell (by exact h2)]; exact c4
set_option maxRecDepth 100000 in
set_option maxHeartbeats 16000000 in
theorem plays_any {a c : Int} (ha : 0 ≤ a ∧ a ≤ 65535) (hc : 0 ≤ c ∧ c ≤ 65535) {v u : Value} {ls : List It} {ds : List Dd} {w : World} (hS : ItSees v ls w) (hD : DdSees u ds w) :
    Calls Try.prog 3 #[.agg #[.int .u16 a, .int .u16 c], v, u] w fun e w' => e = .returned (.bool true) ∧ Below w.heap.size w w' := by
  have hb1 : Below w.heap.size w (w.alloc (.cells #[.int .u16 a, .int .u16 c] 23)) := (Below.refl _ _).alloc (Nat.le_refl _) _
  have q0 : (w.alloc (.cells #[.int .u16 a, .int .u16 c] 23)).cell? ⟨w.heap.size, 0, none⟩ = some (.int .u16 a) := by rw [World.cell?_alloc_new]; rfl
  have q1 : (w.alloc (.cells #[.int .u16 a, .int .u16 c] 23)).cell? ⟨w.heap.size, 1, none⟩ = some (.int .u16 c) := by rw [World.cell?_alloc_new]; rfl
  have hS1 := hS.below hb1
  have HD := Lib.hid hD
  obtain ⟨oi, ci, rfl, hmi, _⟩ := hS
  obtain ⟨od, cd, rfl, hmd, _⟩ := hD
  have cF := few_any hS1 (by have := hmi.1; have := hmi.2; unfold maxLen at this; omega)
  have hlim : limits (a + 1) (c + 1) = true := by unfold limits U.btw; simp; omega
  have cG := fun hf => Grow_any (a + 1) (c + 1) hlim hS1 hf
  have hA := fun W => awake_any W
  have hdl : (ds.length : Int) ≤ 9223372036854775807 := by have := hmd.1; have := hmd.2; unfold maxLen at this; omega
  clear hlim hmi hmd
  go_enter Try.func3, Try.ntmps3
  go_upto_region 1 with fail
  generalize w.alloc (.cells #[.int .u16 a, .int .u16 c] 23) = W1 at *
  cases hf : few ls with
  | false =>
    rw [hf] at cF
    have cA := hA W1
    clear cG hA hS1
    go_wp2_with (first
      | (go_at_call 5; refine cF.mono ?_; rintro e w2 ⟨rfl, rfl⟩)
      | (go_at_call 6; refine cA.mono ?_; rintro e w3 ⟨rfl, hb3⟩))
    go_ret
    exact ⟨rfl, hb1.trans (hb3.mono hb1.size)⟩
  | true =>
    rw [hf] at cF
    by_cases h40 : ds.length ≤ 40
    · have h40' : decide ((40 : Int) < (ds.length : Int)) = false := by simp; omega
      have cG1 := cG hf
      obtain ⟨hf1, hf2⟩ := few_iff.1 hf
      obtain ⟨hGr, hg1, hg2⟩ := grown_all (grown_new (a + 1) (c + 1)) ls (fun i hi => (hf1 i hi).2) (by show (1 : Int) + _ < _; omega)
      have hg3 : (growAll (begin_ bare 1 (a + 1) (c + 1)) ls).last ≤ 41 := by
        have : (begin_ bare 1 (a + 1) (c + 1)).last = 1 := rfl
        omega
      have HI := Lib.hid hGr.inv
      generalize growAll (begin_ bare 1 (a + 1) (c + 1)) ls = st0 at *
      clear cG hS1 hf1 hf2 hf hg1 hg2 hGr
      have hw1 : IntKind.i64.wrap (a + 1) = a + 1 := wrap_id (by omega) (by omega)
      have hw2 : IntKind.i64.wrap (c + 1) = c + 1 := wrap_id (by omega) (by omega)
      go_upto_region 4 with (first
        | (go_at_call 5; refine cF.mono ?_; rintro e w2 ⟨rfl, rfl⟩)
        | (go_at_call 7; refine cG1.mono ?_; rintro e w2 ⟨X, A, M, F, rfl, hBo, hb2⟩))
      have hB1 := hb1.size
      have hbb := hb1.trans (hb2.mono hB1)
      have HBo := Lib.hid hBo
      have HBB := Lib.hid hbb
      clear hBo hbb hb2 cG1 cF q0 q1 hw1 hw2
      obtain ⟨B, hB⟩ : ∃ b, W1.heap.size = b := ⟨_, rfl⟩
      rw [hB] at HBo hB1
      have hdl2 : (ds.length : Int) ≤ 40 := by omega
      go_wp2
      go_loopw [10] (fun i wr => ∃ (k : Nat) (st : St), k ≤ ds.length ∧ i = .int .i64 k ∧ Inv st ∧ st.last ≤ 41 + k ∧ Both B X A M F st wr ∧ Below w.heap.size w wr) (fun i _ => ds.length - (RowKit.intOf i).toNat)
      case atStart => exact ⟨0, st0, Nat.zero_le _, rfl, HI.out, by omega, HBo.out, HBB.out⟩
      case round =>
        clear HBo HBB HI hg3
        obtain ⟨k, st, hk, rfl, hI, hl1, ⟨mv, nv, dv, hW, hF⟩, hb⟩ := hrel
        have HI := Lib.hid hI
        clear hI
        by_cases hlt : k < ds.length
        · obtain ⟨x, hx⟩ : ∃ x, ds[k]? = some x := ⟨_, List.getElem?_eq_getElem hlt⟩
          obtain ⟨oa, cap, he, hm, hcells⟩ := HD.out
          obtain ⟨hwf, g, o, rfl, hat⟩ := hcells k x hx
          cases he
          have hdw : DdAt g (o + k * 3) x wr := hat.low hb hat.lt
          have hlt' : (k : Int) < (ds.length : Int) := by omega
          obtain ⟨c0, c1, c2⟩ := hdw
          clear hcells hat hm hx
          have hb2 : Below wr.heap.size wr (wr.alloc (.cells #[.int .i64 x.kind, .int .i64 x.no, .string x.data] 33)) := (Below.refl _ _).alloc (Nat.le_refl _) _
          have d0 : (wr.alloc (.cells #[.int .i64 x.kind, .int .i64 x.no, .string x.data] 33)).cell? ⟨wr.heap.size, 0, none⟩ = some (.int .i64 x.kind) := by rw [World.cell?_alloc_new]; rfl
          have d1 : (wr.alloc (.cells #[.int .i64 x.kind, .int .i64 x.no, .string x.data] 33)).cell? ⟨wr.heap.size, 1, none⟩ = some (.int .i64 x.no) := by rw [World.cell?_alloc_new]; rfl
          have d2 : (wr.alloc (.cells #[.int .i64 x.kind, .int .i64 x.no, .string x.data] 33)).cell? ⟨wr.heap.size, 2, none⟩ = some (.string x.data) := by rw [World.cell?_alloc_new]; rfl
          have hW2 := hW.below hb2
          have hF2 := hF.below hb2
          by_cases h3 : x.data.size ≤ 3000
          · have h3' : decide ((3000 : Int) < (x.data.size : Int)) = false := by simp; omega
            obtain ⟨hI', hl'⟩ := deed_inv HI.out x h3
            obtain ⟨b, hbv⟩ : ∃ b, wr.heap.size = b := ⟨_, rfl⟩
            go_upto_region 12 with fail
            have hT := SD.new x wr
            generalize wr.alloc (.cells #[.int .i64 x.kind, .int .i64 x.no, .string x.data] 33) = W2 at *
            go_cut [12] (fun s12 wx => s12 = .bool true ∧ wx = W2)
            case first =>
              go_wp2
              go_meet
              case rel => exact ⟨rfl, rfl⟩
            case rest =>
            obtain ⟨rfl, rfl⟩ := hcut
            go_step
            go_step
            go_cut [12] (fun s12 wx => s12 = .bool true ∧ Both B X A M F (deed st x) wx ∧ Below B wr wx)
            case first =>
              have hlast : st.last < 100 := by omega
              have hlen : st.n.length < 100 := by have := HI.out.len; omega
              have hdd : (gets st.n x.no).data.size ≤ 2000000 := by
                cases hx : get st.n x.no with
                | none => rw [gets_none hx]; decide
                | some y => rw [gets_some hx]; exact HI.out.data y (get_some hx).1
              have hml := HI.out.mounts
              rw [hbv] at hT d0 d1 d2
              have T0 := hT
              have hnb : ¬ wS X A M mv b := fun e => by have := hW.lt e; omega
              have hnf : ¬ fS F nv dv b := fun e => by have := hF.lt e; omega
              have hBr : B ≤ wr.heap.size := Nat.le_trans hW.bx (Nat.le_of_lt hW.ltX)
              have hBc : B ≤ wc.heap.size := Nat.le_trans hBr hb2.size
              have hbw : Below B wr wc := hb2.mono hBr
              have hde : deed st x = if x.kind = 0 then (kill st x.no).1 else if x.kind = 1 then (fill st x.no x.data).1 else (mount st x.no x.data.size x.data.size).1 := rfl
              clear hW hF hb hb2 HD hA hI' hl'
              by_cases k0 : x.kind = 0
              · rw [if_pos k0] at hde
                have k0' : (x.kind == 0) = true := by simpa using k0
                obtain ⟨r, hr⟩ : ∃ r, kill st x.no = r := ⟨_, rfl⟩
                have cp := fun W (hW : Wd B X A M mv st W) => Kill_any hW x.no hwf hdd (by omega)
                have cf := fun W (hF : Fs B F nv dv st W) (hBW : B ≤ W.heap.size) => refKill_any HI.out hF x.no hBW (by omega)
                rw [hr] at cp cf hde
                obtain ⟨st', kb⟩ := r
                dsimp only at cp cf hde
                have HDE := Lib.hid hde
                clear hr hde
                have hdr := (Below.refl wc.heap.size wc).drew
                have hWd := hW2.below hdr
                have hFd := hF2.below hdr
                have T1 : SD b x wc.drew := hT.turn (S := fun _ => False) (Turn.of_below hdr) (fun e => e)
                have hB2 : B ≤ wc.drew.heap.size := Nat.le_trans hBc hdr.size
                have cp1 := cp _ hWd
                clear cp
                go_wp2_with fail
                go_region_held3 (fun w' => w'.cell? ⟨b, 0, none⟩ = some (.int .i64 x.kind) ∧ w'.cell? ⟨b, 1, none⟩ = some (.int .i64 x.no) ∧ w'.cell? ⟨b, 2, none⟩ = some (.string x.data)) (first | exact T3 | exact T2 | exact T1 | exact T0)
                  (first
                    | (go_at_call 8; refine cp1.mono ?_; rintro e w3 ⟨rfl, hW3, t3⟩; have hF3 := hFd.beside hWd t3; have T2 := T1.turn t3 hnb; have hB3 := Nat.le_trans hB2 t3.size; have cf3 := cf _ hF3 hB3)
                    | (go_at_call 9; refine cf3.mono ?_; rintro e w4 ⟨rfl, nv4, hF4, t4, k4⟩; have T3 := T2.turn t4 hnf))
                go_wp2
                go_meet
                case rel => exact ⟨by simp, by rw [HDE.out]; exact ⟨mv, _, dv, hW3.beside hF3 t4, hF4⟩, ((hbw.trans (hdr.mono hBc)).trans (hWd.ofTurn t3 hB2)).trans (hF3.ofTurn t4 hB3)⟩
              · rw [if_neg k0] at hde
                have k0' : (x.kind == 0) = false := by simpa using k0
                by_cases k1 : x.kind = 1
                · rw [if_pos k1] at hde
                  have k1' : (x.kind == 1) = true := by simpa using k1
                  obtain ⟨r, hr⟩ : ∃ r, fill st x.no x.data = r := ⟨_, rfl⟩
                  have cp := fun W (hW : Wd B X A M mv st W) => Fill_any hW x.no x.data hwf hdd (by omega) (by omega)
                  have cf := fun W (hF : Fs B F nv dv st W) (hBW : B ≤ W.heap.size) => refFill_any HI.out hF x.no x.data (by omega) (by omega)
                  rw [hr] at cp cf hde
                  obtain ⟨st', kb⟩ := r
                  dsimp only at cp cf hde
                  have HDE := Lib.hid hde
                  clear hr hde
                  have hdr := (Below.refl wc.heap.size wc).drew
                  have hWd := hW2.below hdr
                  have hFd := hF2.below hdr
                  have T1 : SD b x wc.drew := hT.turn (S := fun _ => False) (Turn.of_below hdr) (fun e => e)
                  have hB2 : B ≤ wc.drew.heap.size := Nat.le_trans hBc hdr.size
                  have cp1 := cp _ hWd
                  clear cp
                  go_wp2_with fail
                  go_region_held3 (fun w' => w'.cell? ⟨b, 0, none⟩ = some (.int .i64 x.kind) ∧ w'.cell? ⟨b, 1, none⟩ = some (.int .i64 x.no) ∧ w'.cell? ⟨b, 2, none⟩ = some (.string x.data)) (first | exact T3 | exact T2 | exact T1 | exact T0)
                    (first
                      | (go_at_call 10; refine cp1.mono ?_; rintro e w3 ⟨rfl, hW3, t3⟩; have hF3 := hFd.beside hWd t3; have T2 := T1.turn t3 hnb; have hB3 := Nat.le_trans hB2 t3.size; have cf3 := cf _ hF3 hB3)
                      | (go_at_call 11; refine cf3.mono ?_; rintro e w4 ⟨rfl, hF4, t4⟩; have T3 := T2.turn t4 hnf))
                  go_wp2
                  go_meet
                  case rel => exact ⟨by simp, by rw [HDE.out]; exact ⟨mv, _, dv, hW3.beside hF3 t4, hF4⟩, ((hbw.trans (hdr.mono hBc)).trans (hWd.ofTurn t3 hB2)).trans (hF3.ofTurn t4 hB3)⟩
                · rw [if_neg k1] at hde
                  have k1' : (x.kind == 1) = false := by simpa using k1
                  obtain ⟨r, hr⟩ : ∃ r, mount st x.no x.data.size x.data.size = r := ⟨_, rfl⟩
                  have cp := Mount_any hW2 x.no x.data.size x.data.size hwf hBc (by omega) (by omega) (by omega)
                  have cf := fun W (hF : Fs B F nv dv st W) (hBW : B ≤ W.heap.size) => refMount_any HI.out hF x.no x.data.size x.data.size hBW (by omega) (by omega)
                  rw [hr] at cp cf hde
                  obtain ⟨st', rx, ry⟩ := r
                  dsimp only at cp cf hde
                  have HDE := Lib.hid hde
                  clear hr hde
                  go_upto_region 15 with (go_at_call 12; refine cp.mono ?_; rintro e w4 ⟨rfl, ⟨mv4, hW4⟩, t4⟩)
                  have hF4 := hF2.beside hW2 t4
                  have T4 := hT.turn t4 hnb
                  have hB4 : B ≤ w4.heap.size := Nat.le_trans hBc t4.size
                  have cf4 := cf w4 hF4 hB4
                  obtain ⟨e0, e1, e2⟩ := T4
                  clear cf cp d0 d1 d2 c0 c1 c2
                  go_wp2_with (go_at_call 13; refine cf4.mono ?_; rintro e w5 ⟨rfl, nv5, dv5, hF5, t5, k5⟩)
                  go_meet
                  case rel => exact ⟨by simp, by rw [HDE.out]; exact ⟨mv4, nv5, dv5, hW4.beside hF4 t5, hF5⟩, (hbw.trans (hW2.ofTurn t4 hBc)).trans (hF4.ofTurn t5 hB4)⟩
            case rest =>
              obtain ⟨rfl, ⟨mv2, nv2, dv2, hW5, hF5⟩, hbx⟩ := hcut
              have hbt := hb.trans (hbx.mono (by have := hW.bx; have := hW.ltX; omega))
              clear hW hF hW2 hF2 hT d0 d1 d2 c0 c1 c2 hb2 hA HI hbx hb h3 h3'
              generalize deed st x = st2 at *
              have HI2 := Lib.hid hI'
              have HW := Lib.hid hW5; have HF := Lib.hid hF5
              obtain ⟨oa2, ca2, rfl⟩ := hF5.nlen
              obtain ⟨od2, cd2, rfl⟩ := hF5.dlen
              have x0 := hF5.facts.1
              have x1 := hF5.facts.2.1
              have hX0 := hW5.facts.1
              have hFl := hF5.ltF
              have hd1 : ((st2.d.length : Int) != (st2.d.length : Int)) = false := by simp
              have hd2 : ((st2.n.length : Int) != (st2.n.length : Int)) = false := by simp
              have cdv := fun m => (Devs_any (hW5.below (E.below_drewN m))).mono fun _ _ h => (⟨h.1, h.2.symm⟩ : _ ∧ _)
              have cln := fun m => (Len_st (hW5.below (E.below_drewN m))).mono fun _ _ h => (⟨h.1, h.2.symm⟩ : _ ∧ _)
              have hml := hI'.mounts
              have HBT := Lib.hid hbt
              clear hW5 hF5 hI' hbt
              go_wp2
              go_quiet (first
                | (go_at_call 14; exact Calls.quiet_of_same (cdv _))
                | (go_at_call 15; exact Calls.quiet_of_same (cln _)))
              clear cdv cln hd1 hd2
              go_wp2
              go_loopw [17] (fun s wr => ∃ j : Int, s = .int .i64 j ∧ 1 ≤ j ∧ j ≤ st2.d.length + 1 ∧ Below wc.heap.size wc wr) (fun s _ => ((st2.d.length : Int) + 1 - RowKit.intOf s).toNat)
              case atStart => exact ⟨1, rfl, Int.le_refl _, by omega, E.below_drewN _⟩
              case round =>
                obtain ⟨j, rfl, hj1, hj2, hb⟩ := hrel
                have y1 := (hb.cell (p := ⟨F, 1, none⟩) hFl).trans x1
                by_cases hjl : j ≤ st2.d.length
                · have hjl' := hjl
                  obtain ⟨m, hm⟩ := mt_in (d := st2.d) (k := j) (by omega) (by omega)
                  obtain ⟨h3, h4, h5⟩ := mt_some hm
                  obtain ⟨i, hi⟩ : ∃ i, (j - 1).toNat = i := ⟨_, rfl⟩
                  rw [hi] at h5
                  obtain ⟨g2, cap', he, q0, q2, q3, q4, q5, qf⟩ := (HF.out.below hb).mount h5
                  cases he
                  have h6 : j - 1 = (i : Int) := by omega
                  have h7 : (i : Int) < st2.d.length := by omega
                  have h8 : (0 : Int) ≤ (i : Int) := by omega
                  have h9 : IntKind.i64.wrap (j - 1) = (i : Int) := by rw [h6]; exact wrap_id (by omega) (by omega)
                  have h12 : i < st2.d.length := by omega
                  have h13 : IntKind.i64.wrap (i : Int) = (i : Int) := wrap_id (by omega) (by omega)
                  have cu := Use_any ((HW.out.below hb).below ((Below.refl _ _).drew)) j
                  have hu0 : useOf st2.d j = m.q := by unfold useOf; rw [hm]
                  rw [hu0] at cu
                  have hgl : g2 < wr.heap.size := World.block_lt_of_cell? _ _ q0
                  generalize m.q = q at *
                  obtain ⟨qb, qn, qm, qk⟩ := q
                  dsimp only [U.Sp.v] at cu q2 q3 q4 q5
                  have T0 : SQ F g2 i (.slice (some ⟨g2, 0, none⟩) st2.d.length cd2) ⟨qb, qn, qm, qk⟩ wc wr := ⟨y1, q2, q3, q4, q5, hb⟩
                  have T1 := T0.below ((Below.refl _ _).drew)
                  clear hi hm h3 h4 h5 hu0 q0 q2 q3 q4 q5 qf hgl hb
                  go_wp2_with fail
                  go_region_held3 (fun w' => w'.cell? ⟨F, 1, none⟩ = some (.slice (some ⟨g2, 0, none⟩) st2.d.length cd2) ∧ w'.cell? ⟨g2, i * 6 + 2, none⟩ = some (.int .i64 qb) ∧ w'.cell? ⟨g2, i * 6 + 2 + 1, none⟩ = some (.int .i64 qn) ∧ w'.cell? ⟨g2, i * 6 + 2 + 2, none⟩ = some (.int .i64 qm) ∧ w'.cell? ⟨g2, i * 6 + 2 + 3, none⟩ = some (.int .i64 qk) ∧ Below wc.heap.size wc w') (first | exact T2 | exact T1 | exact T0)
                    (first
                      | (go_at_call 16; refine cu.mono ?_; rintro e w3 ⟨rfl, hb5⟩; have T2 := T1.below hb5))
                  go_wp2
                  go_roundw
                  case rel => exact ⟨j + 1, by first | rfl | go_num, by omega, by omega, T2.2.2.2.2.2⟩
                  case measure => simp [RowKit.intOf]; omega
                · have hjl' := hjl
                  go_wp2
                  go_roundw
                  case rel => exact ⟨k + 1, st2, by omega, by go_num, HI2.out, by omega, ⟨mv2, _, _, HW.out.below hb, HF.out.below hb⟩, HBT.out.trans (hb.mono HBT.out.size)⟩
                  case measure => simp [RowKit.intOf]; omega
          · have h3' : decide ((3000 : Int) < (x.data.size : Int)) = true := by simp; omega
            have cA := hA
            clear hW hF hW2 hF2 HI HD hA
            go_wp2_with (go_at_call 6; refine (cA _).mono ?_; rintro e w3 ⟨rfl, hb3⟩)
            go_ret
            exact ⟨rfl, (hb.trans (hb2.mono hb.size)).trans (hb3.mono (Nat.le_trans hb.size hb2.size))⟩
        · have hlt' : ¬ (k : Int) < (ds.length : Int) := by omega
          have cA := hA wr
          clear hW hF HI HD hA
          go_wp2_with (go_at_call 6; refine cA.mono ?_; rintro e w3 ⟨rfl, hb3⟩)
          go_ret
          exact ⟨rfl, hb.trans (hb3.mono hb.size)⟩
    · have h40' : (40 : Int) < ds.length := by omega
      have cA := hA W1
      clear cG hA hS1
      go_wp2_with (first
        | (go_at_call 5; refine cF.mono ?_; rintro e w2 ⟨rfl, rfl⟩)
        | (go_at_call 6; refine cA.mono ?_; rintro e w3 ⟨rfl, hb3⟩))
      go_ret
      exact ⟨rfl, hb1.trans (hb3.mono hb1.size)⟩
end
end Go.Proofs.Ytmoimijclafgcaa.G
