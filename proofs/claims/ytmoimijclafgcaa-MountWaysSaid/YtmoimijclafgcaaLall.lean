/-
  The law's few and Grow.
-/
import Derived.Test.YtmoimijclafgcaaGgrow
namespace Go.Proofs.Ytmoimijclafgcaa.G
open Go.RowKit Go.Shelf
attribute [local go_sem] Oper.semAt_some

/-- the eight cells of an item at a place -/
def ItAt (g o : Nat) (i : It) (w : World) : Prop := w.cell? ⟨g, o, none⟩ = some (.int .i64 i.dir) ∧ w.cell? ⟨g, o + 1, none⟩ = some (.string ⟨i.name.toArray⟩) ∧ w.cell? ⟨g, o + 2, none⟩ = some (.int .i64 i.kind) ∧ w.cell? ⟨g, o + 3, none⟩ = some (.int .i64 i.mode) ∧
  w.cell? ⟨g, o + 4, none⟩ = some (.int .i64 i.uid) ∧ w.cell? ⟨g, o + 5, none⟩ = some (.int .i64 i.gid) ∧ w.cell? ⟨g, o + 6, none⟩ = some (.string i.data) ∧ w.cell? ⟨g, o + 7, none⟩ = some (.int .i64 i.n)
/-- who reads this slice sees these items -/
def ItSees (v : Value) (ls : List It) (w : World) : Prop :=
  ∃ oa cap, v = .slice oa ls.length cap ∧ (ls.length ≤ cap ∧ cap ≤ maxLen) ∧ ∀ k x, ls[k]? = some x → ∃ g o, oa = some ⟨g, o, none⟩ ∧ ItAt g (o + k * 8) x w
theorem ItAt.lt {g o : Nat} {i : It} {w : World} (h : ItAt g o i w) : g < w.heap.size := World.block_lt_of_cell? _ _ h.1
theorem ItAt.below {g o m : Nat} {i : It} {w w' : World} (h : ItAt g o i w) (hb : Below m w w') (hg : g < m) : ItAt g o i w' := by
  obtain ⟨c0, c1, c2, c3, c4, c5, c6, c7⟩ := h
  refine ⟨?_, ?_, ?_, ?_, ?_, ?_, ?_, ?_⟩ <;> rw [hb.cell (by exact hg)] <;> assumption
theorem ItSees.below {v : Value} {ls : List It} {w w' : World} (h : ItSees v ls w) (hb : Below w.heap.size w w') : ItSees v ls w' := by
  obtain ⟨oa, cap, rfl, hm, hc⟩ := h
  refine ⟨oa, cap, rfl, hm, fun k x hk => ?_⟩
  obtain ⟨g, o, e, h0⟩ := hc k x hk
  exact ⟨g, o, e, h0.below hb h0.lt⟩
theorem itSees_none (oa : Option Addr) (c : Nat) (hc : c ≤ maxLen) (w : World) : ItSees (.slice oa 0 c) [] w := ⟨oa, c, rfl, ⟨Nat.zero_le _, hc⟩, fun k x h => by simp at h⟩
def short (i : It) : Bool := decide (i.name.length ≤ 300) && decide (i.data.size ≤ 2000)
def few (ls : List It) : Bool := ls.all short && decide (ls.length ≤ 40)
theorem few_iff {ls : List It} : few ls = true ↔ (∀ i ∈ ls, i.name.length ≤ 300 ∧ i.data.size ≤ 2000) ∧ ls.length ≤ 40 := by
  unfold few short
  simp [List.all_eq_true]
theorem size_list (l : List UInt8) : (⟨l.toArray⟩ : ByteArray).size = l.length := by show l.toArray.size = _; simp
set_option maxRecDepth 100000 in
set_option maxHeartbeats 4000000 in
theorem few_any {v : Value} {ls : List It} {w : World} (hS : ItSees v ls w) (hl : ls.length ≤ 9223372036854775807) :
    Calls Try.prog 5 #[v] w fun e w' => e = .returned (.bool (few ls)) ∧ w = w' := by
  obtain ⟨oa, cap, rfl, _, hcells⟩ := hS
  have HC := Lib.hid hcells
  clear hcells
  have hall : few ls = (ls.all short && decide (ls.length ≤ 40)) := rfl
  have HA := Lib.hid hall
  clear hall
  generalize few ls = z at *
  go_enter Try.func5, Try.ntmps5
  go_wp2
  go_loopw [3] (fun i wr => ∃ k : Nat, k ≤ ls.length ∧ i = .int .i64 k ∧ (∀ y ∈ ls.take k, short y = true) ∧ wr = w) (fun i _ => ls.length - (RowKit.intOf i).toNat)
  case atStart => exact ⟨0, Nat.zero_le _, rfl, fun y hy => by simp at hy, rfl⟩
  case round =>
    obtain ⟨k, hk, rfl, hno, rfl⟩ := hrel
    have HB := Lib.hid hno
    clear hno
    by_cases hlt : k < ls.length
    · obtain ⟨x, hx⟩ : ∃ x, ls[k]? = some x := ⟨_, List.getElem?_eq_getElem hlt⟩
      obtain ⟨g, o, rfl, c0, c1, c2, c3, c4, c5, c6, c7⟩ := HC.out k x hx
      have HX := Lib.hid hx
      clear hx
      have hs1 := size_list x.name
      have hlast : Hid (short x = false → z = false) := Lib.hid fun e => by
        rw [HA.out, List.all_eq_false.2 ⟨x, List.mem_of_getElem? HX.out, by rw [e]; simp⟩]; rfl
      have hstep : Hid (short x = true → ∀ y ∈ ls.take (k + 1), short y = true) := Lib.hid fun e y hy => by
        rw [List.take_add_one, HX.out] at hy
        rcases List.mem_append.1 hy with hy | hy
        · exact HB.out y hy
        · simp at hy; subst hy; exact e
      have hsx : short x = (decide (x.name.length ≤ 300) && decide (x.data.size ≤ 2000)) := rfl
      have HSX := Lib.hid hsx
      clear hsx
      generalize short x = sx at *
      by_cases h1 : x.name.length ≤ 300
      · have h1' : ¬ (300 : Int) < x.name.length := by omega
        by_cases h2 : x.data.size ≤ 2000
        · have h2' : ¬ (2000 : Int) < x.data.size := by omega
          have hst := Lib.hid (hstep.out (by rw [HSX.out]; simp [h1, h2]))
          clear hstep hlast
          go_wp2
          go_roundw
          case rel => exact ⟨k + 1, by omega, by go_num, hst.out, by first | rfl | trivial⟩
          case measure => simp [RowKit.intOf]; omega
        · have h2' : (2000 : Int) < x.data.size := by omega
          obtain rfl := hlast.out (by rw [HSX.out]; simp [h2])
          clear hstep hlast
          go_wp2
          go_ret
          exact ⟨rfl, by first | rfl | trivial⟩
      · have h1' : (300 : Int) < x.name.length := by omega
        obtain rfl := hlast.out (by rw [HSX.out]; simp [h1])
        clear hstep hlast
        go_wp2
        go_ret
        exact ⟨rfl, by first | rfl | trivial⟩
    · have hz : z = decide (ls.length ≤ 40) := by
        rw [HA.out, List.all_eq_true.2 fun y hy => HB.out y (by rw [List.take_of_length_le (by omega)]; exact hy)]; rfl
      have HZ := Lib.hid hz
      clear hz
      by_cases h40 : ls.length ≤ 40
      · obtain rfl : z = true := by rw [HZ.out]; simpa using h40
        have h40' : (ls.length : Int) ≤ 40 := by omega
        go_wp2
        go_ret
        first | exact ⟨rfl, by first | rfl | trivial⟩ | (refine ⟨?_, by first | rfl | trivial⟩; simp [h40'])
      · obtain rfl : z = false := by rw [HZ.out]; simpa using h40
        have h40' : ¬ (ls.length : Int) ≤ 40 := by omega
        go_wp2
        go_ret
        first | exact ⟨rfl, by first | rfl | trivial⟩ | (refine ⟨?_, by first | rfl | trivial⟩; simp [h40'])
/-- all items -/
def growAll (st : St) (ls : List It) : St := ls.foldl growSt st
theorem growAll_take {st : St} {ls : List It} {k : Nat} {x : It} (h : ls[k]? = some x) : growAll st (ls.take (k + 1)) = growSt (growAll st (ls.take k)) x := by
  unfold growAll
  rw [List.take_add_one, h, List.foldl_append]; rfl
theorem grown_all {st : St} (h : Grown st) : ∀ (ls : List It), (∀ i ∈ ls, i.data.size ≤ 2000) → st.last + ls.length < 1000 → Grown (growAll st ls) ∧ st.last ≤ (growAll st ls).last ∧ (growAll st ls).last ≤ st.last + ls.length
  | [], _, _ => ⟨h, Int.le_refl _, by show st.last ≤ st.last + 0; omega⟩
  | i :: r, hd, hl => by
    have hl' : st.last + ((r.length + 1 : Nat) : Int) < 1000 := hl
    obtain ⟨h1, h2, h3⟩ := h.grows i (by have := hd i (List.mem_cons_self ..); omega) (by omega)
    obtain ⟨h4, h5, h6⟩ := grown_all h1 r (fun j hj => hd j (List.mem_cons_of_mem _ hj)) (by omega)
    refine ⟨h4, ?_, ?_⟩
    · show st.last ≤ (growAll (growSt st i) r).last; omega
    · show (growAll (growSt st i) r).last ≤ st.last + ((r.length + 1 : Nat) : Int); omega
section
variable {B X A M F : Nat} {st : St} {w w' : World}
theorem grow_any (hG : Grown st) (h : Both B X A M F st w) (i : It) (hnm : i.name.length ≤ 300) (hdt : i.data.size ≤ 2000) (hlast : st.last < 1000) (hB : B ≤ w.heap.size) :
    Calls Try.prog 24 #[.pointer (some ⟨X, 0, none⟩), .pointer (some ⟨F, 0, none⟩), i.v] w fun e w' => e = .returned (.bool true) ∧ Both B X A M F (growSt st i) w' ∧ Below B w w' := by
  obtain ⟨mv, nv, dv, hW, hF⟩ := h
  by_cases h4 : i.kind = 4
  · exact grow_mount hG.inv hW hF i h4 hG.one hlast hB
  · exact grow_other hG.inv hW hF i h4 hnm hdt hG.one hlast hB fun p hp => by have := hG.ents p hp; omega
end
set_option maxRecDepth 100000 in
set_option maxHeartbeats 4000000 in
theorem Grow_any (b c : Int) (hlim : limits b c = true) {v : Value} {ls : List It} {w : World} (hS : ItSees v ls w) (hfew : few ls = true) :
    Calls Try.prog 7 #[.int .i64 b, .int .i64 c, v] w fun e w' =>
    ∃ X A M F, e = .returned (.tuple #[.pointer (some ⟨X, 0, none⟩), .pointer (some ⟨F, 0, none⟩), .bool true]) ∧ Both w.heap.size X A M F (growAll (begin_ bare 1 b c) ls) w' ∧ Below w.heap.size w w' := by
  obtain ⟨hf1, hf2⟩ := few_iff.1 hfew
  obtain ⟨oa, cap, rfl, _, hcells⟩ := hS
  have cn := New_yes b c hlim w
  have cr := fun W => refNew_yes b c hlim W
  have HF1 := Lib.hid hf1
  have HC := Lib.hid hcells
  clear hfew hf1 hcells
  have HST : Hid ((begin_ bare 1 b c).last = 1) := Lib.hid rfl
  have hgr := grown_new b c
  generalize begin_ bare 1 b c = st0 at *
  have HG := Lib.hid hgr
  clear hgr
  go_enter Try.func7, Try.ntmps7
  go_upto_region 3 with (first
    | (go_at_call 22; refine cn.mono ?_; rintro e w1 ⟨⟨X, A, M, mv, rfl, hW1⟩, hb1⟩; have cr1 := cr w1)
    | (go_at_call 23; refine cr1.mono ?_; rintro e w2 ⟨⟨F, nv, dv, rfl, hF2⟩, hb2⟩))
  have hF2' : Fs w.heap.size F nv dv st0 w2 := ⟨Nat.le_trans hb1.size hF2.bf, hF2.head, by
    obtain ⟨l, h1, h2, h3⟩ := hF2.nodes
    exact ⟨l, h1, h2.mono hb1.size, fun p hp => (h3 p hp).mono hb1.size⟩, by
    have hd := hF2.devs
    refine ⟨hd.1, hd.2.imp id ?_⟩
    rintro ⟨g, cap, cur, h1, h2, h3⟩
    exact ⟨g, cap, cur, h1, Nat.le_trans hb1.size h2, h3⟩⟩
  have x2 := hF2.facts.2.2.1
  rw [HST.out] at x2
  have hBoth : Both w.heap.size X A M F st0 w2 := ⟨mv, nv, dv, hW1.below hb2, hF2'⟩
  have hbb := below_two hb1 hb2
  clear cn cr cr1 hW1 hF2 hF2' hb1 hb2
  go_wp2
  have HBO := Lib.hid hBoth
  have HBB := Lib.hid hbb
  clear hBoth hbb x2
  go_loopw [12] (fun i wr => ∃ k : Nat, k ≤ ls.length ∧ i = .int .i64 k ∧ Both w.heap.size X A M F (growAll st0 (ls.take k)) wr ∧ Below w.heap.size w wr) (fun i _ => ls.length - (RowKit.intOf i).toNat)
  case atStart => exact ⟨0, Nat.zero_le _, rfl, HBO.out, HBB.out⟩
  case round =>
    obtain ⟨k, hk, rfl, hbo, hb⟩ := hrel
    by_cases hlt : k < ls.length
    · obtain ⟨x, hx⟩ : ∃ x, ls[k]? = some x := ⟨_, List.getElem?_eq_getElem hlt⟩
      obtain ⟨g, o, rfl, hat⟩ := HC.out k x hx
      obtain ⟨c0, c1, c2, c3, c4, c5, c6, c7⟩ := hat.below hb hat.lt
      have HT := Lib.hid (growAll_take (st := st0) hx)
      obtain ⟨hn1, hn2⟩ := HF1.out x (List.mem_of_getElem? hx)
      have hlt' : ((ls.take k).length : Int) ≤ 40 := by rw [List.length_take]; omega
      obtain ⟨hG, hg1, hg2⟩ := grown_all HG.out (ls.take k) (fun i hi => (HF1.out i (List.mem_of_mem_take hi)).2) (by rw [HST.out]; omega)
      rw [HST.out] at hg2
      have cg := grow_any hG hbo x hn1 hn2 (by omega) hb.size
      have HT2 := HT.out
      clear hx hat hG hg1 hg2 HT
      generalize growAll st0 (ls.take k) = stk at *
      have HT := Lib.hid HT2
      clear HT2 hbo
      dsimp only [It.v] at cg
      have HB := Lib.hid hb
      go_wp2_with (go_at_call 24; refine cg.mono ?_; rintro e w3 ⟨rfl, hbo3, hb3⟩)
      go_roundw
      case rel => exact ⟨k + 1, by omega, by go_num, by rw [HT.out]; exact hbo3, HB.out.trans hb3⟩
      case measure => simp [RowKit.intOf]; omega
    · rw [List.take_of_length_le (by omega)] at hbo
      have HO := Lib.hid hbo
      clear hbo
      go_wp2
      refine bodyPost_ret (by simp [results, Try.results7]; rfl) rfl ?_
      exact ⟨X, A, M, F, rfl, HO.out, hb⟩
end Go.Proofs.Ytmoimijclafgcaa.G
