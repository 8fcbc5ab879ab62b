/-
  slices.Reverse, SortStableFunc and CompactFunc at a row of lines of the call's own, nil too.
-/
import Derived.Test.YtolobnokpmbajaaDoorScompw
import Derived.Test.YtolobnokpmbajaaDoorZrput
import Derived.Lib.OwnBridge
namespace Go.Proofs.YtolobnokpmbajaaDoor.Z
open Go.RowKit Go.Shelf
open Go.Sort (flatK get_flatK putRowK size_flatK HoldsK)

/-- the slice v holds these lines, in memory of the call's own, as the library's texts on sorting say it -/
def Rw (B : Nat) (v : Value) (ls : List Line) (w : World) : Prop :=
  (v = .slice none 0 0 ∧ ls = []) ∨ ∃ g cap, v = .slice (some ⟨g, 0, none⟩) ls.length cap ∧ B ≤ g ∧ ls.length ≤ cap ∧ cap ≤ 9223372036854775807 ∧ RowK enc 3 w g 0 ls.toArray
theorem flat_get (ls : List Line) (j : Nat) (hj : j < ls.length * 3) : (flat ls)[j]? = some (flatK enc 3 ls.toArray)[j]! := by
  have h3 : j % 3 < 3 := Nat.mod_lt _ (by decide)
  have hq : j / 3 < ls.length := by omega
  have hk : ls[j / 3]? = some (ls[j / 3]'hq) := List.getElem?_eq_getElem hq
  have e := flat_at ls (j / 3) _ (j % 3) hk h3
  rw [show j / 3 * 3 + j % 3 = j by omega] at e
  rw [e, get_flatK _ _ _ j (by simpa using hj)]
  have e2 : (ls.toArray)[j / 3]! = ls[j / 3]'hq := by simp [hq]
  rw [e2, List.getElem?_eq_getElem (by rw [enc_len]; exact h3), getElem!_pos _ _ (by rw [enc_len]; exact h3)]
theorem Own.rw {B : Nat} {v : Value} {ls : List Line} {w : World} (h : Own B v ls w) : Rw B v ls w := by
  rcases h.2 with ⟨h1, h2⟩ | ⟨g, cap, cur, rfl, hb, hg, hn, hm, hs, ht⟩
  · exact .inl ⟨h1, List.eq_nil_of_length_eq_zero h2⟩
  · refine .inr ⟨g, cap, rfl, hb, hn, by unfold maxLen at hm; omega, enc_len, enc_one, ?_, (Array.getElem?_eq_some_iff.1 hg).1⟩
    intro j hj
    have hj' : j < ls.length * 3 := by simpa using hj
    refine ⟨?_, ?_⟩
    · rw [Nat.zero_add, World.ownsRow.cellAt h j (by omega), flat_get ls j hj']; rfl
    · rw [Nat.zero_add]; exact World.ownsRow.frozenAt h j
theorem Rw.sees {B : Nat} {v : Value} {ls : List Line} {w : World} (h : Rw B v ls w) : Sees v ls w := by
  rcases h with ⟨rfl, rfl⟩ | ⟨g, cap, rfl, _, _, _, R⟩
  · exact ⟨none, 0, rfl, by simp⟩
  · refine ⟨_, _, rfl, fun k x hk => ⟨g, 0, rfl, ?_⟩⟩
    have hlt : k < ls.length := (List.getElem?_eq_some_iff.1 hk).1
    have c := HoldsK.cells R.hH R.hk (i := k) (by simpa using hlt)
    have e : ls.toArray[k]! = x := by
      rw [List.getElem?_eq_getElem hlt] at hk
      simp [hlt, Option.some.inj hk]
    rw [e] at c
    exact ⟨by simpa [Addr.add] using c 0 _ rfl, by simpa [Addr.add] using c 1 _ rfl, by simpa [Addr.add] using c 2 _ rfl⟩
theorem Rw.below {B : Nat} {v : Value} {ls : List Line} {w w' : World} (h : Rw B v ls w) (hb : Below w.heap.size w w') : Rw B v ls w' := by
  rcases h with h | ⟨g, cap, rfl, h1, h2, h3, R⟩
  · exact .inl h
  · refine .inr ⟨g, cap, rfl, h1, h2, h3, R.hk, R.h1, fun j hj => ?_, Nat.lt_of_lt_of_le R.hblk hb.size⟩
    obtain ⟨c1, c2⟩ := R.hH j hj
    exact ⟨(hb.cell (p := ⟨g, 0 + j, none⟩) R.hblk).trans c1, by rw [← c2]; exact World.frozen?_of_block (hb.block g R.hblk)⟩
theorem below_swk {B : Nat} {w W : World} {g : Nat} {d : Array Line} (h : SWK enc 3 w g 0 d W) (hB : B ≤ g) (hg : g < w.heap.size) : Below B w W := by
  obtain ⟨n, os, rfl⟩ := h
  unfold sortWorldK putRowK
  have h1 : Below B w (Sort.putRow id (Sort.ahead w n) g 0 (flatK enc 3 d)) := Lib.below_putRow (Below.refl _ _) hB
  have h2 := Lib.below_grow B (Sort.putRow id (Sort.ahead w n) g 0 (flatK enc 3 d)) (Nat.le_trans (by omega) h1.size) 0 os
  exact h1.trans h2
theorem grown_swk {w W : World} {g : Nat} {d : Array Line} (h : SWK enc 3 w g 0 d W) : w.grownBy W (some g) := by
  obtain ⟨n, os, rfl⟩ := h
  unfold sortWorldK putRowK
  refine ⟨rfl, rfl, rfl, ?_, fun k hk hne => ?_⟩
  · simp [Sort.grow, Sort.putRow, Sort.mapBlock, Sort.ahead]
  · have hgk : g ≠ k := fun e => hne (by rw [e])
    show ((Sort.putRow id (Sort.ahead w n) g 0 (flatK enc 3 d)).heap ++ os)[k]? = _
    rw [Array.getElem?_append_left (by simpa [Sort.putRow, Sort.mapBlock, Sort.ahead] using hk)]
    simp [Sort.putRow, Sort.mapBlock, Sort.ahead, Array.getElem?_modify, hgk]
theorem grown_refl (w : World) (r : Option Nat) : w.grownBy w r := ⟨rfl, rfl, rfl, Nat.le_refl _, fun _ _ _ => rfl⟩
theorem row_swk {w W : World} {g : Nat} {d r : Array Line} (R : RowK enc 3 w g 0 d) (h : SWK enc 3 w g 0 r W) (hs : r.size = d.size) : RowK enc 3 W g 0 r := ⟨R.hk, R.h1, h.holds R.hblk R.hH hs, h.lt R.hblk⟩

theorem rev_any {B : Nat} {v : Value} {ls : List Line} {w : World} (h : Rw B v ls w) (hB : B ≤ w.heap.size) (hl : ls.length ≤ 1000000) :
    Calls Tryd.prog 36 #[v] w fun e w' => e = .returned (.tuple #[]) ∧ Rw B v ls.reverse w' ∧ w.grownBy w' v.ownBlock := by
  rcases h with ⟨rfl, rfl⟩ | ⟨g, cap, rfl, hg, hc, hm, R⟩
  · refine (AnyQ.slices_Reverse_empty Tryd.layRev none 0 w).mono ?_
    rintro e w' ⟨rfl, rfl⟩
    exact ⟨rfl, .inl ⟨rfl, rfl⟩, grown_refl _ _⟩
  · have c := AnyQ.slices_Reverse Tryd.layRev 3 Tryd.isAgg30 Tryd.sizeOf30 enc enc_len enc_one g 0 cap ls.toArray w R.hH (by simp; omega)
    rw [show ls.toArray.size = ls.length by simp] at c
    refine c.mono ?_
    rintro e w' ⟨rfl, n, rfl⟩
    have S : SWK enc 3 w g 0 ls.toArray.reverse (putRowK enc 3 (Sort.ahead w n) g 0 ls.toArray.reverse) := ⟨n, #[], by rw [sortWorldK]; simp [Sort.grow]⟩
    have hrs : ls.toArray.reverse = ls.reverse.toArray := by simp
    refine ⟨rfl, .inr ⟨g, cap, by rw [List.length_reverse], hg, by rw [List.length_reverse]; exact hc, hm, ?_⟩, grown_swk S⟩
    have := row_swk R S (by simp)
    rw [hrs] at this ⊢
    exact this

set_option maxHeartbeats 1000000 in
theorem ins_nil (w : World) : Calls Tryd.prog 79 #[.slice none 0 0, .int .i64 0, .int .i64 0, .func (.func 38) #[] #[]] w fun e w' => e = .returned (.tuple #[]) ∧ w' = w := by
  go_enter Tryd.func79, Tryd.ntmps79
  go_wp2
  go_loop [8] (fun i => i = .int .i64 1) (fun _ => 0)
  case atStart => rfl
  case round =>
    obtain rfl := hrel
    go_wp2
    go_end0
    exact ⟨rfl, rfl⟩
set_option maxHeartbeats 1000000 in
theorem stable_nil (w : World) : Calls Tryd.prog 61 #[.slice none 0 0, .int .i64 0, .func (.func 38) #[] #[]] w fun e w' => e = .returned (.tuple #[]) ∧ w' = w := by
  go_enter Tryd.func61, Tryd.ntmps61
  go_wp2
  go_loop [7, 8] (fun a b => a = .int .i64 0 ∧ b = .int .i64 20) (fun _ _ => 0)
  case atStart => exact ⟨rfl, rfl⟩
  case round =>
    obtain ⟨rfl, rfl⟩ := hrel
    go_wp2_with (go_at_call 79; refine (ins_nil _).mono ?_; rintro e w1 ⟨rfl, hw1⟩; obtain rfl := hw1.symm)
    go_loop [6] (fun a => a = .int .i64 20) (fun _ => 0)
    case atStart => rfl
    case round =>
      obtain rfl := hrel
      go_wp2
      go_end0
      exact ⟨rfl, rfl⟩
set_option maxHeartbeats 1000000 in
theorem sort_nil (w : World) : Calls Tryd.prog 37 #[.slice none 0 0, .func (.func 38) #[] #[]] w fun e w' => e = .returned (.tuple #[]) ∧ w' = w := by
  go_enter Tryd.func37, Tryd.ntmps37
  go_wp2_with (go_at_call 61; refine (stable_nil _).mono ?_; rintro e w1 ⟨rfl, hw1⟩; obtain rfl := hw1.symm)
  go_end0
  exact ⟨rfl, rfl⟩
set_option maxHeartbeats 1000000 in
theorem comp_nil (w : World) : Calls Tryd.prog 39 #[.slice none 0 0, .func (.func 40) #[] #[]] w fun e w' => e = .returned (.slice none 0 0) ∧ w' = w := by
  go_enter Tryd.func39, Tryd.ntmps39
  go_wp2
  go_ret
  exact ⟨rfl, rfl⟩

/-- sorted by their names, those of one name in their order -/
structure Stab (ls ms : List Line) : Prop where
  len : ms.length = ls.length
  fil : ∀ n, St.fil n ms = St.fil n ls
  srt : ∀ i j : Nat, i ≤ j → j < ms.length → ¬ (ms[j]!).name < (ms[i]!).name
theorem sort_any {B : Nat} {v : Value} {ls : List Line} {w : World} (h : Rw B v ls w) (hB : B ≤ w.heap.size) (hl : ls.length ≤ 1000000) :
    Calls Tryd.prog 37 #[v, .func (.func 38) #[] #[]] w fun e w' => e = .returned (.tuple #[]) ∧ (∃ ms, Stab ls ms ∧ Rw B v ms w') ∧ w.grownBy w' v.ownBlock := by
  rcases h with ⟨rfl, rfl⟩ | ⟨g, cap, rfl, hg, hc, hm, R⟩
  · refine (sort_nil w).mono ?_
    rintro e w' ⟨rfl, rfl⟩
    exact ⟨rfl, ⟨[], ⟨rfl, fun _ => rfl, fun i j _ h => by simp at h⟩, .inl ⟨rfl, rfl⟩⟩, grown_refl _ _⟩
  · refine (sortStable_any g 0 cap ls.length ls.toArray w R (by simp) (by omega)).mono ?_
    rintro e w' ⟨rfl, r, ⟨hM, hS⟩, S⟩
    have hsz : r.size = ls.toArray.size := hM.size
    have hrl : r.toList.length = ls.length := by rw [Array.length_toList, hsz]; simp
    refine ⟨rfl, ⟨r.toList, ⟨hrl, fun n => by rw [hM.fil n], fun i j hij hj => ?_⟩, .inr ⟨g, cap, by rw [hrl], hg, by rw [hrl]; exact hc, hm, ?_⟩⟩, grown_swk S⟩
    · rw [Array.length_toList] at hj
      have := hS i j (Nat.zero_le _) hij (by rw [hsz] at hj; simpa using hj)
      rw [Array.getElem!_toList, Array.getElem!_toList]
      exact this
    · have := row_swk R S hsz
      rw [Array.toArray_toList]; exact this
theorem comp_any {B : Nat} {v : Value} {ls : List Line} {w : World} (h : Rw B v ls w) (hB : B ≤ w.heap.size) (hl : ls.length ≤ 1000000) :
    Calls Tryd.prog 39 #[v, .func (.func 40) #[] #[]] w fun e w' => ∃ u, e = .returned u ∧ Sees u (compact ls) w' ∧ w.grownBy w' v.ownBlock := by
  rcases h with ⟨rfl, rfl⟩ | ⟨g, cap, rfl, hg, hc, hm, R⟩
  · refine (comp_nil w).mono ?_
    rintro e w' ⟨rfl, rfl⟩
    exact ⟨_, rfl, ⟨none, 0, rfl, by simp [compact]⟩, grown_refl _ _⟩
  · refine (compact_any lay3 Tryd.func39 Tryd.zeroValue30 Tryd.isAgg66 Tryd.sizeOf66 40 #[] g 0 cap ls.length ls.toArray w sameName_in sameName_any R (by simp) hc (by omega) hm).mono ?_
    rintro e w' ⟨rfl, r, ⟨hsz, ht⟩, S⟩
    have R' := row_swk R S hsz
    have hrw : Rw B (.slice (some ⟨g, 0, none⟩) r.toList.length cap) r.toList w' := .inr ⟨g, cap, rfl, hg, by rw [Array.length_toList, hsz]; simpa using hc, hm, by rw [Array.toArray_toList]; exact R'⟩
    obtain ⟨oa, cap', he, hcells⟩ := hrw.sees
    cases he
    refine ⟨_, rfl, ⟨some ⟨g, 0, none⟩, cap, rfl, fun k x hk => hcells k x ?_⟩, grown_swk S⟩
    rw [← ht] at hk
    rw [show (ls.toArray).toList = ls from rfl] at hk
    rw [List.getElem?_take] at hk
    split at hk
    · exact hk
    · cases hk
end Go.Proofs.YtolobnokpmbajaaDoor.Z
