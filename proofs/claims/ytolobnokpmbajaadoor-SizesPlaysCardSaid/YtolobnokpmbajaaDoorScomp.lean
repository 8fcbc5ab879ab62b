/-
  slices.CompactFunc at lines: of a run of one name the first stays.
-/
import Derived.Test.YtolobnokpmbajaaDoorSsort
namespace Go.Proofs.YtolobnokpmbajaaDoor
open Go.Shelf Go.RowKit Go.Lib Go.Sort Go.Proofs St

/-- of neighbours of one name the first; x: the one ahead -/
def cp (x : Line) : List Line → List Line
  | [] => []
  | y :: l => if y.name = x.name then cp y l else y :: cp y l
def compact : List Line → List Line
  | [] => []
  | x :: l => x :: cp x l
theorem cp_len : ∀ (l : List Line) (x : Line), (cp x l).length ≤ l.length
  | [], _ => Nat.le_refl _
  | y :: l, x => by
    unfold cp
    have := cp_len l y
    split
    · simp; omega
    · simp; omega
theorem cp_snoc : ∀ (l : List Line) (x y : Line), cp x (l ++ [y]) = cp x l ++ (if y.name = ((x :: l).getLast (by simp)).name then [] else [y])
  | [], x, y => by by_cases h : y.name = x.name <;> simp [cp, h]
  | z :: l, x, y => by
    simp only [List.cons_append, cp]
    rw [cp_snoc l z y]
    split <;> simp [List.getLast_cons]
theorem compact_snoc {l : List Line} (h : l ≠ []) (y : Line) : compact (l ++ [y]) = compact l ++ (if y.name = (l.getLast h).name then [] else [y]) := by
  cases l with
  | nil => exact absurd rfl h
  | cons x l => simp only [List.cons_append, compact]; rw [cp_snoc l x y]

/-- a run of stores into a row of lines -/
theorem swk_stored {k : Nat} {w0 W : World} {blk off : Nat} {dk r : Array Line} (h : SWK enc k w0 blk off dk W) (hblk : blk < w0.heap.size) (s : Nat) (vs : List Value) (hb : s + vs.length ≤ dk.size * k) (hr : setMany (flatK enc k dk) s vs = flatK enc k r) :
    SWK enc k w0 blk off r (W.setCells blk (off + s) vs) := by
  obtain ⟨n, os, rfl⟩ := h
  refine ⟨n, os, ?_⟩
  unfold sortWorldK
  rw [setCells_grow os blk _ _ _ (by show blk < (putRowK enc k _ blk off dk).heap.size; rw [size_putRowK]; exact hblk)]
  unfold putRowK
  rw [setCells_putRow _ _ _ _ _ _ (by rw [size_flatK]; exact hb), hr]
theorem flat_set {k : Nat} (hk : ∀ x, (enc x).length = k) (d : Array Line) (i : Nat) (y : Line) (hi : i < d.size) : setMany (flatK enc k d) (i * k) (enc y) = flatK enc k (d.setIfInBounds i y) := by
  refine ext_get! (by simp) fun t ht => ?_
  have ht' : t < d.size * k := by simpa using ht
  have k0 : 0 < k := by rcases Nat.eq_zero_or_pos k with h | h; · subst h; simp at ht'
                        · exact h
  rw [get_setMany _ _ _ t (by simpa using ht'), get_flatK _ _ _ t ht', get_flatK _ _ _ t (by simpa using ht'), hk]
  have hq : t / k < d.size := Nat.div_lt_of_lt_mul (by rw [Nat.mul_comm]; exact ht')
  by_cases a : t / k = i
  · rw [if_pos ((blk_iff k i t k0).2 a)]
    have e : t - i * k = t % k := by subst a; rw [Nat.mod_eq_sub_div_mul]
    subst a
    rw [e]; simp [hq]
  · rw [if_neg (fun h => a ((blk_iff k i t k0).1 h))]
    simp [hq, Ne.symm a]
/-- the row with nothing from i on -/
def clr (d : Array Line) (i : Nat) : Array Line := (Array.range d.size).map fun t => if t < i then d[t]! else default
@[simp] theorem clr_size (d : Array Line) (i : Nat) : (clr d i).size = d.size := by simp [clr]
theorem clr_get (d : Array Line) (i t : Nat) (h : t < d.size) : (clr d i)[t]! = if t < i then d[t]! else default := by simp [clr, h]
theorem clr_take (d : Array Line) (i : Nat) : (clr d i).toList.take i = d.toList.take i := by
  refine List.ext_getElem? fun t => ?_
  rw [List.getElem?_take, List.getElem?_take]
  by_cases h : t < i
  · rw [if_pos h, if_pos h]
    by_cases ht : t < d.size
    · rw [get?_of (by rw [clr_size]; exact ht), get?_of ht, clr_get d i t ht, if_pos h]
    · rw [get?_none (by rw [clr_size]; omega), get?_none (by omega)]
  · rw [if_neg h, if_neg h]
theorem flat_clr {k : Nat} (hk : ∀ x, (enc x).length = k) (d : Array Line) (i : Nat) (zs : List Value) (hi : i ≤ d.size) (hl : zs.length = (d.size - i) * k) (hz : ∀ t, t < zs.length → zs[t]! = (enc default)[t % k]!) :
    setMany (flatK enc k d) (i * k) zs = flatK enc k (clr d i) := by
  refine ext_get! (by simp) fun t ht => ?_
  have ht' : t < d.size * k := by simpa using ht
  have k0 : 0 < k := by rcases Nat.eq_zero_or_pos k with h | h; · subst h; simp at ht'
                        · exact h
  have hq : t / k < d.size := Nat.div_lt_of_lt_mul (by rw [Nat.mul_comm]; exact ht')
  have e0 : i * k + (d.size - i) * k = d.size * k := by rw [← Nat.add_mul]; congr 1; omega
  rw [get_setMany _ _ _ t (by simpa using ht'), get_flatK _ _ _ t ht', get_flatK _ _ _ t (by simpa using ht'), hl, e0, clr_get d i _ hq]
  by_cases a : i * k ≤ t
  · rw [if_pos ⟨a, ht'⟩, hz _ (by rw [hl]; omega)]
    have hik : i ≤ t / k := (Nat.le_div_iff_mul_le k0).2 a
    rw [if_neg (by omega)]
    congr 1
    obtain ⟨u, rfl⟩ : ∃ u, t = i * k + u := ⟨t - i * k, by omega⟩
    rw [Nat.add_sub_cancel_left, Nat.mul_comm i k, Nat.mul_add_mod]
  · have hik : t / k < i := Nat.div_lt_of_lt_mul (by rw [Nat.mul_comm]; omega)
    rw [if_neg (by omega), if_pos hik]

structure CompInv (d : Array Line) (p kk : Nat) (dk : Array Line) : Prop where
  size : dk.size = d.size
  lt : kk < p
  le : p ≤ d.size
  lo : dk.toList.take kk = compact (d.toList.take p)
  hi : ∀ t, kk ≤ t → t < d.size → dk[t]! = d[t]!
theorem take_next (d : Array Line) {p : Nat} (h : p < d.size) : d.toList.take (p + 1) = d.toList.take p ++ [d[p]!] := by
  rw [List.take_add_one, get?_of h]; rfl
theorem take_last (d : Array Line) {p : Nat} (h0 : 0 < p) (h : p ≤ d.size) (hn : d.toList.take p ≠ []) : (d.toList.take p).getLast hn = d[p - 1]! := by
  obtain ⟨q, rfl⟩ : ∃ q, p = q + 1 := ⟨p - 1, by omega⟩
  simp only [take_next d (show q < d.size by omega), List.getLast_concat, Nat.add_sub_cancel]
theorem compact_same (d : Array Line) {p : Nat} (h0 : 0 < p) (h : p < d.size) (hs : d[p]!.name = d[p - 1]!.name) : compact (d.toList.take (p + 1)) = compact (d.toList.take p) := by
  have hn : d.toList.take p ≠ [] := by
    intro e
    have := congrArg List.length e
    rw [List.length_take, Array.length_toList, List.length_nil] at this
    omega
  rw [take_next d h, compact_snoc hn, take_last d h0 (by omega) hn, if_pos hs, List.append_nil]
theorem compact_other (d : Array Line) {p : Nat} (h0 : 0 < p) (h : p < d.size) (hs : ¬ d[p]!.name = d[p - 1]!.name) : compact (d.toList.take (p + 1)) = compact (d.toList.take p) ++ [d[p]!] := by
  have hn : d.toList.take p ≠ [] := by
    intro e
    have := congrArg List.length e
    rw [List.length_take, Array.length_toList, List.length_nil] at this
    omega
  rw [take_next d h, compact_snoc hn, take_last d h0 (by omega) hn, if_neg hs]
theorem CompInv.start {d : Array Line} {k : Nat} (h0 : 0 < k) (h : k < d.size) (ha : compact (d.toList.take k) = d.toList.take k) (hs : d[k]!.name = d[k - 1]!.name) : CompInv d (k + 1) k d :=
  ⟨rfl, by omega, h, by rw [compact_same d h0 h hs, ha], fun _ _ _ => rfl⟩
theorem CompInv.skip {d dk : Array Line} {p kk : Nat} (I : CompInv d p kk dk) (h : p < d.size) (hs : d[p]!.name = d[p - 1]!.name) : CompInv d (p + 1) kk dk :=
  ⟨I.size, by have := I.lt; omega, h, by rw [compact_same d (by have := I.lt; omega) h hs]; exact I.lo, I.hi⟩
theorem CompInv.keep {d dk : Array Line} {p kk : Nat} (I : CompInv d p kk dk) (h : p < d.size) (hs : ¬ d[p]!.name = d[p - 1]!.name) : CompInv d (p + 1) (kk + 1) (dk.setIfInBounds kk d[p]!) := by
  have h1 := I.lt; have h2 := I.size
  refine ⟨by simp [h2], by omega, h, ?_, fun t ht1 ht2 => ?_⟩
  · rw [compact_other d (by omega) h hs, ← I.lo, Array.toList_setIfInBounds, List.take_add_one, List.take_set_of_le (Nat.le_refl _)]
    congr 1
    simp [show kk < dk.size by omega]
  · rw [← I.hi t (by omega) ht2]
    simp only [getElem!_def, Array.getElem?_setIfInBounds_ne (show kk ≠ t by omega)]

end Go.Proofs.YtolobnokpmbajaaDoor
