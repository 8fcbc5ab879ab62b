/-
  Candidate names: the mathematics.
-/
import Derived.Test.YtpgikopajbjjhaaDoorNrefp
import Derived.Lib.ItoaLen
namespace Go.Proofs.YtpgikopajbjjhaaDoor.F

/-- what stands behind the base -/
def tl (n : Int) : List UInt8 := if n < 2 then [] else 46 :: Lib.itoa n
/-- the n-th name -/
def nt (b : List UInt8) (n : Int) : List UInt8 := b.take (245 - (tl n).length) ++ tl n
/-- all names, one behind the other -/
def nms (b : List UInt8) : List (List UInt8) := (List.range 1000).map fun k => nt b ((k + 1 : Nat) : Int)
/-- the first name that is none of those that are taken -/
def fr (b : List UInt8) (ps : List (List UInt8)) : Option (List UInt8) := (nms b).find? fun p => decide (p ∉ ps)

theorem tl_len (n : Int) (h : n ≤ 9223372036854775807) : (tl n).length ≤ 21 := by
  unfold tl
  split
  · simp
  · have := K.itoa_le20 n (by omega) h
    simp; omega
theorem nt_len (b : List UInt8) (n : Int) (h : n ≤ 9223372036854775807) : (nt b n).length ≤ 245 := by
  have := tl_len n h
  unfold nt; simp; omega
theorem nms_len (b : List UInt8) : (nms b).length = 1000 := by simp [nms]
theorem nms_at (b : List UInt8) (k : Nat) (h : k < 1000) : (nms b)[k]? = some (nt b ((k + 1 : Nat) : Int)) := by
  simp [nms, h]
theorem nms_take (b : List UInt8) (k : Nat) (h : k < 1000) : (nms b).take (k + 1) = (nms b).take k ++ [nt b ((k + 1 : Nat) : Int)] := by
  rw [List.take_add_one, nms_at b k h]; rfl
theorem nms_pre {b : List UInt8} {pre : List (List UInt8)} {x : List UInt8} (h : pre ++ [x] <+: nms b) : x = nt b ((pre.length + 1 : Nat) : Int) ∧ pre.length < 1000 := by
  obtain ⟨r, hr⟩ := h
  have hl : pre.length < 1000 := by
    have := congrArg List.length hr
    rw [nms_len] at this; simp at this; omega
  have h2 := nms_at b pre.length hl
  rw [← hr] at h2
  simp at h2
  exact ⟨h2, hl⟩

theorem dig_list (u : Nat) : ∀ c ∈ Lib.decDigits u, K.M.dig c = true := by
  have := K.M.dec_all u
  simpa using this
theorem takeWhile_stop {p : UInt8 → Bool} {l r : List UInt8} {c : UInt8} (h : ∀ x ∈ l, p x = true) (hc : p c = false) : (l ++ c :: r).takeWhile p = l := by
  rw [List.takeWhile_append_of_pos h, List.takeWhile_cons_of_neg (by simp [hc]), List.append_nil]
theorem tail_of {X : List UInt8} {d : List UInt8} (h : ∀ c ∈ d, K.M.dig c = true) : ((X ++ 46 :: d).reverse.takeWhile K.M.dig).reverse = d := by
  rw [List.reverse_append, List.reverse_cons, List.append_assoc, List.singleton_append, takeWhile_stop (by simpa using h) (by decide), List.reverse_reverse]
theorem nt_big {b : List UInt8} {n : Int} (h : 2 ≤ n) : ∃ X u, nt b n = X ++ 46 :: Lib.decDigits u ∧ n = (u : Int) := by
  obtain ⟨u, rfl⟩ : ∃ u : Nat, n = (u : Int) := ⟨n.toNat, by omega⟩
  refine ⟨b.take (245 - (tl (u : Int)).length), u, ?_, rfl⟩
  have : tl (u : Int) = 46 :: Lib.decDigits u := by
    unfold tl
    rw [if_neg (by omega), Lib.itoa_nonneg]
  unfold nt
  rw [this]
theorem nt_apart {b : List UInt8} {m n : Int} (hm : 2 ≤ m) (hn : 2 ≤ n) (hne : m ≠ n) : nt b m ≠ nt b n := by
  obtain ⟨X, u, h1, rfl⟩ := nt_big (b := b) hm
  obtain ⟨Y, v, h2, rfl⟩ := nt_big (b := b) hn
  intro e
  rw [h1, h2] at e
  have h3 := congrArg (fun l : List UInt8 => (l.reverse.takeWhile K.M.dig).reverse) e
  simp only [tail_of (dig_list _)] at h3
  have h4 := congrArg (K.M.val 0) h3
  rw [K.M.dec_val, K.M.dec_val] at h4
  exact hne (by rw [h4])

theorem fr_at {b : List UInt8} {ps : List (List UInt8)} {pre : List (List UInt8)} {x : List UInt8} (h : pre ++ [x] <+: nms b) (hp : ∀ p ∈ pre, p ∈ ps) (hx : x ∉ ps) : fr b ps = some x := by
  obtain ⟨r, hr⟩ := h
  unfold fr
  rw [← hr, List.append_assoc, List.find?_append, List.find?_eq_none.2 (by intro p h; simpa using hp p h)]
  simp [hx]
theorem fr_none {b : List UInt8} {ps : List (List UInt8)} (h : ∀ p ∈ nms b, p ∈ ps) : fr b ps = none := by
  unfold fr
  exact List.find?_eq_none.2 (by intro p hp; simpa using h p hp)
theorem fr_first {b : List UInt8} {ps : List (List UInt8)} {n : Nat} (h1 : 1 ≤ n) (h2 : n ≤ 1000) (hp : ∀ k : Nat, 1 ≤ k → k < n → nt b (k : Int) ∈ ps) (hx : nt b (n : Int) ∉ ps) : fr b ps = some (nt b (n : Int)) := by
  have ht := nms_take b (n - 1) (by omega)
  rw [show n - 1 + 1 = n by omega] at ht
  refine fr_at (pre := (nms b).take (n - 1)) (by rw [← ht]; exact List.take_prefix _ _) ?_ hx
  intro p h
  obtain ⟨i, hi, he⟩ := List.mem_iff_getElem.1 h
  simp at hi
  rw [List.getElem_take] at he
  have := nms_at b i (by omega)
  rw [List.getElem?_eq_getElem (by rw [nms_len]; omega)] at this
  injection this with this
  rw [← he, this]
  exact hp (i + 1) (by omega) (by omega)
/-- of 41 names behind the first one, 40 that are taken leave one -/
theorem fr_some {b : List UInt8} {ps : List (List UInt8)} (h : ps.length ≤ 40) : (fr b ps).isSome = true := by
  cases hf : fr b ps with
  | some x => rfl
  | none =>
    exfalso
    unfold fr at hf
    have hall := List.find?_eq_none.1 hf
    have hN : ((List.range 41).map fun k => nt b ((k + 2 : Nat) : Int)).Nodup := by
      unfold List.Nodup
      rw [List.pairwise_map]
      refine (List.nodup_range (n := 41)).imp ?_
      intro i j hij
      exact nt_apart (by omega) (by omega) (by omega)
    have := hN.length_le_of_subset (l₂ := ps) (by
      intro p hp
      obtain ⟨k, hk, rfl⟩ := List.mem_map.1 hp
      have hk := List.mem_range.1 hk
      have hm : nt b ((k + 2 : Nat) : Int) ∈ nms b := List.mem_of_getElem? (nms_at b (k + 1) (by omega))
      simpa using hall _ hm)
    simp at this
    omega
theorem mem_take {ps : List (List UInt8)} {i : Nat} {p x : List UInt8} (h : ps[i]? = some p) : decide (x ∈ ps.take (i + 1)) = (decide (x ∈ ps.take i) || (p == x)) := by
  rw [List.take_add_one, h, Bool.eq_iff_iff]
  simp only [Option.toList_some, List.mem_append, List.mem_singleton, decide_eq_true_eq, Bool.or_eq_true, beq_iff_eq]
  exact ⟨fun h => h.imp id Eq.symm, fun h => h.imp id Eq.symm⟩
end Go.Proofs.YtpgikopajbjjhaaDoor.F
