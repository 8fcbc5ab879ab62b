/-
  The reference's Root and Over.
-/
import Derived.Test.YtmoimijclafgcaaFaway
namespace Go.Proofs.Ytmoimijclafgcaa.G
open Go.RowKit Go.Shelf
attribute [local go_sem] Oper.semAt_some

theorem mt_raw (d : List Mt) (k : Int) : (mt (raw d) k).map (fun m => (m.root, m.q)) = (mt d k).map (fun m => (m.root, m.q)) := by
  unfold mt
  split
  · rw [raw_at]
    split
    · rename_i h
      rw [h]
      cases d[0]? <;> rfl
    · rfl
  · rfl
theorem rootOf_raw (d : List Mt) (k : Int) : rootOf (raw d) k = rootOf d k := by
  have := mt_raw d k
  unfold rootOf
  cases h1 : mt (raw d) k <;> cases h2 : mt d k <;> rw [h1, h2] at this <;> simp_all
theorem useOf_raw (d : List Mt) (k : Int) : useOf (raw d) k = useOf d k := by
  have := mt_raw d k
  unfold useOf
  cases h1 : mt (raw d) k <;> cases h2 : mt d k <;> rw [h1, h2] at this <;> simp_all
def refOver (d : List Mt) (k : Int) : Int := if 0 < k then over (raw d) k else k
section
variable {B F : Nat} {nv dv : Value} {st : St} {w w' : World}
theorem Fs.dlen (h : Fs B F nv dv st w) : ∃ oa cap, dv = .slice oa st.d.length cap := by
  obtain ⟨oa, cap, e⟩ := h.devs.slice
  exact ⟨oa, cap, by rw [e, length_raw]⟩
theorem refRoot_any (h : Fs B F nv dv st w) (k : Int) (hl : st.d.length ≤ 1000000) : Calls Try.prog 31 #[.pointer (some ⟨F, 0, none⟩), .int .i64 k] w fun e w' => e = .returned (.int .i64 (rootOf st.d k)) ∧ w = w' := by
  obtain ⟨_, x1, _⟩ := h.facts
  rw [← rootOf_raw]
  have hr := h.devs
  have hl' : (raw st.d).length ≤ 1000000 := by rw [length_raw]; exact hl
  clear hl
  obtain ⟨oa, cap, rfl⟩ := h.devs.slice
  clear h
  generalize raw st.d = d at *
  by_cases h1 : k < 1
  · have e : rootOf d k = 0 := by unfold rootOf; rw [mt_none (.inl h1)]
    rw [e]
    clear hr e
    generalize d.length = n at *
    go_enter Try.func31, Try.ntmps31
    go_wp2
    go_ret
    exact ⟨rfl, rfl⟩
  · by_cases h2 : (d.length : Int) < k
    · have e : rootOf d k = 0 := by unfold rootOf; rw [mt_none (.inr h2)]
      rw [e]
      clear hr e
      generalize d.length = n at *
      go_enter Try.func31, Try.ntmps31
      go_wp2
      go_ret
      exact ⟨rfl, rfl⟩
    · obtain ⟨m, hm⟩ := mt_in (d := d) (k := k) (by omega) (by omega)
      obtain ⟨h3, h4, h5⟩ := mt_some hm
      obtain ⟨i, hi⟩ : ∃ i, (k - 1).toNat = i := ⟨_, rfl⟩
      rw [hi] at h5
      obtain ⟨g, cap', he, hat⟩ := hr.at h5
      cases he
      have e : rootOf d k = m.root := by unfold rootOf; rw [hm]
      rw [e]
      have q0 := hat.1
      have h6 : k - 1 = (i : Int) := by omega
      clear hr e hat hm h5
      generalize d.length = n at *
      have h7 : (i : Int) < n := by omega
      clear hi h3 h4
      go_enter Try.func31, Try.ntmps31
      go_wp2
      go_ret
      exact ⟨rfl, rfl⟩
set_option maxRecDepth 100000 in
set_option maxHeartbeats 4000000 in
theorem refOver_any (h : Fs B F nv dv st w) (no : Int) (hl : st.d.length ≤ 1000000) : Calls Try.prog 38 #[.pointer (some ⟨F, 0, none⟩), .int .i64 no] w fun e w' => e = .returned (.int .i64 (refOver st.d no)) ∧ w = w' := by
  obtain ⟨_, x1, _⟩ := h.facts
  unfold refOver
  have HR := Lib.hid h.devs
  have hl' : (raw st.d).length ≤ 1000000 := by rw [length_raw]; exact hl
  clear hl
  obtain ⟨oa, cap, rfl⟩ := h.devs.slice
  clear h
  generalize raw st.d = ds at *
  by_cases h0 : 0 < no
  · rw [if_pos h0]
    go_enter Try.func38, Try.ntmps38
    go_wp2
    go_loopw [5] (fun i wr => ∃ k : Nat, k ≤ ds.length ∧ i = .int .i64 k ∧ (∀ y ∈ ds.take k, decide (y.cov = no) = false) ∧ wr = w) (fun i _ => ds.length - (RowKit.intOf i).toNat)
    case atStart => exact ⟨0, Nat.zero_le _, rfl, fun y hy => by simp at hy, rfl⟩
    case round =>
      obtain ⟨k, hk, rfl, hno, rfl⟩ := hrel
      have HB := Lib.hid hno
      clear hno
      by_cases hlt : k < ds.length
      · obtain ⟨x, hx⟩ : ∃ x, ds[k]? = some x := ⟨_, List.getElem?_eq_getElem hlt⟩
        obtain ⟨g, cap', he, hat⟩ := HR.out.at hx
        cases he
        obtain ⟨c0, c1, c2, c3, c4, c5⟩ := hat
        have HF := Lib.hid (seek_take (fun m : Mt => decide (m.cov = no)) hx HB.out)
        have h3 : (k : Int) < ds.length := by omega
        clear hx
        by_cases hn : x.cov = no
        · have HN := Lib.hid (HF.out.1 (by simpa using hn))
          subst hn
          clear HF
          go_wp2
          go_ret
          exact ⟨by unfold over; rw [HN.out]; rfl, by first | rfl | trivial⟩
        · have HN := Lib.hid (HF.out.2 (by simpa using hn))
          have hn' : (x.cov == no) = false := by simpa using hn
          clear HF hn
          go_wp2
          go_roundw
          case rel => exact ⟨k + 1, by omega, by go_num, HN.out, by first | rfl | trivial⟩
          case measure => simp [RowKit.intOf]; omega
      · have HE := Lib.hid (seek_end (fun m : Mt => decide (m.cov = no)) (l := ds) (by have := HB.out; rwa [List.take_of_length_le (by omega)] at this))
        go_wp2
        go_ret
        exact ⟨by unfold over; rw [HE.out]; rfl, by first | rfl | trivial⟩
  · rw [if_neg h0]
    go_enter Try.func38, Try.ntmps38
    go_wp2
    go_loopw [5] (fun i wr => ∃ k : Nat, k ≤ ds.length ∧ i = .int .i64 k ∧ wr = w) (fun i _ => ds.length - (RowKit.intOf i).toNat)
    case atStart => exact ⟨0, Nat.zero_le _, rfl, rfl⟩
    case round =>
      obtain ⟨k, hk, rfl, rfl⟩ := hrel
      by_cases hlt : k < ds.length
      · go_wp2
        go_roundw
        case rel => exact ⟨k + 1, by omega, by go_num, by first | rfl | trivial⟩
        case measure => simp [RowKit.intOf]; omega
      · go_wp2
        go_ret
        first | exact ⟨rfl, rfl⟩ | exact ⟨rfl, trivial⟩ | rfl
end
end Go.Proofs.Ytmoimijclafgcaa.G
