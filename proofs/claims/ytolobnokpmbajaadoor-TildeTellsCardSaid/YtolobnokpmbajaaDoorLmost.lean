/-
  tilde.Most, Next.
-/
import Derived.Test.YtolobnokpmbajaaDoorLrix
namespace Go.Proofs.YtolobnokpmbajaaDoor.L
open Go.RowKit Go.Shelf

/-- who reads this slice sees these texts -/
def Sees (v : Value) (ps : List (List UInt8)) (w : World) : Prop :=
  ∃ oa cap, v = .slice oa ps.length cap ∧ ∀ k p, ps[k]? = some p → ∃ g o, oa = some ⟨g, o, none⟩ ∧ w.cell? ⟨g, o + k, none⟩ = some (.string ⟨p.toArray⟩)
theorem Sees.below {v : Value} {ps : List (List UInt8)} {w w' : World} (h : Sees v ps w) (hb : Below w.heap.size w w') : Sees v ps w' := by
  obtain ⟨oa, cap, rfl, hc⟩ := h
  refine ⟨oa, cap, rfl, fun k p hk => ?_⟩
  obtain ⟨g, o, rfl, hcell⟩ := hc k p hk
  exact ⟨g, o, rfl, (hb.cell (p := ⟨g, o + k, none⟩) (World.block_lt_of_cell? _ _ hcell)).trans hcell⟩
theorem mo_take (b : List UInt8) (ps : List (List UInt8)) (n : Nat) (p : List UInt8) (h : ps[n]? = some p) : mo b (ps.take (n + 1)) = max (mo b (ps.take n)) (ix b p) := by
  rw [List.take_add_one, h]; exact mo_snoc b _ p

set_option maxRecDepth 100000 in
set_option maxHeartbeats 4000000 in
theorem most_any (b : List UInt8) (v : Value) (ps : List (List UInt8)) (w : World) (hR : Sees v ps w) (hp : ∀ p ∈ ps, p.length ≤ 2000) (hl : ps.length ≤ 5001) :
    Calls Tryd.prog 28 #[.string ⟨b.toArray⟩, v] w fun e w' => e = .returned (.int .i64 (mo b ps)) ∧ Below w.heap.size w w' := by
  obtain ⟨oa, cap, rfl, hcells⟩ := hR
  have HC := Lib.hid hcells; have HP := Lib.hid hp
  clear hcells hp
  go_enter Tryd.func28, Tryd.ntmps28
  go_wp2
  go_loopw [5, 10] (fun m i wr => ∃ n : Nat, n ≤ ps.length ∧ i = .int .i64 n ∧ m = .int .i64 (mo b (ps.take n)) ∧ Below w.heap.size w wr) (fun _ i _ => ps.length - (intOf i).toNat)
  case atStart => exact ⟨0, Nat.zero_le _, rfl, rfl, Below.refl _ _⟩
  case round =>
    obtain ⟨n, hn, rfl, rfl, hb⟩ := hrel
    by_cases hlt : n < ps.length
    · obtain ⟨p, hp⟩ : ∃ p, ps[n]? = some p := ⟨_, List.getElem?_eq_getElem hlt⟩
      have hpl : p.length ≤ 2000 := HP.out p (List.mem_of_getElem? hp)
      obtain ⟨g, o, rfl, hcell⟩ := HC.out n p hp
      have hcell' : wr.cell? ⟨g, o + n, none⟩ = some (.string ⟨p.toArray⟩) := (hb.cell (p := ⟨g, o + n, none⟩) (World.block_lt_of_cell? _ _ hcell)).trans hcell
      have HS := Lib.hid (mo_take b ps n p hp)
      have ci := fun w => index_any b p hpl w
      have r1 := mo_range b (ps.take n)
      have r2 := ix_range b p
      generalize mo b (ps.take n) = M at HS r1 ⊢
      generalize ix b p = x at HS ci r2
      clear hcell hp hpl
      go_wp2_with (go_at_call 25; refine (ci _).mono ?_; rintro e w1 ⟨rfl, hb1⟩)
      go_roundw
      case rel => exact ⟨n + 1, by omega, by go_num, by rw [HS.out], hb.trans (hb1.mono hb.size)⟩
      case measure => simp [intOf]; omega
    · have HS : Hid (mo b (ps.take n) = mo b ps) := Lib.hid (by rw [List.take_of_length_le (by omega)])
      go_wp2
      go_ret
      exact ⟨by rw [HS.out]; rfl, hb⟩

set_option maxHeartbeats 4000000 in
theorem next_any (b : List UInt8) (v : Value) (ps : List (List UInt8)) (w : World) (hL : K.Laid w) (hR : Sees v ps w) (hb : b.length ≤ 2000) (hp : ∀ p ∈ ps, p.length ≤ 2000) (hl : ps.length ≤ 5001) :
    Calls Tryd.prog 27 #[.string ⟨b.toArray⟩, v] w fun e w' => e = .returned (.tuple #[.string ⟨(nm b (mo b ps + 1)).toArray⟩, .int .i64 (er b (mo b ps + 1))]) ∧ Below w.heap.size w w' := by
  have cm := most_any b v ps w hR hp hl
  have cn : ∀ w', Below w.heap.size w w' → _ := fun w' h => name_any b (mo b ps + 1) hb w' (hL.of_below h)
  have r := mo_range b ps
  generalize mo b ps = m at cm cn r ⊢
  clear hR hp hl hL hb
  generalize nm b (m + 1) = N at cn ⊢
  generalize er b (m + 1) = E at cn ⊢
  go_enter Tryd.func27, Tryd.ntmps27
  go_wp2_with (first
    | (go_at_call 28; refine cm.mono ?_; clear cm; rintro e w1 ⟨rfl, hb1⟩)
    | (go_at_call 22; refine (cn _ (by assumption)).mono ?_; rintro e w2 ⟨rfl, hb2⟩))
  go_ret2
  exact ⟨rfl, below_two hb1 hb2⟩
end Go.Proofs.YtolobnokpmbajaaDoor.L
