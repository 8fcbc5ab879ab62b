/-
  The walk of TildeNext.
-/
import Derived.Test.YtolobnokpmbajaaDoorLtell
namespace Go.Proofs.YtolobnokpmbajaaDoor.L
open Go.RowKit Go.Shelf

def Small (ps : List (List UInt8)) : Prop := ∀ p ∈ ps, p.length ≤ 300
theorem small_take {ps : List (List UInt8)} {n : Nat} {p : List UInt8} (h : Small (ps.take n)) (hp : ps[n]? = some p) (hl : p.length ≤ 300) : Small (ps.take (n + 1)) := by
  rw [List.take_add_one, hp]
  intro q hq
  rcases List.mem_append.1 hq with h1 | h1
  · exact h q h1
  · simp at h1; subst h1; exact hl

set_option maxRecDepth 100000 in
set_option maxHeartbeats 8000000 in
theorem tildeNext_walk (B : ByteArray) (v : Value) (ps : List (List UInt8)) (w : World) (hL : K.Laid w) (hR : Sees v ps w) (hsz : ps.length ≤ 9223372036854775807) :
    Calls Tryd.prog 7 #[.string B, v] w fun e w' => e = .returned (.bool true) ∧ Below w.heap.size w w' := by
  obtain ⟨b, rfl⟩ := bytes_eq B
  have HR := Lib.hid hR
  obtain ⟨oa, cap, rfl, hcells⟩ := hR
  have HC := Lib.hid hcells
  have ca := awake_any w hL
  have HL := Lib.hid hL
  clear hcells hL
  by_cases hb : b.length ≤ 300
  · by_cases hl : ps.length ≤ 30
    · go_enter Tryd.func7, Tryd.ntmps7
      go_wp2
      go_loopw [5, 6] (fun m i wr => ∃ n : Nat, n ≤ ps.length ∧ i = .int .i64 n ∧ m = .int .i64 (mo b (ps.take n)) ∧ Small (ps.take n) ∧ Below w.heap.size w wr) (fun _ i _ => ps.length - (intOf i).toNat)
      case atStart => exact ⟨0, Nat.zero_le _, rfl, rfl, fun p hp => by simp at hp, Below.refl _ _⟩
      case round =>
        obtain ⟨n, hn, rfl, rfl, hsm, hbw⟩ := hrel
        have HS := Lib.hid hsm
        clear hsm ca
        by_cases hlt : n < ps.length
        · obtain ⟨p, hp⟩ : ∃ p, ps[n]? = some p := ⟨_, List.getElem?_eq_getElem hlt⟩
          have HPn := Lib.hid hp
          obtain ⟨g, o, rfl, hcell⟩ := HC.out n p hp
          have hcell' : wr.cell? ⟨g, o + n, none⟩ = some (.string ⟨p.toArray⟩) := (hbw.cell (p := ⟨g, o + n, none⟩) (World.block_lt_of_cell? _ _ hcell)).trans hcell
          clear hcell hp
          by_cases hpl : p.length ≤ 300
          · have HM := Lib.hid (mo_take b ps n p HPn.out)
            have HT := Lib.hid (small_take HS.out HPn.out hpl)
            have ci := fun w => refIndex_any b p (by omega) (by omega) w
            have r1 := mo_range b (ps.take n)
            have r2 := ix_range b p
            generalize mo b (ps.take n) = M at HM r1 ⊢
            generalize ix b p = x at HM ci r2
            have hpl' : ¬ (300 : Int) < p.length := by omega
            clear hpl
            go_wp2_with (go_at_call 26; refine (ci _).mono ?_; rintro e w1 ⟨rfl, hb1⟩)
            go_roundw
            case rel => exact ⟨n + 1, by omega, by go_num, by rw [HM.out], HT.out, below_two hbw hb1⟩
            case measure => simp [intOf]; omega
          · have ca := awake_any wr (HL.out.of_below hbw)
            have hpl' : (300 : Int) < p.length := by omega
            clear hpl
            go_wp2_with (go_at_call 21; refine ca.mono ?_; rintro e w1 ⟨rfl, hb1⟩)
            go_ret
            exact ⟨rfl, below_two hbw hb1⟩
        · have hbig : ∀ p ∈ ps, p.length ≤ 2000 := by
            have := HS.out
            rw [List.take_of_length_le (by omega)] at this
            intro p hp; have := this p hp; omega
          have hM : mo b (ps.take n) = mo b ps := by rw [List.take_of_length_le (by omega)]
          rw [hM]
          clear hM
          have r := mo_range b ps
          have cx := next_any b (.slice oa ps.length cap) ps wr (HL.out.of_below hbw) (HR.out.below hbw) (by omega) hbig (by omega)
          have cn : ∀ w', Below w.heap.size w w' → _ := fun w' h => name_any b (mo b ps + 1) (by omega) w' (HL.out.of_below h)
          have cm : ∀ w', Below w.heap.size w w' → _ := fun w' h => most_any b (.slice oa ps.length cap) ps w' (HR.out.below h) hbig (by omega)
          have cw : ∀ w', Below w.heap.size w w' → _ := fun w' h => awake_any w' (HL.out.of_below h)
          by_cases he : er b (mo b ps + 1) = 0
          · have HN : Hid (∀ p ∈ ps, nm b (mo b ps + 1) ≠ p) := Lib.hid (fun p hp => next_new he hp)
            rw [he] at cx cn
            clear he hbig
            generalize nm b (mo b ps + 1) = N at cx cn HN
            generalize mo b ps = M at cx cn cm r ⊢
            go_wp2_with (first
              | (go_at_call 27; refine cx.mono ?_; clear cx; rintro e w1 ⟨rfl, hb1⟩)
              | (go_at_call 22; refine (cn _ (below_two hbw hb1)).mono ?_; rintro e w2 ⟨rfl, hb2⟩))
            have hb3 := below_two (below_two hbw hb1) hb2
            clear hbw hb1 hb2 cn
            go_loopw [11] (fun i wr => ∃ n : Nat, n ≤ ps.length ∧ i = .int .i64 n ∧ Below w.heap.size w wr) (fun i _ => ps.length - (intOf i).toNat)
            case atStart => exact ⟨0, Nat.zero_le _, rfl, hb3⟩
            case round =>
              clear hb3
              obtain ⟨k, hk, rfl, hbk⟩ := hrel
              by_cases hkt : k < ps.length
              · obtain ⟨p, hp⟩ : ∃ p, ps[k]? = some p := ⟨_, List.getElem?_eq_getElem hkt⟩
                have hne := HN.out p (List.mem_of_getElem? hp)
                obtain ⟨g, o, rfl, hcell⟩ := HC.out k p hp
                have hx : (N == p) = false := by simpa using hne
                clear hp hne
                rename_i w2 wr2
                have hcell' := (hbk.cell (p := ⟨g, o + k, none⟩) (World.block_lt_of_cell? _ _ hcell)).trans hcell
                clear hcell
                go_wp2
                go_roundw
                case rel => exact ⟨k + 1, by omega, by go_num, hbk⟩
                case measure => simp [intOf]; omega
              · go_wp2_with (first
                  | (go_at_call 28; refine (cm _ hbk).mono ?_; rintro e w4 ⟨rfl, hb4⟩)
                  | (go_at_call 21; refine (cw _ (below_two hbk hb4)).mono ?_; rintro e w5 ⟨rfl, hb5⟩))
                go_ret
                exact ⟨rfl, below_two (below_two hbk hb4) hb5⟩
          · clear hbig
            generalize er b (mo b ps + 1) = E at cx cn he
            generalize nm b (mo b ps + 1) = N at cx cn
            generalize mo b ps = M at cx cn cm r ⊢
            go_wp2_with (first
              | (go_at_call 27; refine cx.mono ?_; clear cx; rintro e w1 ⟨rfl, hb1⟩)
              | (go_at_call 22; refine (cn _ (below_two hbw hb1)).mono ?_; rintro e w2 ⟨rfl, hb2⟩))
            have hb3 := below_two (below_two hbw hb1) hb2
            clear hbw hb1 hb2 cn
            go_loopw [11] (fun i wr => ∃ n : Nat, n ≤ ps.length ∧ i = .int .i64 n ∧ Below w.heap.size w wr) (fun i _ => ps.length - (intOf i).toNat)
            case atStart => exact ⟨0, Nat.zero_le _, rfl, hb3⟩
            case round =>
              clear hb3
              obtain ⟨k, hk, rfl, hbk⟩ := hrel
              by_cases hkt : k < ps.length
              · go_wp2
                go_roundw
                case rel => exact ⟨k + 1, by omega, by go_num, hbk⟩
                case measure => simp [intOf]; omega
              · go_wp2_with (first
                  | (go_at_call 28; refine (cm _ hbk).mono ?_; rintro e w4 ⟨rfl, hb4⟩)
                  | (go_at_call 21; refine (cw _ (below_two hbk hb4)).mono ?_; rintro e w5 ⟨rfl, hb5⟩))
                go_ret
                exact ⟨rfl, below_two (below_two hbk hb4) hb5⟩
    · have hl' : (30 : Int) < ps.length := by omega
      have hb' : ¬ (300 : Int) < b.length := by omega
      clear hl hb
      go_enter Tryd.func7, Tryd.ntmps7
      go_wp2_with (go_at_call 21; refine ca.mono ?_; rintro e w1 ⟨rfl, hb1⟩)
      go_ret
      exact ⟨rfl, hb1⟩
  · have hb' : (300 : Int) < b.length := by omega
    clear hb
    go_enter Tryd.func7, Tryd.ntmps7
    go_wp2_with (go_at_call 21; refine ca.mono ?_; rintro e w1 ⟨rfl, hb1⟩)
    go_ret
    exact ⟨rfl, hb1⟩
end Go.Proofs.YtolobnokpmbajaaDoor.L
