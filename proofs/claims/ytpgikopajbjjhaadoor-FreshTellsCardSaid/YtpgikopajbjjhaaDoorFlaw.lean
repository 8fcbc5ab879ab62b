/-
  The walk of FreshFree.
-/
import Derived.Test.YtpgikopajbjjhaaDoorFawk
namespace Go.Proofs.YtpgikopajbjjhaaDoor.F
open Go.RowKit Go.Shelf

set_option maxRecDepth 100000 in
set_option maxHeartbeats 8000000 in
theorem freshFree_walk (B : ByteArray) (v : Value) (ps : List (List UInt8)) (w : World) (hL : K.Laid w) (hR : Sees v ps w) (hp : ∀ p ∈ ps, p.length ≤ maxLen) (hsz : ps.length ≤ 9223372036854775807) :
    Calls Tryd.prog 4 #[.string B, v] w fun e w' => e = .returned (.bool true) ∧ Below w.heap.size w w' := by
  obtain ⟨b, rfl⟩ := bytes_eq B
  have HR := Lib.hid hR
  obtain ⟨oa, cap, rfl, hcells⟩ := hR
  have HC := Lib.hid hcells
  have ca := awake_any w hL
  by_cases hb : b.length ≤ 300
  · by_cases hl : ps.length ≤ 40
    · have hs := fr_some (b := b) hl
      obtain ⟨f, hf⟩ := Option.isSome_iff_exists.1 hs
      have HF := Lib.hid hf
      have cf := free_any b _ ps w hL HR.out (by omega) hp (by omega)
      rw [hf] at cf
      simp only [Option.getD_some, Option.isSome_some] at cf
      have hb' : ¬ (300 : Int) < b.length := by omega
      have hl' : ¬ (40 : Int) < ps.length := by omega
      have HL := Lib.hid hL
      clear hs hf hL hp hcells ca
      go_enter Tryd.func4, Tryd.ntmps4
      go_wp2_with (go_at_call 10; refine cf.mono ?_; clear cf; rintro e w1 ⟨rfl, hb1⟩)
      go_loopw [7] (fun i wr => ∃ n : Nat, i = .int .i64 n ∧ 1 ≤ n ∧ n ≤ 42 ∧ (∀ k : Nat, 1 ≤ k → k < n → nt b (k : Int) ∈ ps) ∧ Below w.heap.size w wr) (fun i _ => 42 - (intOf i).toNat)
      case atStart => exact ⟨1, rfl, by omega, by omega, fun k h1 h2 => by omega, hb1⟩
      case round =>
        clear hb1
        rename_i w1
        obtain ⟨n, rfl, hn1, hn2, hall, hbw⟩ := hrel
        have HA := Lib.hid hall
        clear hall
        have cw : ∀ w', Below w.heap.size w w' → _ := fun w' h => awake_any w' (HL.out.of_below h)
        by_cases hlt : n ≤ 41
        · have cn := refNth_any b (n : Int) (by omega) (by omega) (by omega) wr
          obtain ⟨x, hx⟩ : ∃ x, nt b (n : Int) = x := ⟨_, rfl⟩
          have HX := Lib.hid hx
          rw [hx] at cn
          clear hx
          go_wp2_with (go_at_call 8; refine cn.mono ?_; clear cn; rintro e w2 ⟨rfl, hb2⟩)
          have hbw2 := below_two hbw hb2
          clear hbw hb2
          go_loopw [9, 10] (fun m i wi => ∃ j : Nat, j ≤ ps.length ∧ i = .int .i64 j ∧ m = .bool (decide (x ∈ ps.take j)) ∧ Below w.heap.size w wi) (fun _ i _ => ps.length - (intOf i).toNat)
          case atStart => exact ⟨0, Nat.zero_le _, rfl, rfl, hbw2⟩
          case round =>
            clear hbw2
            obtain ⟨j, hj, rfl, rfl, hbi⟩ := hrel
            by_cases hjt : j < ps.length
            · obtain ⟨p, hp⟩ : ∃ p, ps[j]? = some p := ⟨_, List.getElem?_eq_getElem hjt⟩
              have HM := Lib.hid (mem_take (x := x) hp)
              obtain ⟨g, o, rfl, hcell⟩ := HC.out j p hp
              have hcell' := (hbi.cell (p := ⟨g, o + j, none⟩) (World.block_lt_of_cell? _ _ hcell)).trans hcell
              clear hcell hp
              generalize decide (x ∈ ps.take j) = M at HM ⊢
              cases M with
              | true =>
                go_wp2
                go_roundw
                case rel => exact ⟨j + 1, by omega, by go_num, by rw [HM.out]; rfl, hbi⟩
                case measure => simp [intOf]; omega
              | false =>
                cases he : (p == x) with
                | true =>
                  rw [he] at HM
                  go_wp2
                  go_roundw
                  case rel => exact ⟨j + 1, by omega, by go_num, by rw [HM.out]; rfl, hbi⟩
                  case measure => simp [intOf]; omega
                | false =>
                  rw [he] at HM
                  go_wp2
                  go_roundw
                  case rel => exact ⟨j + 1, by omega, by go_num, by rw [HM.out]; rfl, hbi⟩
                  case measure => simp [intOf]; omega
            · rw [List.take_of_length_le (by omega)]
              by_cases hin : x ∈ ps
              · rw [decide_eq_true hin]
                have HI := Lib.hid hin
                clear hin cw
                go_wp2
                go_roundw
                case rel => exact ⟨n + 1, by go_num, by omega, by omega, fun k h1 h2 => (by
                  by_cases e : k = n
                  · subst e; rw [HX.out]; exact HI.out
                  · exact HA.out k h1 (by omega)), hbi⟩
                case measure => simp [intOf]; omega
              · rw [decide_eq_false hin]
                have hfx : f = x := by
                  have h := fr_first (n := n) hn1 (by omega) HA.out (by rw [HX.out]; exact hin)
                  rw [HF.out, HX.out] at h
                  injection h
                subst hfx
                clear hin
                go_wp2_with (go_at_call 7; refine (cw _ hbi).mono ?_; rintro e w5 ⟨rfl, hb5⟩)
                go_ret
                exact ⟨rfl, below_two hbi hb5⟩
        · go_wp2_with (go_at_call 7; refine (cw _ hbw).mono ?_; rintro e w5 ⟨rfl, hb5⟩)
          go_ret
          exact ⟨rfl, below_two hbw hb5⟩
    · have hl' : (40 : Int) < ps.length := by omega
      have hb' : ¬ (300 : Int) < b.length := by omega
      clear hl hb hL
      go_enter Tryd.func4, Tryd.ntmps4
      go_wp2_with (go_at_call 7; refine ca.mono ?_; rintro e w1 ⟨rfl, hb1⟩)
      go_ret
      exact ⟨rfl, hb1⟩
  · have hb' : (300 : Int) < b.length := by omega
    clear hb hL
    go_enter Tryd.func4, Tryd.ntmps4
    go_wp2_with (go_at_call 7; refine ca.mono ?_; rintro e w1 ⟨rfl, hb1⟩)
    go_ret
    exact ⟨rfl, hb1⟩
end Go.Proofs.YtpgikopajbjjhaaDoor.F
