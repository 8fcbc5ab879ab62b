/-
  The path of a directory leads to it: SeekHome.
-/
import Derived.Test.YtlceaecibjbeaaaGreatKtabs
import Derived.Test.YtlceaecibjbeaaaGreatKhmath
namespace Go.Proofs.YtlceaecibjbeaaaGreat.K
open Go.RowKit Go.Shelf G
attribute [local go_sem] Oper.semAt_some

/-- nothing that lies above is covered, where the answer is 'no' -/
def Seen (st : St) (no : Int) (c : Value) : Prop := ∃ b, c = .bool b ∧ (b = false → ∀ k : Nat, (k : Int) ≤ st.last → over st.d (trail st no (k + 1)) = trail st no (k + 1))
def SeenE (st : St) (no : Int) (e : Ending) : Prop := ∃ c, e = .returned c ∧ Seen st no c
section
variable {BB F : Nat} {nv dv : Value} {st : St} {w : World}
set_option maxRecDepth 100000 in
set_option maxHeartbeats 16000000 in
theorem hidden_any (hI : Inv st) (hF : Fs BB F nv dv st w) (hl : st.n.length < 900000) (hlast : st.last < 900000) (no : Int) :
    Calls Tryz.prog 12 #[.pointer (some ⟨F, 0, none⟩), .int .i64 no] w fun e w' =>
      SeenE st no e ∧ Below w.heap.size w w' := by
  have x2 := hF.facts.2.2.1
  have hFl := hF.ltF
  have hlo := hI.lo
  have hmt := hI.mounts
  have ca := fun W (hb : Below w.heap.size w W) k => refAbove_any hI (hF.below hb) k hl
  have co := fun W (hb : Below w.heap.size w W) k => refOver_any (hF.below hb) k (by omega)
  have HA := Lib.hid (fun k => hI.above_ref k); have HO := Lib.hid (fun k => hI.over_ref k)
  clear hI hF
  go_enter Tryz.func12, Tryz.ntmps12
  go_wp2
  go_loopw [1, 5] (fun a i wr => ∃ k : Nat, i = .int .i64 k ∧ a = .int .i64 (trail st no k) ∧ (k : Int) ≤ st.last + 1 ∧ (∀ j : Nat, j < k → over st.d (trail st no (j + 1)) = trail st no (j + 1)) ∧ Below w.heap.size w wr) (fun _ i _ => (st.last + 1 - RowKit.intOf i).toNat)
  case atStart => exact ⟨0, rfl, rfl, by show (0 : Int) ≤ _; omega, fun j hj => absurd hj (Nat.not_lt_zero _), Below.refl _ _⟩
  case round =>
    obtain ⟨k, rfl, rfl, hk, hall, hb⟩ := hrel
    have HALL := Lib.hid hall
    have y2 := (hb.cell (p := ⟨F, 2, none⟩) hFl).trans x2
    clear hall
    by_cases hlt : (k : Int) ≤ st.last
    · have c1 := ca wr hb (trail st no k)
      have ht : refAbove st (trail st no k) = trail st no (k + 1) := (HA.out _).symm
      rw [ht] at c1
      have c2 := fun W (hb : Below w.heap.size w W) => co W hb (trail st no (k + 1))
      rw [← HO.out] at c2
      clear ca co ht
      by_cases hov : over st.d (trail st no (k + 1)) = trail st no (k + 1)
      · rw [hov] at c2
        have HS : Hid (∀ j : Nat, j < k + 1 → over st.d (trail st no (j + 1)) = trail st no (j + 1)) := Lib.hid fun j hj => by
          by_cases e : j = k
          · rw [e]; exact hov
          · exact HALL.out j (by omega)
        clear hov
        generalize hz : trail st no (k + 1) = z at *
        have HZ := Lib.hid hz
        clear hz
        go_wp2_with (first
          | (go_at_call 34; refine c1.mono ?_; rintro e w3 ⟨rfl, hb3⟩; have c23 := c2 w3 (below_two hb hb3))
          | (go_at_call 35; refine c23.mono ?_; rintro e w4 ⟨rfl, rfl⟩))
        go_roundw
        case rel => exact ⟨k + 1, by first | rfl | go_num, by rw [HZ.out], by omega, HS.out, below_two hb hb3⟩
        case measure => simp [RowKit.intOf]; omega
      · generalize over st.d (trail st no (k + 1)) = y at *
        generalize trail st no (k + 1) = z at *
        have hov' : (y != z) = true := by simpa using hov
        go_wp2_with (first
          | (go_at_call 34; refine c1.mono ?_; rintro e w3 ⟨rfl, hb3⟩; have c23 := c2 w3 (below_two hb hb3))
          | (go_at_call 35; refine c23.mono ?_; rintro e w4 ⟨rfl, rfl⟩))
        go_ret
        exact ⟨⟨_, rfl, true, rfl, fun e => by (cases e)⟩, below_two hb hb3⟩
    · clear ca co
      go_wp2
      go_ret
      exact ⟨⟨_, rfl, false, rfl, fun _ j hj => HALL.out j (by omega)⟩, hb⟩
end
set_option maxRecDepth 100000 in
set_option maxHeartbeats 16000000 in
theorem homes_any {v : Value} {ls : List It} {w : World} (hS : ItSees v ls w) :
    Calls Tryz.prog 4 #[v] w fun e w' => e = .returned (.bool true) ∧ Below w.heap.size w w' := by
  have hS1 := hS
  obtain ⟨oi, ci, rfl, hmi, _⟩ := hS
  have cF := Few_any hS1
  have cG := fun hf => Grow_any 60000 60000 (by decide) hS1 hf
  have hA := fun W => awake_any W
  clear hmi
  go_enter Tryz.func4, Tryz.ntmps4
  cases hf : few ls with
  | false =>
    rw [hf] at cF
    have cA := hA w
    clear cG hA hS1
    go_wp2_with (first
      | (go_at_call 6; refine cF.mono ?_; rintro e w2 ⟨rfl, rfl⟩)
      | (go_at_call 7; refine cA.mono ?_; rintro e w3 ⟨rfl, hb3⟩))
    go_ret
    exact ⟨rfl, hb3⟩
  | true =>
    rw [hf] at cF
    have cG1 := cG hf
    have hgood := good_all hf
    generalize growAll (begin_ bare 1 60000 60000) ls = st at *
    have HG := Lib.hid hgood
    have hlast := hgood.last
    have hone := hgood.gr.one
    have hlen : st.n.length < 100 := by have := hgood.gr.inv.len; omega
    clear cG hf hgood hS1
    go_upto_region 6 with (first
      | (go_at_call 6; refine cF.mono ?_; rintro e w2 ⟨rfl, rfl⟩)
      | (go_at_call 8; refine cG1.mono ?_; rintro e w2 ⟨X, A, M, F, rfl, ⟨mv, nv, dv, hW, hF⟩, hb2⟩))
    have x2 := hF.facts.2.2.1
    have hFl := hF.ltF
    have cw := fun W (h : Below w2.heap.size w2 W) (k : Wn) => Where_any (hW.below h) HG.out.gr.inv HG.out.rg k (by omega)
    have ch := fun W (h : Below w2.heap.size w2 W) k => hidden_any HG.out.gr.inv (hF.below h) (by omega) (by omega) k
    have co := fun W (h : Below w2.heap.size w2 W) k => Over_any (hW.below h) k
    have cp := fun W (h : Below w2.heap.size w2 W) (s : ByteArray) hs fl => Path_any (by omega) HG.out.gr.inv HG.out.tr HG.out.rg (hW.below h) 0 0 s hs fl
    have HBB := Lib.hid hb2
    clear cF cG1 hW hF hb2
    go_wp2
    go_loopw [6] (fun i wr => ∃ no : Int, i = .int .i64 no ∧ 1 ≤ no ∧ no ≤ st.last + 1 ∧ Below w2.heap.size w2 wr) (fun i _ => (st.last + 1 - RowKit.intOf i).toNat)
    case atStart => exact ⟨1, rfl, Int.le_refl _, by omega, Below.refl _ _⟩
    case round =>
      obtain ⟨no, rfl, hn1, hn2, hb⟩ := hrel
      have y2 := (hb.cell (p := ⟨F, 2, none⟩) hFl).trans x2
      by_cases hlt : no ≤ st.last
      · have hr1 : -9223372036854775808 ≤ no ∧ no ≤ 9223372036854775807 := by constructor <;> omega
        have c1 := cw wr hb ⟨no, hr1⟩
        dsimp only at c1
        cases hw : where_ st no with
        | none =>
          rw [hw] at c1
          dsimp only [Option.getD, Option.isSome] at c1
          clear cw ch co cp hw
          go_wp2_with (go_at_call 11; refine c1.mono ?_; rintro e w3 ⟨rfl, hb3⟩)
          go_roundw
          case rel => exact ⟨no + 1, by first | rfl | go_num, by omega, by omega, below_two hb hb3⟩
          case measure => simp [RowKit.intOf]; omega
        | some s =>
          rw [hw] at c1
          dsimp only [Option.getD, Option.isSome] at c1
          have hsz := size_ll s
          by_cases h4000 : s.length ≤ 4000
          · have h4000' : ¬ (4000 : Int) < (s.length : Int) := by omega
            have HW := Lib.hid hw
            have ch1 := fun W (h : Below w2.heap.size w2 W) => ch W h no
            clear cw ch hw
            go_upto_region 10 with (go_at_call 11; refine c1.mono ?_; rintro e w3 ⟨rfl, hb3⟩)
            have hb13 := below_two hb hb3
            have ch3 := ch1 w3 hb13
            clear c1 ch1
            go_cut [50] (fun c wx => Seen st no c ∧ Below w3.heap.size w3 wx)
            case first =>
              go_wp2_with (go_at_call 12; refine ch3.mono ?_; rintro e w4 ⟨⟨_, rfl, b, rfl, hbv⟩, hb4⟩; have HBV := Lib.hid hbv; clear hbv)
              go_meet
              case rel => exact ⟨⟨b, by first | rfl | (simp; done) | (simp; exact fun h => absurd h (by omega)), HBV.out⟩, hb4⟩
            case rest =>
              obtain ⟨⟨b, rfl, hbv⟩, hbc⟩ := hcut
              have HBV := Lib.hid hbv
              clear hbv ch3
              have hb14 := below_two hb13 hbc
              cases b with
              | true =>
                clear co cp
                go_step
                go_step
                go_wp2
                go_roundw
                case rel => exact ⟨no + 1, by first | rfl | go_num, by omega, by omega, hb14⟩
                case measure => simp [RowKit.intOf]; omega
              | false =>
                obtain ⟨⟨fd, fn, fo, fs⟩, ⟨gd, gn, go_, gs⟩, hp1, hp2, hf1, hg1⟩ := home_where HG.out.gr.inv HG.out.tr HW.out (HBV.out rfl) h4000
                dsimp only at hf1 hg1
                subst hf1
                subst hg1
                have ha := add_ll s [47, 46] (by simp only [List.length_cons, List.length_nil]; omega)
                have cp1 := fun W h => cp W h ⟨s.toArray⟩ (by omega) true
                have cp2 := fun W h => cp W h ⟨(s ++ [47, 46]).toArray⟩ (by rw [size_ll]; simp only [List.length_append, List.length_cons, List.length_nil]; omega) false
                have e1 : (⟨s.toArray⟩ : ByteArray).data.toList = s := by simp
                have e2 : (⟨(s ++ [47, 46]).toArray⟩ : ByteArray).data.toList = s ++ [47, 46] := by simp
                rw [e1, hp1] at cp1
                rw [e2, hp2] at cp2
                dsimp only [Fd.v] at cp1 cp2
                have co1 := fun W h => co W h no
                clear e1 e2 hp1 hp2 cp co
                generalize over st.d no = z at *
                generalize s ++ [47, 46] = sx2 at *
                go_step
                go_step
                have cp3 := cp1 _ hb14
                go_upto_region 12 with (go_at_call 9; refine cp3.mono ?_; rintro e w5 ⟨rfl, hb5⟩; have B5 := FdBox.new ⟨fd, fn, z, fs⟩ w5)
                have hal : Below w5.heap.size w5 (w5.alloc (.cells #[.int .i64 fd, .string ⟨fn.toArray⟩, .int .i64 z, .bool fs] 33)) := (Below.refl _ _).alloc (Nat.le_refl _) _
                have hb15 := below_two (below_two hb14 hb5) hal
                try dsimp only at B5
                generalize w5.alloc (.cells #[.int .i64 fd, .string ⟨fn.toArray⟩, .int .i64 z, .bool fs] 33) = W5 at *
                generalize w5.heap.size = b5 at *
                have cp4 := cp2 W5 hb15
                clear cp1 cp2 cp3 hb5 hal
                go_upto_region 13 with (go_at_call 9; refine cp4.mono ?_; rintro e w6 ⟨rfl, hb6⟩; have B6 := FdBox.new ⟨gd, gn, z, gs⟩ w6)
                have hal : Below w6.heap.size w6 (w6.alloc (.cells #[.int .i64 gd, .string ⟨gn.toArray⟩, .int .i64 z, .bool gs] 33)) := (Below.refl _ _).alloc (Nat.le_refl _) _
                have hb16 := below_two (below_two hb15 hb6) hal
                have B56 := (B5.below hb6).below hal
                try dsimp only at B6
                generalize w6.alloc (.cells #[.int .i64 gd, .string ⟨gn.toArray⟩, .int .i64 z, .bool gs] 33) = W6 at *
                generalize w6.heap.size = b6 at *
                have x2' := B56.facts.2.2.1
                have y2' := B6.facts.2.2.1
                dsimp only at x2' y2'
                have hl5 := B56.lt
                have hl6 := B6.lt
                have co6 := co1 _ (hb16.trans (((Below.refl W6.heap.size W6).drew).mono hb16.size))
                clear cp4 hb6 hal hb15 B5 B56 B6 co1
                have s2 : W6.drew.cell? ⟨b5, 2, none⟩ = some (.int .i64 z) := x2'
                have s3 : W6.drew.cell? ⟨b6, 2, none⟩ = some (.int .i64 z) := y2'
                go_region_held3 (fun w' => w'.cell? ⟨b5, 2, none⟩ = some (.int .i64 z) ∧ w'.cell? ⟨b6, 2, none⟩ = some (.int .i64 z)) (first | exact ⟨s2, s3⟩ | exact ⟨x2', y2'⟩ | exact ⟨u2, u3⟩ | go_keep)
                  (first
                    | (go_at_call 13; refine co6.mono ?_; rintro e w7 ⟨rfl, hb7⟩; have u2 := (hb7.cell (p := ⟨b5, 2, none⟩) hl5).trans s2; have u3 := (hb7.cell (p := ⟨b6, 2, none⟩) hl6).trans s3))
                all_goals
                  have hb17 := hb16.trans (((Below.refl W6.heap.size W6).drew.trans (hb7.mono (Nat.le_refl _))).mono hb16.size)
                  go_wp2
                  go_roundw
                  case rel => exact ⟨no + 1, by first | rfl | go_num, by omega, by omega, hb17⟩
                  case measure => simp [RowKit.intOf]; omega
          · have h4000' : (4000 : Int) < (s.length : Int) := by omega
            clear cw ch co cp hw
            go_wp2_with (go_at_call 11; refine c1.mono ?_; rintro e w3 ⟨rfl, hb3⟩)
            go_roundw
            case rel => exact ⟨no + 1, by first | rfl | go_num, by omega, by omega, below_two hb hb3⟩
            case measure => simp [RowKit.intOf]; omega
      · have cA := hA wr
        clear cw ch co cp
        go_wp2_with (go_at_call 7; refine cA.mono ?_; rintro e w3 ⟨rfl, hb3⟩)
        go_ret
        exact ⟨rfl, below_two (HBB.out.trans (hb.mono HBB.out.size)) hb3⟩
end Go.Proofs.YtlceaecibjbeaaaGreat.K
