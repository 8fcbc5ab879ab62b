/-
  What the reference's Clean does.
-/
import Derived.Test.YtfdjgbonjenldaaDoorRemain
import Derived.Deep.DeepCutAuto
namespace Go.Proofs.YtfdjgbonjenldaaDoor
open Go.RowKit Go.Shelf

theorem Texts.reads_cell {B n cap : Nat} {oa : Option Addr} {ps : List (List UInt8)} {w : World} (h : Texts B (.slice oa n cap) ps w) {k : Nat} {p : List UInt8} (hk : ps[k]? = some p) : ∃ g, oa = some ⟨g, 0, none⟩ ∧ w.cell? ⟨g, k, none⟩ = some (.string ⟨p.toArray⟩) := by
  obtain ⟨oa', cap', e, hc⟩ := h.reads
  simp only [Value.slice.injEq] at e
  obtain ⟨rfl, -, -⟩ := e
  exact hc k p hk
theorem abs_at {s : ByteArray} (h : 0 < s.size) (hc : (s[0]'h).toNat = 47) : M.abs s.data.toList = true := by
  unfold M.abs
  rw [head_at h]
  have : s[0]'h = 47 := UInt8.toNat_inj.1 hc
  rw [this]; rfl
theorem abs_not {s : ByteArray} (h : 0 < s.size) (hc : ¬ (s[0]'h).toNat = 47) : M.abs s.data.toList = false := by
  unfold M.abs
  rw [head_at h]
  have : ¬ s[0]'h = 47 := fun e => hc (by rw [e]; rfl)
  simp [this]
theorem abs_none {s : ByteArray} (h : ¬ 0 < s.size) : M.abs s.data.toList = false := by
  have : s.data.toList = [] := List.eq_nil_of_length_eq_zero (by rw [← Lib.size_eq]; omega)
  rw [this]; rfl
theorem rem_at {b : Bool} {ps k : List (List UInt8)} {i : Nat} {x : List UInt8} (h : ps[i]? = some x) (hk : M.rem b (ps.take i) = k) : M.rem b (ps.take (i + 1)) = M.step b k x := by
  rw [List.take_add_one, h, ← hk]; exact rem_snoc b _ x
theorem jn_at {k : List (List UInt8)} {i : Nat} {x : List UInt8} (h : k[i]? = some x) (hi : 0 < i) : M.jn (k.take (i + 1)) = (M.jn (k.take i) ++ [47]) ++ x := by
  rw [List.take_add_one, h]
  have hlt : i < k.length := (List.getElem?_eq_some_iff.1 h).1
  have : k.take i ≠ [] := fun e => by
    have := congrArg List.length e
    rw [List.length_take, List.length_nil] at this; omega
  show M.jn (k.take i ++ [x]) = _
  rw [M.jn_snoc _ _ this]; simp
theorem jn_first {k : List (List UInt8)} {x : List UInt8} (h : k[0]? = some x) : M.jn (k.take 1) = x := by
  cases k with
  | nil => simp at h
  | cons y k => simp at h; subst h; exact M.jn_one _
theorem jn_take (k : List (List UInt8)) (i : Nat) : (M.jn (k.take i)).length ≤ (M.jn k).length := by
  rw [M.jn_len, M.jn_len, List.length_take]
  have := M.total_take k i
  omega

set_option maxRecDepth 100000 in
set_option maxHeartbeats 4000000 in
theorem refClean_any (s : ByteArray) (hs : s.size ≤ 5000) (w : World) :
    Calls Tryd.prog 12 #[.string s] w fun e w' => e = .returned (.string ⟨(M.clean s.data.toList).toArray⟩) ∧ Below w.heap.size w w' := by
  obtain ⟨i0, hi, hz0, hz1, hz2⟩ := info_parts info9
  have cp := fun w => refParts_any s hs w
  have hpl : (M.parts s.data.toList).length ≤ 5001 := by
    have := M.parts_len s.data.toList
    rw [← Lib.size_eq] at this; omega
  obtain ⟨b, HB⟩ : ∃ b, Hid (M.abs s.data.toList = b) := ⟨_, Lib.hid rfl⟩
  have HK : Hid (M.kept s.data.toList = M.rem b (M.parts s.data.toList)) := Lib.hid (by rw [M.kept, HB.out])
  have HJ : Hid ((M.jn (M.kept s.data.toList)).length ≤ 5001) := Lib.hid (by
    have := (M.kept_len s.data.toList).2
    rw [← Lib.size_eq] at this; omega)
  obtain ⟨C, HC⟩ : ∃ C, Hid (M.clean s.data.toList = C) := ⟨_, Lib.hid rfl⟩
  rw [HC.out]
  generalize M.parts s.data.toList = ps at cp hpl HK
  go_enter Tryd.func12, Tryd.ntmps12
  go_upto_region 1 with fail
  go_cut [3] (fun c wx => c = .bool b ∧ wx = w)
  case first =>
    by_cases h0 : 0 < s.size
    · have h0' : (0 : Int) < s.size := by omega
      by_cases h1 : (s[0]'h0).toNat = 47
      · have HA := Lib.hid (abs_at h0 h1)
        go_wp2
        go_meet
        case rel => exact ⟨by rw [← HB.out, HA.out], rfl⟩
      · have HA := Lib.hid (abs_not h0 h1)
        have h1' : (((s[0]'h0).toNat : Int) == 47) = false := by simpa using (show ¬ ((s[0]'h0).toNat : Int) = 47 by omega)
        go_wp2
        go_meet
        case rel => exact ⟨by rw [← HB.out, HA.out], rfl⟩
    · have h0' : ¬ (0 : Int) < s.size := by omega
      have HA := Lib.hid (abs_none h0)
      go_wp2
      go_meet
      case rel => exact ⟨by rw [← HB.out, HA.out], rfl⟩
  case rest =>
    obtain ⟨rfl, rfl⟩ := hcut
    go_wp2_with (go_at_call 25; refine (cp _).mono ?_; rintro e w1 ⟨v0, rfl, hT, hb1⟩; obtain ⟨oa, cap, rfl, hcell⟩ := hT.reads)
    go_loopw [4, 6] (fun v i wr => ∃ j : Nat, j ≤ ps.length ∧ i = .int .i64 j ∧ Texts w1.heap.size v (M.rem b (ps.take j)) wr ∧ Below w1.heap.size w1 wr) (fun _ i _ => ps.length - (intOf i).toNat)
    case atStart => exact ⟨0, Nat.zero_le _, rfl, Texts.nil _ _, Below.refl _ _⟩
    case round =>
      obtain ⟨i, hik, rfl, hown, hb⟩ := hrel
      have HB1 := Lib.hid hb1
      clear hb1 cp
      have hrl : (M.rem b (ps.take i)).length ≤ 5001 := by
        have := rem_len b (ps.take i)
        rw [List.length_take] at this; omega
      obtain ⟨k, HR⟩ : ∃ k, Hid (M.rem b (ps.take i) = k) := ⟨_, Lib.hid rfl⟩
      rw [HR.out] at hown hrl
      obtain ⟨oa2, cap2, rfl, hcell2⟩ := hown.reads
      by_cases hlt : i < ps.length
      · obtain ⟨x, hx⟩ : ∃ x, ps[i]? = some x := ⟨_, List.getElem?_eq_getElem hlt⟩
        obtain ⟨g, rfl, hc0⟩ := (hT.below hb).reads_cell hx
        have HST := Lib.hid (rem_at hx HR.out)
        have HT := Lib.hid hT
        clear hT hx hcell
        by_cases hxu : x = [46, 46]
        · subst hxu
          by_cases hlv : M.leaves k
          · have HS : Hid (M.rem b (ps.take (i + 1)) = k.dropLast) := Lib.hid (by rw [HST.out, M.step_leave b hlv])
            obtain ⟨q, hq, hqn⟩ := hlv
            obtain ⟨m, hm⟩ : ∃ m, k.length = m + 1 := by
              cases k with
              | nil => cases hq
              | cons a k => exact ⟨k.length, rfl⟩
            have hkm : k[m]? = some q := by rw [List.getLast?_eq_getElem?, hm] at hq; exact hq
            obtain ⟨g2, rfl, hcm⟩ := hcell2 m q hkm
            have hqn' : (q == [46, 46]) = false := by simpa using hqn
            have hsh : Texts w1.heap.size (.slice (some ⟨g2, 0, none⟩) m cap2) k.dropLast wr := hown.shrink (by rw [List.dropLast_eq_take, hm]; rfl) (by rw [List.length_dropLast, hm]; rfl)
            have hcap : (m : Int) ≤ cap2 := by have := Texts.cap_le hown; omega
            have HH := Lib.hid hsh
            have hm' : (k.length : Int) - 1 = m := by omega
            have hml : m < k.length := by omega
            have hmp : (0 : Int) < k.length := by omega
            clear hsh hq hkm hqn hown hm hcell2
            go_wp2
            go_roundw
            case rel => exact ⟨i + 1, by omega, by go_num, by rw [HS.out]; exact HH.out, hb⟩
            case measure => simp [intOf]; omega
          · cases b with
            | true =>
              have HS : Hid (M.rem true (ps.take (i + 1)) = k) := Lib.hid (by rw [HST.out, M.step_top hlv])
              have HO := Lib.hid hown; clear hown
              by_cases hk : k.length = 0
              · have hk' : ¬ (0 : Int) < k.length := by omega
                clear hcell2 hk
                go_wp2
                go_roundw
                case rel => exact ⟨i + 1, by omega, by go_num, by rw [HS.out]; exact HO.out, hb⟩
                case measure => simp [intOf]; omega
              · obtain ⟨m, hm⟩ : ∃ m, k.length = m + 1 := ⟨k.length - 1, by omega⟩
                obtain ⟨g2, rfl, hcm⟩ := hcell2 m [46, 46] (last_up hlv hm)
                have hm' : (k.length : Int) - 1 = m := by omega
                have hml : m < k.length := by omega
                have hmp : (0 : Int) < k.length := by omega
                clear hcell2 hm hk
                go_wp2
                go_roundw
                case rel => exact ⟨i + 1, by omega, by go_num, by rw [HS.out]; exact HO.out, hb⟩
                case measure => simp [intOf]; omega
            | false =>
              have HS : Hid (M.rem false (ps.take (i + 1)) = k ++ [[46, 46]]) := Lib.hid (by rw [HST.out, M.step_up hlv])
              by_cases hk : k.length = 0
              · have hk' : ¬ (0 : Int) < k.length := by omega
                clear hcell2 hk
                go_wp2_with (at_builtin; refine wpList_append_own _ rfl _ _ 33 rfl w1.heap.size 9 i0 (.string ⟨#[]⟩) 1 16 Tryd.underlying33 hi hz0 hz1 hz2 rfl (by decide) _ _ _ rfl (hown.alloc _) ⟨wr.heap.size, 0, none⟩ 1 1 [str [46, 46]] rfl rfl (cell_one_new _ _ _) (by simp [Value.oneCell', str]) (by unfold maxLen; omega) (by omega) (by have := hb.size; simp; omega) ?_; intro v' w2 hown' hgrow _)
                go_roundw
                case rel => exact ⟨i + 1, by omega, by go_num, by rw [HS.out]; exact Texts.snoc hown', (hb.alloc hb.size _).grown hgrow (by have := hb.size; simp; omega) (fun k hk => (hown.lt k hk).1)⟩
                case measure => simp [intOf]; omega
              · obtain ⟨m, hm⟩ : ∃ m, k.length = m + 1 := ⟨k.length - 1, by omega⟩
                obtain ⟨g2, rfl, hcm⟩ := hcell2 m [46, 46] (last_up hlv hm)
                have hm' : (k.length : Int) - 1 = m := by omega
                have hml : m < k.length := by omega
                have hmp : (0 : Int) < k.length := by omega
                clear hcell2 hm hk
                go_wp2_with (at_builtin; refine wpList_append_own _ rfl _ _ 33 rfl w1.heap.size 9 i0 (.string ⟨#[]⟩) 1 16 Tryd.underlying33 hi hz0 hz1 hz2 rfl (by decide) _ _ _ rfl (hown.alloc _) ⟨wr.heap.size, 0, none⟩ 1 1 [str [46, 46]] rfl rfl (cell_one_new _ _ _) (by simp [Value.oneCell', str]) (by unfold maxLen; omega) (by omega) (by have := hb.size; simp; omega) ?_; intro v' w2 hown' hgrow _)
                go_roundw
                case rel => exact ⟨i + 1, by omega, by go_num, by rw [HS.out]; exact Texts.snoc hown', (hb.alloc hb.size _).grown hgrow (by have := hb.size; simp; omega) (fun k hk => (hown.lt k hk).1)⟩
                case measure => simp [intOf]; omega
        · have HS : Hid (M.rem b (ps.take (i + 1)) = k ++ [x]) := Lib.hid (by rw [HST.out, M.step_name b k hxu])
          have hxu' : (x == [46, 46]) = false := by simpa using hxu
          clear hcell2
          go_wp2_with (at_builtin; refine wpList_append_own _ rfl _ _ 33 rfl w1.heap.size 9 i0 (.string ⟨#[]⟩) 1 16 Tryd.underlying33 hi hz0 hz1 hz2 rfl (by decide) _ _ _ rfl (hown.alloc _) ⟨wr.heap.size, 0, none⟩ 1 1 [str x] rfl rfl (cell_one_new _ _ _) (by simp [Value.oneCell', str]) (by unfold maxLen; omega) (by omega) (by have := hb.size; simp; omega) ?_; intro v' w2 hown' hgrow _)
          go_roundw
          case rel => exact ⟨i + 1, by omega, by go_num, by rw [HS.out]; exact Texts.snoc hown', (hb.alloc hb.size _).grown hgrow (by have := hb.size; simp; omega) (fun k hk => (hown.lt k hk).1)⟩
          case measure => simp [intOf]; omega
      · have HE : Hid (M.kept s.data.toList = k) := Lib.hid (by rw [HK.out, ← HR.out, List.take_of_length_le (by omega)])
        have hjl : (M.jn k).length ≤ 5001 := by have := HJ.out; rwa [HE.out] at this
        have HCa : Hid (b = true → C = [47] ++ M.jn k) := Lib.hid (fun e => by rw [← HC.out, M.clean_abs (HB.out.trans e), HE.out]; rfl)
        have HCn : Hid (b = false → M.jn k = [] → C = [46]) := Lib.hid (fun e h => by rw [← HC.out]; exact M.clean_none (HB.out.trans e) (by rw [HE.out]; exact h))
        have HCs : Hid (b = false → M.jn k ≠ [] → C = M.jn k) := Lib.hid (fun e h => by rw [← HC.out, M.clean_some (HB.out.trans e) (by rw [HE.out]; exact h), HE.out])
        have HBW : Hid (Below wc.heap.size wc wr) := Lib.hid (HB1.out.trans (hb.mono HB1.out.size))
        clear hT hcell hb HB1 hown
        go_wp2
        go_loop [7, 8] (fun v i => ∃ j : Nat, j ≤ k.length ∧ i = .int .i64 j ∧ v = .string ⟨(M.jn (k.take j)).toArray⟩) (fun _ i => k.length - (intOf i).toNat)
        case atStart => exact ⟨0, Nat.zero_le _, rfl, rfl⟩
        case round =>
          obtain ⟨j, hj, rfl, rfl⟩ := hrel
          by_cases hjk : j < k.length
          · obtain ⟨x, hx⟩ : ∃ x, k[j]? = some x := ⟨_, List.getElem?_eq_getElem hjk⟩
            obtain ⟨g, rfl, hc0⟩ := hcell2 j x hx
            have h1 := jn_take k j
            have h2 := jn_take k (j + 1)
            by_cases hj0 : j = 0
            · subst hj0
              rw [jn_first hx] at h2
              have HN := Lib.hid (jn_first hx)
              have ha := add_ll [] x (by simp; omega)
              have e0 : M.jn (k.take 0) = [] := rfl
              rw [e0]
              clear e0 hx hcell2 h1
              go_wp2
              go_round
              case rel => exact ⟨1, by omega, by go_num, by rw [HN.out]⟩
              case measure => simp [intOf]; omega
            · have hjp : (0 : Int) < j := by omega
              have HN := Lib.hid (jn_at hx (by omega))
              rw [HN.out] at h2
              generalize M.jn (k.take j) = t at h1 h2 HN ⊢
              have ha := add_ll t [47] (by simp; omega)
              have ha2 := add_ll (t ++ [47]) x (by simp at h2 ⊢; omega)
              clear hx hcell2 h1 h2
              go_wp2
              go_round
              case rel => exact ⟨j + 1, by omega, by go_num, by rw [HN.out, List.append_assoc]; rfl⟩
              case measure => simp [intOf]; omega
          · have HJK : Hid (k.take j = k) := Lib.hid (List.take_of_length_le (by omega))
            rw [HJK.out]
            clear hcell2
            generalize M.jn k = t at hjl HCa HCn HCs ⊢
            cases b with
            | true =>
              have ha := add_ll [47] t (by simp; omega)
              have HX := Lib.hid (HCa.out rfl)
              clear HCa HCn HCs
              go_wp2
              go_ret
              exact ⟨by rw [HX.out]; rfl, HBW.out⟩
            | false =>
              by_cases ht : t = []
              · subst ht
                have HX := Lib.hid (HCn.out rfl rfl)
                clear HCa HCn HCs
                go_wp2
                go_ret
                exact ⟨by rw [HX.out]; rfl, HBW.out⟩
              · have ht' : t.isEmpty = false := by cases t <;> simp_all
                have HX := Lib.hid (HCs.out rfl ht)
                clear HCa HCn HCs
                go_wp2
                go_ret
                exact ⟨by rw [HX.out]; rfl, HBW.out⟩
end Go.Proofs.YtfdjgbonjenldaaDoor
