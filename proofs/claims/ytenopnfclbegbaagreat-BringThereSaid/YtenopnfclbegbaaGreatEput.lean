/-
  A slice of entries with a part replaced; Put and Drop: beside Efind.
-/
import Derived.Test.YtenopnfclbegbaaGreatEfind
namespace Go.Proofs.YtenopnfclbegbaaGreat.E
open Go.RowKit Go.Shelf

theorem sees_take {oa : Option Addr} {cap : Nat} {ls : List Ent} {w : World} (h : Sees (.slice oa ls.length cap) ls w) (p : Nat) (hp : p ≤ ls.length) : Sees (.slice oa (ls.take p).length cap) (ls.take p) w := by
  obtain ⟨oa', cap', he, hm, hc⟩ := h
  cases he
  have hl : (ls.take p).length = p := by rw [List.length_take, Nat.min_eq_left hp]
  refine ⟨_, cap, rfl, by omega, fun k x hk => ?_⟩
  rw [List.getElem?_take] at hk
  split at hk
  · exact hc k x hk
  · cases hk
theorem sees_drop {g o cap : Nat} {ls : List Ent} {w : World} (h : Sees (.slice (some ⟨g, o, none⟩) ls.length cap) ls w) (p c : Nat) (hc : ls.length - p ≤ c ∧ c ≤ maxLen) : Sees (.slice (some ⟨g, o + p * 2, none⟩) (ls.drop p).length c) (ls.drop p) w := by
  obtain ⟨oa', cap', he, hm, hcc⟩ := h
  cases he
  refine ⟨_, c, rfl, by rw [List.length_drop]; exact hc, fun k x hk => ?_⟩
  rw [List.getElem?_drop] at hk
  obtain ⟨g', o', ha, h0, h1⟩ := hcc _ x hk
  cases ha
  refine ⟨g, o + p * 2, rfl, ?_, ?_⟩
  · rw [show o + p * 2 + k * 2 = o + (p + k) * 2 by omega]; exact h0
  · rw [show o + p * 2 + k * 2 + 1 = o + (p + k) * 2 + 1 by omega]; exact h1
theorem sees_some {oa : Option Addr} {m cap : Nat} {ls : List Ent} {w : World} (h : Sees (.slice oa m cap) ls w) (hl : 0 < ls.length) : ∃ g o, oa = some ⟨g, o, none⟩ := by
  obtain ⟨oa', cap', he, hm, hcc⟩ := h
  cases he
  obtain ⟨g, o, e, _⟩ := hcc 0 (ls[0]) (List.getElem?_eq_getElem hl)
  exact ⟨g, o, e⟩
theorem flat_ne {ls : List Ent} : (flat ls).length = ls.length * 2 := flat_len ls

theorem made_below {w w1 : World} (h : w.grownBy w1 none) : Below w.heap.size w w1 := ⟨h.os, h.tape, h.output, h.size, fun k hk => h.block k hk (by simp)⟩
theorem made_row {B n : Nat} {xs : List Value} {w1 : World} (h : w1.ownsRow B 89 2 (.slice (some ⟨B, 0, none⟩) n n) n xs) : ∃ Z : List Value, Z.length = n * 2 ∧ Hid (w1.heap[B]? = some (.cells Z.toArray 89 (0, 0))) := by
  rcases h.2 with ⟨e, _⟩ | ⟨g, cap, cur, e, _, hg, _, _, hs, _⟩
  · cases e
  · cases e
    exact ⟨cur.toList, by rw [Array.length_toList]; exact hs, show _ = _ by rw [Array.toArray_toList]; exact hg⟩
theorem spliced_own {G n p k r : Nat} {A O D : List Ent} {Z : List Value} {w : World} (hn : n = p + k + r) (hA : A.length = p) (hO : O.length = k) (hD : D.length = r) (hZ : Z.length = n * 2) (hnb : n ≤ 200001)
    (hg : Hid (w.heap[G]? = some (.cells (splice (splice (splice Z 0 (flat A)) (p * 2) (flat O)) ((p + k) * 2) (flat D)).toArray 89 (0, 0)))) : Own G (.slice (some ⟨G, 0, none⟩) n n) (A ++ (O ++ D)) w := by
  have e : splice (splice (splice Z 0 (flat A)) (p * 2) (flat O)) ((p + k) * 2) (flat D) = flat (A ++ (O ++ D)) := by
    rw [Nat.add_mul, splice_splice_splice Z (flat A) (flat O) (flat D) (p * 2) (k * 2) (by rw [flat_len, hA]) (by rw [flat_len, hO]) (by rw [flat_len, hZ, hD]; omega), flat_app, flat_app]
  have hl : (A ++ (O ++ D)).length = n := by simp; omega
  have hg' := hg.out
  rw [e] at hg'
  refine ⟨flat_len _, .inr ⟨G, n, _, by rw [hl], Nat.le_refl _, hg', by omega, by unfold maxLen; omega, by rw [List.size_toArray, flat_len, hl], ?_⟩⟩
  rw [hl]
  exact List.take_of_length_le (by rw [flat_len, hl]; exact Nat.le_refl _)

set_option maxRecDepth 100000 in
set_option maxHeartbeats 4000000 in
theorem replaced_mid {oa : Option Addr} {cap : Nat} {ls : List Ent} {ob : Option Addr} {capb : Nat} {os : List Ent} {w : World} (hS : Sees (.slice oa ls.length cap) ls w) (hT : Sees (.slice ob os.length capb) os w) (p q : Nat) (hpq : p ≤ q) (hq : q < ls.length) (hl : ls.length ≤ 100000) (ho : os.length ≤ 1000) :
    Calls Tryz.prog 76 #[.slice oa ls.length cap, .int .i64 p, .int .i64 q, .slice ob os.length capb] w fun e w' => ∃ u, e = .returned u ∧ Own w.heap.size u (ls.take p ++ (os ++ ls.drop q)) w' ∧ Below w.heap.size w w' := by
  obtain ⟨i0, hi0, hz0, hz1, hz2⟩ := info_parts infoE
  obtain ⟨g, o, rfl⟩ := sees_some hS (by omega)
  have hcapm : ls.length ≤ cap ∧ cap ≤ maxLen := by
    obtain ⟨_, _, he, hm, _⟩ := hS; cases he; exact hm
  obtain ⟨m, hm⟩ : ∃ m, ls.length = m := ⟨_, rfl⟩
  obtain ⟨k, hk⟩ : ∃ k, os.length = k := ⟨_, rfl⟩
  obtain ⟨n, hn⟩ : ∃ n, n = p + k + (m - q) := ⟨_, rfl⟩
  have hS1 := Lib.hid (sees_take hS p (by omega))
  have hS2 := Lib.hid (sees_drop hS q (cap - q) (by omega))
  have hT1 := Lib.hid hT
  have hl1 : (ls.take p).length = p := by rw [List.length_take, Nat.min_eq_left (by omega)]
  have hl2 : (ls.drop q).length = m - q := by rw [List.length_drop, hm]
  rw [hl1] at hS1; rw [hl2] at hS2
  have HL1 := Lib.hid hl1; have HL2 := Lib.hid hl2; have HK := Lib.hid hk; have HN := Lib.hid hn
  rw [hm] at hq hl hcapm ⊢
  rw [hk] at hT1 ho ⊢
  have hnZ : (p : Int) + (k : Int) + (m : Int) - (q : Int) = (n : Int) := by omega
  have hnp : ¬ n = p := by omega
  have hnpk : ¬ n = p + k := by omega
  have hcq : ¬ cap = q := by omega
  have hc0 : ¬ cap = 0 := by omega
  have hnb : n ≤ 200001 := by omega
  have hpn : p ≤ n := by omega
  have hpkn : p + k ≤ n := by omega
  have hqc : q ≤ cap := by omega
  have hpc : p ≤ cap := by omega
  clear hS hT hl1 hl2 hm hk hn
  go_enter Tryz.func76, Tryz.ntmps76
  go_wp2_with (first
    | (at_make; refine wpList_make_full _ rfl _ _ 46 rfl w.heap.size 89 i0 (.agg #[.string ⟨#[]⟩, .int .i64 0]) 2 Tryz.underlying46 hi0 hz0 hz1 .i64 .i64 _ _ n rfl rfl rfl rfl (by rw [hz2]; omega) (by unfold maxLen; omega) (Nat.le_refl _) ?_; intro w1 hown hgrow; have hB1 : Below w.heap.size w w1 := made_below hgrow; obtain ⟨Z, hZl, hZ⟩ := made_row hown; have HS1 := Lib.hid (hS1.out.below hB1); have HT1 := Lib.hid (hT1.out.below hB1); have HS2 := Lib.hid (hS2.out.below hB1); clear hown hgrow)
    | (refine wpList_copy2 rfl (.tmp 20) (.tmp 23) rfl (some ⟨w.heap.size, 0, none⟩) (some ⟨g, o, none⟩) n n p cap rfl rfl (ls.take p) HL1.out.symm w.heap.size 0 Z (by rw [HL1.out]; exact HS1.out) hZ.out (by rw [HL1.out]; exact hpn) (fun _ => rfl) (by rw [HL1.out, hZl]; omega) w.heap.size w hB1 (Nat.le_refl _) ?_; intro w2 hg2 hB2; have hl2 : (splice Z 0 (flat (ls.take p))).length = n * 2 := by rw [length_splice _ _ _ (by rw [flat_len, HL1.out, hZl]; omega), hZl])
    | (refine wpList_copy2 rfl (.tmp 27) (.tmp 28) rfl (some ⟨w.heap.size, p * 2, none⟩) ob (n - p) (n - p) k capb rfl rfl os HK.out.symm w.heap.size (p * 2) (splice Z 0 (flat (ls.take p))) (by rw [HK.out]; exact hT1.out.below hB2) hg2.out (by rw [HK.out]; omega) (fun _ => rfl) (by rw [HK.out, hl2]; omega) w.heap.size w hB2 (Nat.le_refl _) ?_; intro w3 hg3 hB3))
  have hl3 : (splice (splice Z 0 (flat (ls.take p))) (p * 2) (flat os)).length = n * 2 := by rw [length_splice _ _ _ (by rw [flat_len, HK.out, hl2]; omega), hl2]
  have hpkt : ((p : Int) + (k : Int)).toNat = p + k := by omega
  have hpkw : IntKind.i64.wrap ((p : Int) + (k : Int)) = (p : Int) + (k : Int) := IntWalk.i64_in _ (by omega)
  have hpk0 : (0 : Int) ≤ (p : Int) + (k : Int) := by omega
  have hqm : (q : Int) ≤ (m : Int) := by omega
  have hqm2 : q ≤ m := by omega
  have hpk1 : (p : Int) + (k : Int) ≤ (n : Int) := by omega
  go_region_law (refine step_copy2 rfl (.tmp 35) (.tmp 38) rfl (some ⟨w.heap.size, (p + k) * 2, none⟩) (some ⟨g, o + q * 2, none⟩) (n - (p + k)) (n - (p + k)) (m - q) (cap - q) (by simp [Act.eval, Act.put]) (by simp [Act.eval, Act.put]) (ls.drop q) HL2.out.symm w.heap.size ((p + k) * 2) (splice (splice Z 0 (flat (ls.take p))) (p * 2) (flat os)) (by rw [HL2.out]; exact hS2.out.below hB3.drew) hg3.out (by rw [HL2.out]; omega) (fun _ => rfl) (by rw [HL2.out, hl3]; omega) w.heap.size w hB3.drew (Nat.le_refl _) ?_; intro w4 hg4 hB4)
  all_goals go_wp2
  all_goals go_ret
  all_goals exact ⟨_, rfl, spliced_own HN.out HL1.out HK.out HL2.out hZl hnb hg4, hB4⟩

set_option maxRecDepth 100000 in
set_option maxHeartbeats 4000000 in
theorem replaced_end1 {oa : Option Addr} {cap : Nat} {ls : List Ent} {ob : Option Addr} {capb : Nat} {os : List Ent} {w : World} (hS : Sees (.slice oa ls.length cap) ls w) (hT : Sees (.slice ob os.length capb) os w) (p : Nat) (hpq : p ≤ ls.length) (hl : ls.length ≤ 100000) (ho : os.length ≤ 1000) (hpos : 0 < os.length) (hcq : ¬ cap = ls.length) :
    Calls Tryz.prog 76 #[.slice oa ls.length cap, .int .i64 p, .int .i64 ls.length, .slice ob os.length capb] w fun e w' => ∃ u, e = .returned u ∧ Own w.heap.size u (ls.take p ++ (os ++ [])) w' ∧ Below w.heap.size w w' := by
  obtain ⟨i0, hi0, hz0, hz1, hz2⟩ := info_parts infoE
  have hcapm : ls.length ≤ cap ∧ cap ≤ maxLen := by
    obtain ⟨_, _, he, hm, _⟩ := hS; cases he; exact hm
  obtain ⟨m, hm⟩ : ∃ m, ls.length = m := ⟨_, rfl⟩
  obtain ⟨k, hk⟩ : ∃ k, os.length = k := ⟨_, rfl⟩
  have hS1 := Lib.hid (sees_take hS p hpq)
  have hT1 := Lib.hid hT
  have hl1 : (ls.take p).length = p := by rw [List.length_take, Nat.min_eq_left hpq]
  rw [hl1] at hS1
  have HL1 := Lib.hid hl1
  rw [hm] at hl hcapm hpq hcq ⊢
  have HK := Lib.hid hk
  rw [hk] at hT1 ho hpos ⊢
  have hk0 : ¬ k = 0 := by omega
  have hnb : p + k ≤ 200001 := by omega
  have hpkt : ((p : Int) + (k : Int)).toNat = p + k := by omega
  have hpkw : IntKind.i64.wrap ((p : Int) + (k : Int)) = (p : Int) + (k : Int) := IntWalk.i64_in _ (by omega)
  have hpk0 : (0 : Int) ≤ (p : Int) + (k : Int) := by omega
  have hpc : p ≤ cap := by omega
  have hc0 : ¬ cap = 0 := by omega
  clear hS hT hl1 hm hk
  go_enter Tryz.func76, Tryz.ntmps76
  go_wp2_with (first
    | (at_make; refine wpList_make_full _ rfl _ _ 46 rfl w.heap.size 89 i0 (.agg #[.string ⟨#[]⟩, .int .i64 0]) 2 Tryz.underlying46 hi0 hz0 hz1 .i64 .i64 _ _ (p + k) rfl rfl (by omega) (by omega) (by rw [hz2]; omega) (by unfold maxLen; omega) (Nat.le_refl _) ?_; intro w1 hown hgrow; have hB1 : Below w.heap.size w w1 := made_below hgrow; obtain ⟨Z, hZl, hZ⟩ := made_row hown; clear hown hgrow)
    | (refine wpList_copy2 rfl (.tmp 20) (.tmp 23) rfl (some ⟨w.heap.size, 0, none⟩) oa (p + k) (p + k) p cap rfl rfl (ls.take p) HL1.out.symm w.heap.size 0 Z (by rw [HL1.out]; exact hS1.out.below hB1) hZ.out (by rw [HL1.out]; omega) (fun _ => rfl) (by rw [HL1.out, hZl]; omega) w.heap.size w hB1 (Nat.le_refl _) ?_; intro w2 hg2 hB2; have hl2 : (splice Z 0 (flat (ls.take p))).length = (p + k) * 2 := by rw [length_splice _ _ _ (by rw [flat_len, HL1.out, hZl]; omega), hZl])
    | (refine wpList_copy2 rfl (.tmp 27) (.tmp 28) rfl (some ⟨w.heap.size, p * 2, none⟩) ob k k k capb rfl rfl os HK.out.symm w.heap.size (p * 2) (splice Z 0 (flat (ls.take p))) (by rw [HK.out]; exact hT1.out.below hB2) hg2.out (by rw [HK.out]; exact Nat.le_refl _) (fun _ => rfl) (by rw [HK.out, hl2]; omega) w.heap.size w hB2 (Nat.le_refl _) ?_; intro w3 hg3 hB3))
  have hl3 : (splice (splice Z 0 (flat (ls.take p))) (p * 2) (flat os)).length = (p + k) * 2 := by rw [length_splice _ _ _ (by rw [flat_len, HK.out, hl2]; omega), hl2]
  go_region_law (refine step_copy2 rfl (.tmp 35) (.tmp 38) rfl (some ⟨w.heap.size, 0, none⟩) (Option.map (fun x => x.add (m * 2)) oa) 0 0 0 (cap - m) (by simp [Act.eval, Act.put]) (by simp [Act.eval, Act.put]) [] rfl w.heap.size ((p + k) * 2) (splice (splice Z 0 (flat (ls.take p))) (p * 2) (flat os)) (sees_none _ _ (by omega) _) hg3.out (Nat.le_refl _) (fun h => absurd h (by decide)) (by rw [List.length_nil, hl3]; omega) w.heap.size w hB3.drew (Nat.le_refl _) ?_; intro w4 hg4 hB4)
  all_goals go_wp2
  all_goals go_ret
  all_goals exact ⟨_, rfl, spliced_own (k := k) (r := 0) rfl HL1.out HK.out rfl hZl (by omega) hg4, hB4⟩
set_option maxRecDepth 100000 in
set_option maxHeartbeats 4000000 in
theorem replaced_end2 {oa : Option Addr} {cap : Nat} {ls : List Ent} {ob : Option Addr} {capb : Nat} {w : World} (hS : Sees (.slice oa ls.length cap) ls w) (hT : Sees (.slice ob 0 capb) [] w) (p : Nat) (hpq : p ≤ ls.length) (hl : ls.length ≤ 100000) (hcq : ¬ cap = ls.length) :
    Calls Tryz.prog 76 #[.slice oa ls.length cap, .int .i64 p, .int .i64 ls.length, .slice ob 0 capb] w fun e w' => ∃ u, e = .returned u ∧ Own w.heap.size u (ls.take p ++ ([] ++ [])) w' ∧ Below w.heap.size w w' := by
  obtain ⟨i0, hi0, hz0, hz1, hz2⟩ := info_parts infoE
  have hcapm : ls.length ≤ cap ∧ cap ≤ maxLen := by
    obtain ⟨_, _, he, hm, _⟩ := hS; cases he; exact hm
  obtain ⟨m, hm⟩ : ∃ m, ls.length = m := ⟨_, rfl⟩
  have hS1 := Lib.hid (sees_take hS p hpq)
  have hT1 := Lib.hid hT
  have hl1 : (ls.take p).length = p := by rw [List.length_take, Nat.min_eq_left hpq]
  rw [hl1] at hS1
  have HL1 := Lib.hid hl1
  rw [hm] at hl hcapm hpq hcq ⊢
  have hpc : p ≤ cap := by omega
  have hc0 : ¬ cap = 0 := by omega
  have hpw : IntKind.i64.wrap (p : Int) = (p : Int) := IntWalk.i64_in _ (by omega)
  clear hS hT hl1 hm
  go_enter Tryz.func76, Tryz.ntmps76
  go_wp2_with (first
    | (at_make; refine wpList_make_full _ rfl _ _ 46 rfl w.heap.size 89 i0 (.agg #[.string ⟨#[]⟩, .int .i64 0]) 2 Tryz.underlying46 hi0 hz0 hz1 .i64 .i64 _ _ p rfl rfl rfl rfl (by rw [hz2]; omega) (by unfold maxLen; omega) (Nat.le_refl _) ?_; intro w1 hown hgrow; have hB1 : Below w.heap.size w w1 := made_below hgrow; obtain ⟨Z, hZl, hZ⟩ := made_row hown; clear hown hgrow)
    | (refine wpList_copy2 rfl (.tmp 20) (.tmp 23) rfl (some ⟨w.heap.size, 0, none⟩) oa p p p cap rfl rfl (ls.take p) HL1.out.symm w.heap.size 0 Z (by rw [HL1.out]; exact hS1.out.below hB1) hZ.out (by rw [HL1.out]; exact Nat.le_refl _) (fun _ => rfl) (by rw [HL1.out, hZl]; omega) w.heap.size w hB1 (Nat.le_refl _) ?_; intro w2 hg2 hB2; have hl2 : (splice Z 0 (flat (ls.take p))).length = p * 2 := by rw [length_splice _ _ _ (by rw [flat_len, HL1.out, hZl]; omega), hZl])
    | (refine wpList_copy2 rfl (.tmp 27) (.tmp 28) rfl (some ⟨w.heap.size, 0, none⟩) ob 0 0 0 capb rfl rfl [] rfl w.heap.size (p * 2) (splice Z 0 (flat (ls.take p))) (hT1.out.below hB2) hg2.out (by rw [List.length_nil]; exact Nat.le_refl _) (fun h => absurd h (by decide)) (by rw [List.length_nil, hl2]; omega) w.heap.size w hB2 (Nat.le_refl _) ?_; intro w3 hg3 hB3))
  have hl3 : (splice (splice Z 0 (flat (ls.take p))) (p * 2) (flat [])).length = p * 2 := by rw [length_splice _ _ _ (by rw [flat_len, List.length_nil, hl2]; omega), hl2]
  go_region_law (refine step_copy2 rfl (.tmp 35) (.tmp 38) rfl (some ⟨w.heap.size, 0, none⟩) (Option.map (fun x => x.add (m * 2)) oa) 0 0 0 (cap - m) (by simp [Act.eval, Act.put]) (by simp [Act.eval, Act.put]) [] rfl w.heap.size (p * 2) (splice (splice Z 0 (flat (ls.take p))) (p * 2) (flat [])) (sees_none _ _ (by omega) _) hg3.out (Nat.le_refl _) (fun h => absurd h (by decide)) (by rw [List.length_nil, hl3]; omega) w.heap.size w hB3.drew (Nat.le_refl _) ?_; intro w4 hg4 hB4)
  all_goals go_wp2
  all_goals go_ret
  all_goals exact ⟨_, rfl, spliced_own (k := 0) (r := 0) rfl HL1.out rfl rfl hZl (by omega) hg4, hB4⟩
set_option maxRecDepth 100000 in
set_option maxHeartbeats 4000000 in
theorem replaced_end3 {oa : Option Addr} {ls : List Ent} {ob : Option Addr} {capb : Nat} {os : List Ent} {w : World} (hS : Sees (.slice oa ls.length ls.length) ls w) (hT : Sees (.slice ob os.length capb) os w) (p : Nat) (hpq : p ≤ ls.length) (hl : ls.length ≤ 100000) (ho : os.length ≤ 1000) (hpos : 0 < os.length) :
    Calls Tryz.prog 76 #[.slice oa ls.length ls.length, .int .i64 p, .int .i64 ls.length, .slice ob os.length capb] w fun e w' => ∃ u, e = .returned u ∧ Own w.heap.size u (ls.take p ++ (os ++ [])) w' ∧ Below w.heap.size w w' := by
  obtain ⟨i0, hi0, hz0, hz1, hz2⟩ := info_parts infoE
  have hcapm : ls.length ≤ ls.length ∧ ls.length ≤ maxLen := by
    obtain ⟨_, _, he, hm, _⟩ := hS; cases he; exact hm
  obtain ⟨m, hm⟩ : ∃ m, ls.length = m := ⟨_, rfl⟩
  obtain ⟨k, hk⟩ : ∃ k, os.length = k := ⟨_, rfl⟩
  have hS1 := Lib.hid (sees_take hS p hpq)
  have hT1 := Lib.hid hT
  have hl1 : (ls.take p).length = p := by rw [List.length_take, Nat.min_eq_left hpq]
  rw [hl1] at hS1
  have HL1 := Lib.hid hl1
  rw [hm] at hl hcapm hpq hS1 ⊢
  have HK := Lib.hid hk
  rw [hk] at hT1 ho hpos ⊢
  have hk0 : ¬ k = 0 := by omega
  have hnb : p + k ≤ 200001 := by omega
  have hpkt : ((p : Int) + (k : Int)).toNat = p + k := by omega
  have hpkw : IntKind.i64.wrap ((p : Int) + (k : Int)) = (p : Int) + (k : Int) := IntWalk.i64_in _ (by omega)
  have hpk0 : (0 : Int) ≤ (p : Int) + (k : Int) := by omega
  have hpc : p ≤ m := by omega
  clear hS hT hl1 hm hk
  go_enter Tryz.func76, Tryz.ntmps76
  go_wp2_with (first
    | (at_make; refine wpList_make_full _ rfl _ _ 46 rfl w.heap.size 89 i0 (.agg #[.string ⟨#[]⟩, .int .i64 0]) 2 Tryz.underlying46 hi0 hz0 hz1 .i64 .i64 _ _ (p + k) rfl rfl (by omega) (by omega) (by rw [hz2]; omega) (by unfold maxLen; omega) (Nat.le_refl _) ?_; intro w1 hown hgrow; have hB1 : Below w.heap.size w w1 := made_below hgrow; obtain ⟨Z, hZl, hZ⟩ := made_row hown; clear hown hgrow)
    | (refine wpList_copy2 rfl (.tmp 20) (.tmp 23) rfl (some ⟨w.heap.size, 0, none⟩) oa (p + k) (p + k) p m rfl rfl (ls.take p) HL1.out.symm w.heap.size 0 Z (by rw [HL1.out]; exact hS1.out.below hB1) hZ.out (by rw [HL1.out]; omega) (fun _ => rfl) (by rw [HL1.out, hZl]; omega) w.heap.size w hB1 (Nat.le_refl _) ?_; intro w2 hg2 hB2; have hl2 : (splice Z 0 (flat (ls.take p))).length = (p + k) * 2 := by rw [length_splice _ _ _ (by rw [flat_len, HL1.out, hZl]; omega), hZl])
    | (refine wpList_copy2 rfl (.tmp 27) (.tmp 28) rfl (some ⟨w.heap.size, p * 2, none⟩) ob k k k capb rfl rfl os HK.out.symm w.heap.size (p * 2) (splice Z 0 (flat (ls.take p))) (by rw [HK.out]; exact hT1.out.below hB2) hg2.out (by rw [HK.out]; exact Nat.le_refl _) (fun _ => rfl) (by rw [HK.out, hl2]; omega) w.heap.size w hB2 (Nat.le_refl _) ?_; intro w3 hg3 hB3))
  have hl3 : (splice (splice Z 0 (flat (ls.take p))) (p * 2) (flat os)).length = (p + k) * 2 := by rw [length_splice _ _ _ (by rw [flat_len, HK.out, hl2]; omega), hl2]
  go_region_law (refine step_copy2 rfl (.tmp 35) (.tmp 38) rfl (some ⟨w.heap.size, 0, none⟩) oa 0 0 0 0 (by simp [Act.eval, Act.put]) (by simp [Act.eval, Act.put]) [] rfl w.heap.size ((p + k) * 2) (splice (splice Z 0 (flat (ls.take p))) (p * 2) (flat os)) (sees_none _ _ (by exact Nat.zero_le _) _) hg3.out (Nat.le_refl _) (fun h => absurd h (by decide)) (by rw [List.length_nil, hl3]; omega) w.heap.size w hB3.drew (Nat.le_refl _) ?_; intro w4 hg4 hB4)
  all_goals go_wp2
  all_goals go_ret
  all_goals exact ⟨_, rfl, spliced_own (k := k) (r := 0) rfl HL1.out HK.out rfl hZl (by omega) hg4, hB4⟩
set_option maxRecDepth 100000 in
set_option maxHeartbeats 4000000 in
theorem replaced_end4 {oa : Option Addr} {ls : List Ent} {ob : Option Addr} {capb : Nat} {w : World} (hS : Sees (.slice oa ls.length ls.length) ls w) (hT : Sees (.slice ob 0 capb) [] w) (p : Nat) (hpq : p ≤ ls.length) (hl : ls.length ≤ 100000) :
    Calls Tryz.prog 76 #[.slice oa ls.length ls.length, .int .i64 p, .int .i64 ls.length, .slice ob 0 capb] w fun e w' => ∃ u, e = .returned u ∧ Own w.heap.size u (ls.take p ++ ([] ++ [])) w' ∧ Below w.heap.size w w' := by
  obtain ⟨i0, hi0, hz0, hz1, hz2⟩ := info_parts infoE
  have hcapm : ls.length ≤ ls.length ∧ ls.length ≤ maxLen := by
    obtain ⟨_, _, he, hm, _⟩ := hS; cases he; exact hm
  obtain ⟨m, hm⟩ : ∃ m, ls.length = m := ⟨_, rfl⟩
  have hS1 := Lib.hid (sees_take hS p hpq)
  have hT1 := Lib.hid hT
  have hl1 : (ls.take p).length = p := by rw [List.length_take, Nat.min_eq_left hpq]
  rw [hl1] at hS1
  have HL1 := Lib.hid hl1
  rw [hm] at hl hcapm hpq hS1 ⊢
  have hpc : p ≤ m := by omega
  have hpw : IntKind.i64.wrap (p : Int) = (p : Int) := IntWalk.i64_in _ (by omega)
  clear hS hT hl1 hm
  go_enter Tryz.func76, Tryz.ntmps76
  go_wp2_with (first
    | (at_make; refine wpList_make_full _ rfl _ _ 46 rfl w.heap.size 89 i0 (.agg #[.string ⟨#[]⟩, .int .i64 0]) 2 Tryz.underlying46 hi0 hz0 hz1 .i64 .i64 _ _ p rfl rfl rfl rfl (by rw [hz2]; omega) (by unfold maxLen; omega) (Nat.le_refl _) ?_; intro w1 hown hgrow; have hB1 : Below w.heap.size w w1 := made_below hgrow; obtain ⟨Z, hZl, hZ⟩ := made_row hown; clear hown hgrow)
    | (refine wpList_copy2 rfl (.tmp 20) (.tmp 23) rfl (some ⟨w.heap.size, 0, none⟩) oa p p p m rfl rfl (ls.take p) HL1.out.symm w.heap.size 0 Z (by rw [HL1.out]; exact hS1.out.below hB1) hZ.out (by rw [HL1.out]; exact Nat.le_refl _) (fun _ => rfl) (by rw [HL1.out, hZl]; omega) w.heap.size w hB1 (Nat.le_refl _) ?_; intro w2 hg2 hB2; have hl2 : (splice Z 0 (flat (ls.take p))).length = p * 2 := by rw [length_splice _ _ _ (by rw [flat_len, HL1.out, hZl]; omega), hZl])
    | (refine wpList_copy2 rfl (.tmp 27) (.tmp 28) rfl (some ⟨w.heap.size, 0, none⟩) ob 0 0 0 capb rfl rfl [] rfl w.heap.size (p * 2) (splice Z 0 (flat (ls.take p))) (hT1.out.below hB2) hg2.out (by rw [List.length_nil]; exact Nat.le_refl _) (fun h => absurd h (by decide)) (by rw [List.length_nil, hl2]; omega) w.heap.size w hB2 (Nat.le_refl _) ?_; intro w3 hg3 hB3))
  have hl3 : (splice (splice Z 0 (flat (ls.take p))) (p * 2) (flat [])).length = p * 2 := by rw [length_splice _ _ _ (by rw [flat_len, List.length_nil, hl2]; omega), hl2]
  go_region_law (refine step_copy2 rfl (.tmp 35) (.tmp 38) rfl (some ⟨w.heap.size, 0, none⟩) oa 0 0 0 0 (by simp [Act.eval, Act.put]) (by simp [Act.eval, Act.put]) [] rfl w.heap.size (p * 2) (splice (splice Z 0 (flat (ls.take p))) (p * 2) (flat [])) (sees_none _ _ (by exact Nat.zero_le _) _) hg3.out (Nat.le_refl _) (fun h => absurd h (by decide)) (by rw [List.length_nil, hl3]; omega) w.heap.size w hB3.drew (Nat.le_refl _) ?_; intro w4 hg4 hB4)
  all_goals go_wp2
  all_goals go_ret
  all_goals exact ⟨_, rfl, spliced_own (k := 0) (r := 0) rfl HL1.out rfl rfl hZl (by omega) hg4, hB4⟩

/-- what stands from p to q replaced by others -/
theorem replaced_any {v u : Value} {ls os : List Ent} {w : World} (hS : Sees v ls w) (hT : Sees u os w) (p q : Nat) (hpq : p ≤ q) (hq : q ≤ ls.length) (hl : ls.length ≤ 100000) (ho : os.length ≤ 1000) :
    Calls Tryz.prog 76 #[v, .int .i64 p, .int .i64 q, u] w fun e w' => ∃ u, e = .returned u ∧ Own w.heap.size u (ls.take p ++ (os ++ ls.drop q)) w' ∧ Below w.heap.size w w' := by
  obtain ⟨oa, cap, rfl, hm, hc⟩ := hS
  obtain ⟨ob, capb, rfl, hm2, hc2⟩ := hT
  have hS : Sees (.slice oa ls.length cap) ls w := ⟨oa, cap, rfl, hm, hc⟩
  have hT : Sees (.slice ob os.length capb) os w := ⟨ob, capb, rfl, hm2, hc2⟩
  by_cases hql : q < ls.length
  · exact replaced_mid hS hT p q hpq hql hl ho
  · obtain rfl : q = ls.length := by omega
    rw [List.drop_length]
    by_cases hk : 0 < os.length
    · by_cases hcq : cap = ls.length
      · subst hcq; exact replaced_end3 hS hT p hpq hl ho hk
      · exact replaced_end1 hS hT p hpq hl ho hk hcq
    · obtain rfl : os = [] := List.eq_nil_of_length_eq_zero (by omega)
      by_cases hcq : cap = ls.length
      · subst hcq; exact replaced_end4 hS hT p hpq hl
      · exact replaced_end2 hS hT p hpq hl hcq
theorem put_parts {ls : List Ent} (hu : Up ls) (y : Ent) : ls.take (lo ls y.name).length ++ ([y] ++ ls.drop (after ls y.name)) = put ls y := by
  obtain ⟨h1, h2, _, _⟩ := after_facts hu y.name
  rw [← h1, ← h2]; simp [put]
theorem drop_is {ls : List Ent} (hu : Up ls) (n : List UInt8) : ls.take (lo ls n).length ++ ([] ++ ls.drop (after ls n)) = drop ls n := by
  obtain ⟨h1, h2, _, _⟩ := after_facts hu n
  rw [← h1, ← h2, List.nil_append]; exact drop_parts hu n

set_option maxRecDepth 100000 in
set_option maxHeartbeats 4000000 in
theorem put_any {v : Value} {ls : List Ent} {w : World} (hS : Sees v ls w) (n : List UInt8) (no : Int) (hu : Up ls) (hl : ls.length ≤ 100000) :
    Calls Tryz.prog 40 #[v, .string ⟨n.toArray⟩, .int .i64 no] w fun e w' => ∃ u, e = .returned u ∧ Own w.heap.size u (put ls ⟨n, no⟩) w' ∧ Below w.heap.size w w' := by
  have cs := span_any v ls n w hS hu hl
  obtain ⟨_, _, h3, h4⟩ := after_facts hu n
  have HP := Lib.hid (put_parts hu ⟨n, no⟩)
  dsimp only at HP
  generalize (lo ls n).length = p at cs h4 HP
  generalize after ls n = q at cs h3 h4 HP
  have HS := Lib.hid hS
  obtain ⟨oa, cap, rfl, _⟩ := hS
  clear hu
  go_enter Tryz.func40, Tryz.ntmps40
  go_wp2_with (first
    | (go_at_call 75; refine cs.mono ?_; rintro e w1 ⟨rfl, hb1⟩)
    | (go_at_call 76
       have hb2 : Below w1.heap.size w1 (w1.alloc (.cells #[.string ⟨n.toArray⟩, .int .i64 no] 89)) := (Below.refl _ _).alloc (Nat.le_refl _) _
       have cr := replaced_any ((HS.out.below hb1).below hb2) (one_sees ⟨n, no⟩ w1 89) p q h4 h3 hl (by simp)
       refine cr.mono ?_
       rintro e w2 ⟨u, rfl, hO2, hb3⟩))
  go_ret
  exact ⟨_, rfl, by rw [← HP.out]; exact hO2.mono (by have := hb1.size; simp; omega), below_two hb1 (below_two hb2 hb3)⟩

end Go.Proofs.YtenopnfclbegbaaGreat.E
