/-
  What track's Split and the reference's Join, Rel and Split do.
-/
import Derived.Test.YtfdjgbonjenldaaDoorClean
namespace Go.Proofs.YtfdjgbonjenldaaDoor
open Go.RowKit Go.Shelf

theorem ext_from (c : List UInt8) (k : Nat) : (⟨c.toArray⟩ : ByteArray).extract k c.length = ⟨(c.drop k).toArray⟩ := by
  have := Lib.extract_from ⟨c.toArray⟩ k
  rwa [size_l] at this
theorem dir_none {c : List UInt8} (h1 : ¬ c = [47]) (h2 : ¬ c = [46]) (h : M.ls c = 0) : M.dirOf c = [46] ∧ M.baseOf c = c := by
  simp [M.dirOf, M.baseOf, h1, h2, h]
theorem dir_top {c : List UInt8} (h1 : ¬ c = [47]) (h2 : ¬ c = [46]) (h : M.ls c = 1) : M.dirOf c = [47] ∧ M.baseOf c = c.drop 1 := by
  simp [M.dirOf, M.baseOf, h1, h2, h]
theorem dir_some {c : List UInt8} {n : Nat} (h1 : ¬ c = [47]) (h2 : ¬ c = [46]) (h : M.ls c = n + 1 + 1) : M.dirOf c = c.take (n + 1) ∧ M.baseOf c = c.drop (n + 1 + 1) := by
  simp [M.dirOf, M.baseOf, h1, h2, h]
theorem ext_upto (c : List UInt8) (k : Nat) : (⟨c.toArray⟩ : ByteArray).extract 0 k = ⟨(c.take k).toArray⟩ := by
  rw [Lib.extract_upto]

set_option maxHeartbeats 2000000 in
theorem split_l (a : List UInt8) (ha : a.length ≤ 2000) (w : World) :
    Calls Tryd.prog 9 #[.string ⟨a.toArray⟩] w fun e w' => e = .returned (.tuple #[.string ⟨(M.dirOf (M.clean a)).toArray⟩, .string ⟨(M.baseOf (M.clean a)).toArray⟩]) ∧ Below w.heap.size w w' := by
  have cc := fun w => clean_l a (by omega) w
  have hA := M.clean_most a
  have mixed : Tryd.prog.follows Departure.mixedOrders = true := by kernel_rfl
  generalize M.clean a = c at cc hA ⊢
  by_cases h1 : c = [47]
  · subst h1
    rw [M.dirOf, M.baseOf, if_pos (.inl rfl), if_pos (.inl rfl)]
    go_enter Tryd.func9, Tryd.ntmps9
    go_wp2_with (go_at_call 11; refine (cc _).mono ?_; rintro e w1 ⟨rfl, hb1⟩)
    go_ret2
    exact ⟨rfl, hb1⟩
  by_cases h2 : c = [46]
  · subst h2
    rw [M.dirOf, M.baseOf, if_pos (.inr rfl), if_pos (.inr rfl)]
    clear h1
    go_enter Tryd.func9, Tryd.ntmps9
    go_wp2_with (go_at_call 11; refine (cc _).mono ?_; rintro e w1 ⟨rfl, hb1⟩)
    go_ret2
    exact ⟨rfl, hb1⟩
  have h1' : (c == [47]) = false := by simpa using h1
  have h2' : (c == [46]) = false := by simpa using h2
  have cl := fun w => Tryd.strings_LastIndex_one ⟨c.toArray⟩ ⟨#[47]⟩ rfl (by rw [size_l]; omega) w
  rw [show Lib.lastIndexByte ⟨c.toArray⟩ (((⟨#[47]⟩ : ByteArray)[0]'(by decide)).toNat : Int) = (M.ls c : Int) - 1 from by
    have h : Lib.lastIndexByte ⟨c.toArray⟩ 47 + 1 = M.ls c := M.ls_index ⟨c.toArray⟩
    have : Lib.lastIndexByte ⟨c.toArray⟩ 47 = (M.ls c : Int) - 1 := by omega
    exact this] at cl
  have hle := M.ls_le c
  rcases hls : M.ls c with _ | _ | n
  · obtain ⟨d1, d2⟩ := dir_none h1 h2 hls
    rw [d1, d2]
    rw [hls] at cl
    clear d1 d2 hls hle
    go_enter Tryd.func9, Tryd.ntmps9
    go_wp2_with (first
      | (go_at_call 11; refine (cc _).mono ?_; rintro e w1 ⟨rfl, hb1⟩)
      | (go_at_call 22; refine (cl _).mono ?_; rintro e w9 ⟨rfl, hw9⟩; obtain rfl := hw9.symm))
    go_ret2
    exact ⟨rfl, hb1⟩
  · obtain ⟨d1, d2⟩ := dir_top h1 h2 hls
    rw [d1, d2]
    rw [hls] at cl hle
    clear d1 d2
    have hl1 : (1 : Int) ≤ c.length := by omega
    have HX := Lib.hid (ext_from c 1)
    clear hls hle
    go_enter Tryd.func9, Tryd.ntmps9
    go_wp2_with (first
      | (go_at_call 11; refine (cc _).mono ?_; rintro e w1 ⟨rfl, hb1⟩)
      | (go_at_call 22; refine (cl _).mono ?_; rintro e w9 ⟨rfl, hw9⟩; obtain rfl := hw9.symm))
    go_region_o
    go_wp2
    go_ret2
    refine ⟨?_, hb1.drew⟩
    rw [← HX.out]; rfl
  · obtain ⟨d1, d2⟩ := dir_some h1 h2 hls
    rw [d1, d2]
    rw [hls] at cl hle
    clear d1 d2
    have e1 : ((n + 1 + 1 : Nat) : Int) - 1 = (n + 1 : Nat) := by omega
    rw [e1] at cl
    have hl1 : ((n + 1 : Nat) : Int) ≤ c.length := by omega
    have hl2 : ((n + 1 : Nat) : Int) + 1 ≤ c.length := by omega
    have HX := Lib.hid (ext_from c (n + 1 + 1))
    have HY := Lib.hid (ext_upto c (n + 1))
    clear hls hle
    go_enter Tryd.func9, Tryd.ntmps9
    go_wp2_with (first
      | (go_at_call 11; refine (cc _).mono ?_; rintro e w1 ⟨rfl, hb1⟩)
      | (go_at_call 22; refine (cl _).mono ?_; rintro e w9 ⟨rfl, hw9⟩; obtain rfl := hw9.symm))
    go_region_o
    go_wp2
    go_ret2
    refine ⟨?_, hb1.drew⟩
    rw [← HX.out, ← HY.out]; rfl

theorem add_lb (l : List UInt8) (s : ByteArray) (h : l.length + s.size ≤ 100000) (w : World) : (Op.stringOp .add ⟨l.toArray⟩ s).run Tryd.prog w = .ok (.string ⟨(l ++ s.data.toList).toArray⟩) w := by
  have := add_ll l s.data.toList (by rw [← Lib.size_eq]; exact h) w
  rwa [mk_data] at this
set_option maxHeartbeats 2000000 in
theorem refJoin_any (a : List UInt8) (s : ByteArray) (ha : a.length ≤ 2000) (hb : s.size ≤ 2000) (w : World) :
    Calls Tryd.prog 14 #[.string ⟨a.toArray⟩, .string s] w fun e w' => e = .returned (.string ⟨(M.join a s.data.toList).toArray⟩) ∧ Below w.heap.size w w' := by
  have cc := fun w => refClean_any s (by omega) w
  by_cases h2 : a = []
  · rw [M.join, if_pos (.inr h2)]
    subst h2
    generalize M.clean s.data.toList = c at cc ⊢
    go_enter Tryd.func14, Tryd.ntmps14
    go_wp2_with (go_at_call 12; refine (cc _).mono ?_; rintro e w1 ⟨rfl, hb1⟩)
    go_ret
    exact ⟨rfl, hb1⟩
  have h2' : a.isEmpty = false := by cases a <;> simp_all
  have cd := fun w => refClean_l (a ++ 47 :: s.data.toList) (by simp; omega) w
  have a1 := add_ll a [47] (by simp; omega)
  have a2 := add_lb (a ++ [47]) s (by simp; omega)
  rw [List.append_assoc] at a2
  by_cases h0 : 0 < s.size
  · have h0' : (0 : Int) < s.size := by omega
    by_cases h1 : (s[0]'h0).toNat = 47
    · rw [M.join, if_pos (.inl (abs_at h0 h1))]
      clear cd
      generalize M.clean s.data.toList = c at cc ⊢
      go_enter Tryd.func14, Tryd.ntmps14
      go_wp2_with (go_at_call 12; refine (cc _).mono ?_; rintro e w1 ⟨rfl, hb1⟩)
      go_ret
      exact ⟨rfl, hb1⟩
    · rw [M.join, if_neg (by simp [abs_not h0 h1, h2])]
      have h1' : (((s[0]'h0).toNat : Int) == 47) = false := by simpa using (show ¬ ((s[0]'h0).toNat : Int) = 47 by omega)
      clear cc
      generalize M.clean (a ++ 47 :: s.data.toList) = c at cd ⊢
      go_enter Tryd.func14, Tryd.ntmps14
      go_wp2_with (go_at_call 12; refine (cd _).mono ?_; rintro e w1 ⟨rfl, hb1⟩)
      go_ret
      exact ⟨rfl, hb1⟩
  · have h0' : ¬ (0 : Int) < s.size := by omega
    rw [M.join, if_neg (by simp [abs_none h0, h2])]
    clear cc
    generalize M.clean (a ++ 47 :: s.data.toList) = c at cd ⊢
    go_enter Tryd.func14, Tryd.ntmps14
    go_wp2_with (go_at_call 12; refine (cd _).mono ?_; rintro e w1 ⟨rfl, hb1⟩)
    go_ret
    exact ⟨rfl, hb1⟩
theorem refJoin_l (a b : List UInt8) (ha : a.length ≤ 2000) (hb : b.length ≤ 2000) (w : World) :
    Calls Tryd.prog 14 #[.string ⟨a.toArray⟩, .string ⟨b.toArray⟩] w fun e w' => e = .returned (.string ⟨(M.join a b).toArray⟩) ∧ Below w.heap.size w w' :=
  refJoin_any a ⟨b.toArray⟩ ha (by rw [size_l]; exact hb) w
end Go.Proofs.YtfdjgbonjenldaaDoor
