/-
  PermText and PermLess, walked.
-/
import Derived.Test.YtccdpkbiandjdaaQawk
import Derived.BigRegion
namespace Go.Proofs.Ytccdpkbiandjdaa.PM
open Go.RowKit Go.Shelf

/-! ### Modes have unlike letters -/
def body (m : Int) : List UInt8 := tri (m / 2 ^ 6 % 8) [120] [45] ++ (tri (m / 2 ^ 3 % 8) [120] [45] ++ oth m)
theorem txt_body (k m : Int) : txt k m = lt k :: body m := by
  unfold txt body
  rw [List.append_assoc, List.append_assoc]; rfl
def on (c : UInt8) (n : Nat) : Nat := if c = 45 then 0 else n
/-- the mode that has these letters -/
def unb (l : List UInt8) : Nat :=
  on (l.getD 0 45) 256 + on (l.getD 1 45) 128 + on (l.getD 2 45) 64 + on (l.getD 3 45) 32 + on (l.getD 4 45) 16 + on (l.getD 5 45) 8 + on (l.getD 6 45) 4 + on (l.getD 7 45) 2 +
    (if l.getD 8 45 = 120 then 1 else if l.getD 8 45 = 116 then 513 else if l.getD 8 45 = 84 then 512 else 0)
theorem unb_fin : ∀ m : Fin 1024, unb (body (m.val : Int)) = m.val := by decide +kernel
theorem txt_inj {k m n : Int} (hm0 : 0 ≤ m) (hm : m < 1024) (hn0 : 0 ≤ n) (hn : n < 1024) (h : txt k m = txt k n) : m = n := by
  rw [txt_body, txt_body] at h
  have hb : body m = body n := (List.cons.inj h).2
  have h1 := unb_fin ⟨m.toNat, by omega⟩
  have h2 := unb_fin ⟨n.toNat, by omega⟩
  dsimp only at h1 h2
  rw [Int.toNat_of_nonneg hm0] at h1
  rw [Int.toNat_of_nonneg hn0] at h2
  rw [hb, h2] at h1
  omega

set_option maxHeartbeats 2000000 in
theorem permText_walk (a b k : Int) (ha0 : 0 ≤ a) (ha : a < 65536) (hb0 : 0 ≤ b) (hb : b < 65536) (w : World) : Calls Try.prog 5 #[.int .u16 a, .int .u16 b, .int .i64 k] w fun e w' => e = .returned (.bool true) ∧ Below w.heap.size w w' := by
  obtain ⟨m, hm⟩ : ∃ m, a % 1024 = m := ⟨_, rfl⟩
  obtain ⟨n, hn⟩ : ∃ n, b % 1024 = n := ⟨_, rfl⟩
  have cm := fun w => Text_any k m w
  have cn := fun w => Text_any k n w
  have lm := txt_len k m
  have ln := txt_len k n
  have hi : txt k m = txt k n → m = n := txt_inj (by omega) (by omega) (by omega) (by omega)
  have HI := Lib.hid (show txt k m = txt k n ↔ m = n from ⟨hi, fun h => by rw [h]⟩)
  have ca := fun w => awake_any w
  clear hi
  generalize txt k m = S at cm lm HI
  generalize txt k n = T at cn ln HI
  have zs : (⟨S.toArray⟩ : ByteArray).size = 10 := by rw [size_l]; exact lm
  have zt : (⟨T.toArray⟩ : ByteArray).size = 10 := by rw [size_l]; exact ln
  have hst : (S == T) = (m == n) := by
    have h := HI.out
    rw [Bool.eq_iff_iff, beq_iff_eq, beq_iff_eq]; exact h
  clear lm ln HI
  have hm0 : 0 ≤ m := by omega
  have hm1 : m < 1024 := by omega
  have hn0 : 0 ≤ n := by omega
  have hn1 : n < 1024 := by omega
  go_enter Try.func5, Try.ntmps5
  go_wp2_with (first
    | (go_at_call 15; refine (cm _).mono ?_; clear cm; rintro e W' ⟨rfl, rfl⟩)
    | (go_at_call 15; refine (cn _).mono ?_; rintro e W' ⟨rfl, rfl⟩)
    | (go_at_call 17; refine (ca _).mono ?_; rintro e W' ⟨rfl, b1⟩))
  go_ret
  exact ⟨rfl, b1⟩

/-! ### Many rights, each of them -/
/-- three boxes lie as they were -/
def Kept3 (w : World) (cs ds es : Array Value) (W : World) : Prop := Below w.heap.size w W ∧ w.heap.size + 1 + 1 < W.heap.size ∧ Box w.heap.size cs W ∧ Box (w.heap.size + 1) ds W ∧ Box (w.heap.size + 1 + 1) es W
theorem Kept3.next {w W W' : World} {cs ds es : Array Value} (k : Kept3 w cs ds es W) (b : Below W.heap.size W W') : Kept3 w cs ds es W' :=
  ⟨below_two k.1 b, Nat.lt_of_lt_of_le k.2.1 b.size, k.2.2.1.later b (Nat.lt_of_succ_lt (Nat.lt_of_succ_lt k.2.1)), k.2.2.2.1.later b (Nat.lt_of_succ_lt k.2.1), k.2.2.2.2.later b k.2.1⟩
theorem Kept3.new (w : World) (cs ds es : Array Value) (t u v : TypeId) : Kept3 w cs ds es (((w.alloc (.cells cs t)).alloc (.cells ds u)).alloc (.cells es v)) := by
  have h1 := Box.new (w.alloc (.cells cs t)) ds u
  have h2 := Box.new ((w.alloc (.cells cs t)).alloc (.cells ds u)) es v
  rw [World.size_alloc] at h1
  rw [World.size_alloc, World.size_alloc] at h2
  exact ⟨(((Below.refl _ w).alloc (Nat.le_refl _) _).alloc (by simp) _).alloc (by simp; omega) _, by simp, ((Box.new w cs t).alloc (by simp) _).alloc (by simp; omega) _, h1.alloc (by simp) _, h2⟩
theorem Box.three {b : Nat} {x y z : Value} {w : World} (c : Box b #[x, y, z] w) : w.cell? ⟨b, 0, none⟩ = some x ∧ w.cell? ⟨b, 1, none⟩ = some y ∧ w.cell? ⟨b, 2, none⟩ = some z := ⟨c 0 _ rfl, c 1 _ rfl, c 2 _ rfl⟩

theorem Box.put3 {b : Nat} {x0 x1 x2 x3 x4 x5 x6 x7 x8 x9 x10 x11 y : Value} {w : World} (c : Box b #[x0, x1, x2, x3, x4, x5, x6, x7, x8, x9, x10, x11] w) : Box b #[x0, x1, x2, y, x4, x5, x6, x7, x8, x9, x10, x11] (w.setCell ⟨b, 3, none⟩ y) := by
  have c3 : w.cell? ⟨b, 3, none⟩ = some x3 := c 3 _ rfl
  intro i v h
  by_cases e : i = 3
  · subst e
    obtain rfl : y = v := by simpa using h
    exact World.cell?_setCell_same w ⟨b, 3, none⟩ y c3
  · rw [World.cell?_setCell_other _ _ _ _ (by simp)]
    refine c i v ?_
    rw [← h]
    match i, e with
    | 0, _ => rfl
    | 1, _ => rfl
    | 2, _ => rfl
    | 3, e => exact absurd rfl e
    | n + 4, _ => simp
theorem Kept3.put {w W : World} {cs ds es : Array Value} (k : Kept3 w cs ds es W) {B : Nat} (hB : w.heap.size + 1 + 1 < B) (i : Nat) (y : Value) : Kept3 w cs ds es (W.setCell ⟨B, i, none⟩ y) := by
  have hb : Below (w.heap.size + 1 + 1 + 1) W (W.setCell ⟨B, i, none⟩ y) := (Below.refl _ W).setCell hB _
  exact ⟨k.1.trans (hb.mono (by omega)), by rw [World.size_setCell]; exact k.2.1, k.2.2.1.later hb (by omega), k.2.2.2.1.later hb (by omega), k.2.2.2.2.later hb (by omega)⟩
set_option maxHeartbeats 4000000 in
theorem permLess_walk (u g : Int) (n : Nd) (l0 l1 l2 : Int) (w : World) : Calls Try.prog 4 #[cred u g, n.v, .agg #[.int .i64 l0, .int .i64 l1, .int .i64 l2]] w fun e w' => e = .returned (.bool true) ∧ Below w.heap.size w w' := by
  obtain ⟨no, dev, kind, mode, uid, gid, mt, ct, links, up, data, ea, el, ec⟩ := n
  have cn := fun mode want w => Node_any u g ⟨no, dev, kind, mode, uid, gid, mt, ct, links, up, data, ea, el, ec⟩ want w
  have ca := fun w => awake_any w
  dsimp only [Nd.v, cred] at *
  have h0 := and7 l0
  have h1 := and7 l1
  generalize l0 % 8 = a at h0
  generalize l1 % 8 = b at h1
  have fo := may_or u g uid gid mode a b
  have fz := may_none u g uid gid mode
  have fm := may_more u g uid gid mode l2 a
  generalize hm2 : bits .or .i64 mode l2 = mode2 at fm
  obtain ⟨p, ep⟩ : ∃ p, may u g uid gid mode a = p := ⟨_, rfl⟩
  obtain ⟨q, eq⟩ : ∃ q, may u g uid gid mode b = q := ⟨_, rfl⟩
  obtain ⟨r, er⟩ : ∃ r, may u g uid gid mode2 a = r := ⟨_, rfl⟩
  rw [ep, eq] at fo
  rw [ep, er] at fm
  have FM := Lib.hid fm
  clear fm
  have kp := Kept3.new w #[.int .i64 u, .int .i64 g] #[.int .i64 no, .int .i64 dev, .int .i64 kind, .int .i64 mode, .int .i64 uid, .int .i64 gid, .int .i64 mt, .int .i64 ct, .int .i64 links, .int .i64 up, .string data, .slice ea el ec] #[.int .i64 l0, .int .i64 l1, .int .i64 l2] 23 26 36
  go_enter Try.func4, Try.ntmps4
  go_wp2
  go_region
  have kp := kp.next ((Below.refl _ _).drew)
  generalize World.drew _ = W at kp ⊢
  obtain ⟨k0, k1⟩ := kp.2.2.1.two
  obtain ⟨m0, m1, m2, m3, m4, m5, m6, m7, m8, m9, m10, m11⟩ := kp.2.2.2.1.twelve
  obtain ⟨l0', l1', l2'⟩ := kp.2.2.2.2.three
  have h3 : (p = false) ∨ (p = true ∧ q = false ∧ r = true) ∨ (p = true ∧ q = true ∧ r = true) := by
    cases p
    · exact .inl rfl
    · cases q
      · exact .inr (.inl ⟨rfl, rfl, FM.out rfl⟩)
      · exact .inr (.inr ⟨rfl, rfl, FM.out rfl⟩)
  clear FM
  rcases h3 with rfl | ⟨rfl, rfl, rfl⟩ | ⟨rfl, rfl, rfl⟩
  all_goals
    go_upto_region 6 with (go_at_call 8; refine (cn _ _ _).mono ?_; rintro e W' ⟨rfl, b1⟩; simp only [fo, fz, ep, eq]; have kp := kp.next b1; clear k0 k1 m0 m1 m2 m3 m4 m5 m6 m7 m8 m9 m10 m11 l0' l1' l2'; obtain ⟨k0, k1⟩ := kp.2.2.1.two; obtain ⟨m0, m1, m2, m3, m4, m5, m6, m7, m8, m9, m10, m11⟩ := kp.2.2.2.1.twelve; obtain ⟨l0', l1', l2'⟩ := kp.2.2.2.2.three)
    have hB := Box.new W' #[.int .i64 no, .int .i64 dev, .int .i64 kind, .int .i64 mode, .int .i64 uid, .int .i64 gid, .int .i64 mt, .int .i64 ct, .int .i64 links, .int .i64 up, .string data, .slice ea el ec] 26
    have kv := kp.next ((Below.refl _ W').alloc (Nat.le_refl _) (.cells #[.int .i64 no, .int .i64 dev, .int .i64 kind, .int .i64 mode, .int .i64 uid, .int .i64 gid, .int .i64 mt, .int .i64 ct, .int .i64 links, .int .i64 up, .string data, .slice ea el ec] 26))
    have hf : (W'.alloc (.cells #[.int .i64 no, .int .i64 dev, .int .i64 kind, .int .i64 mode, .int .i64 uid, .int .i64 gid, .int .i64 mt, .int .i64 ct, .int .i64 links, .int .i64 up, .string data, .slice ea el ec] 26)).frozen? ⟨W'.heap.size, 3, none⟩ = false := World.frozen?_alloc_new _ _ _ _
    have hlt : W'.heap.size < (W'.alloc (.cells #[.int .i64 no, .int .i64 dev, .int .i64 kind, .int .i64 mode, .int .i64 uid, .int .i64 gid, .int .i64 mt, .int .i64 ct, .int .i64 links, .int .i64 up, .string data, .slice ea el ec] 26)).heap.size := by simp
    have hsz := kp.2.1
    generalize W'.alloc _ = V at hB kv hf hlt ⊢
    generalize W'.heap.size = B at hB hf hlt hsz ⊢
    clear k0 k1 m0 m1 m2 m3 m4 m5 m6 m7 m8 m9 m10 m11 l0' l1' l2'
    obtain ⟨k0, k1⟩ := kv.2.2.1.two
    obtain ⟨m0, m1, m2, m3, m4, m5, m6, m7, m8, m9, m10, m11⟩ := kv.2.2.2.1.twelve
    obtain ⟨l0', l1', l2'⟩ := kv.2.2.2.2.three
    obtain ⟨n0, n1, n2, n3, n4, n5, n6, n7, n8, n9, n10, n11⟩ := hB.twelve
    go_upto_region 7 with fail
    have hB2 := hB.put3 (y := .int .i64 mode2)
    have kp := kv.put hsz 3 (.int .i64 mode2)
    have hlt2 : B < (V.setCell ⟨B, 3, none⟩ (.int .i64 mode2)).heap.size := by rw [World.size_setCell]; exact hlt
    generalize V.setCell _ _ = U at hB2 kp hlt2 ⊢
    clear k0 k1 m0 m1 m2 m3 m4 m5 m6 m7 m8 m9 m10 m11 l0' l1' l2' n0 n1 n2 n3 n4 n5 n6 n7 n8 n9 n10 n11 hf hB kv
    obtain ⟨k0, k1⟩ := kp.2.2.1.two
    obtain ⟨m0, m1, m2, m3, m4, m5, m6, m7, m8, m9, m10, m11⟩ := kp.2.2.2.1.twelve
    obtain ⟨l0', l1', l2'⟩ := kp.2.2.2.2.three
    obtain ⟨n0, n1, n2, n3, n4, n5, n6, n7, n8, n9, n10, n11⟩ := hB2.twelve
    go_wp2_with (first
      | (go_at_call 8; refine (cn _ _ _).mono ?_; rintro e W' ⟨rfl, b1⟩; simp only [ep, er]; have kp := kp.next b1; have hB2 := hB2.later b1 hlt2; have hlt2 := Nat.lt_of_lt_of_le hlt2 b1.size; obtain ⟨n0, n1, n2, n3, n4, n5, n6, n7, n8, n9, n10, n11⟩ := hB2.twelve; clear k0 k1 m0 m1 m2 m3 m4 m5 m6 m7 m8 m9 m10 m11 l0' l1' l2'; obtain ⟨k0, k1⟩ := kp.2.2.1.two; obtain ⟨m0, m1, m2, m3, m4, m5, m6, m7, m8, m9, m10, m11⟩ := kp.2.2.2.1.twelve; obtain ⟨l0', l1', l2'⟩ := kp.2.2.2.2.three)
      | (go_at_call 17; refine (ca _).mono ?_; rintro e W' ⟨rfl, b1⟩; have kp := kp.next b1))
    go_ret
    exact ⟨rfl, kp.1⟩
end Go.Proofs.Ytccdpkbiandjdaa.PM
