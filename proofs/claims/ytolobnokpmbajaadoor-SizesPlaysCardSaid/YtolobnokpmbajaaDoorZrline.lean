/-
  The reference's Line.
-/
import Derived.Test.YtolobnokpmbajaaDoorZread
import Derived.Test.YtolobnokpmbajaaDoorZrwrite
import Derived.Test.YtolobnokpmbajaaDoorPrdec
import Derived.BigRegion
import Derived.Deep.RegionHeld3
namespace Go.Proofs.YtolobnokpmbajaaDoor.Z
open Go.RowKit Go.Shelf

theorem decN_le : ∀ (k : Nat) (l p : List UInt8), Q.M.decN k l = some p → p.length ≤ l.length
  | 0, l, p, h => by cases h; simp
  | k + 1, l, p, h => by
    rw [Q.M.decN] at h
    split at h
    · cases h; simp
    · cases hf : Q.M.first l with
      | none => rw [hf] at h; cases h
      | some x =>
        have hx := Q.M.first_pos (b := x.1) (n := x.2) hf
        rw [hf] at h
        simp only [Option.bind_some] at h
        rw [Option.map_eq_some_iff] at h
        obtain ⟨q, hq, rfl⟩ := h
        have := decN_le k _ _ hq
        rw [List.length_drop] at this
        simp only [List.length_cons]
        omega
theorem dec_le {l p : List UInt8} (h : Q.M.dec l = some p) : p.length ≤ l.length := decN_le _ _ _ h
theorem byte_at {S : ByteArray} {s : List UInt8} (hS : S.data.toList = s) {pos : Nat} (h : pos < S.size) {c : UInt8} (hc : s[pos]? = some c) : (S[pos]'h).toNat = c.toNat := by
  have e : s[pos]? = some (S[pos]'h) := by rw [← hS]; simp [h]; rfl
  rw [e] at hc
  rw [Option.some.inj hc]
theorem not_at {S : ByteArray} {p q r : List UInt8} (hS : S.data.toList = p ++ (q ++ r)) (hq : (32 : UInt8) ∉ q) {pos : Nat} (h : pos < S.size) (h1 : p.length ≤ pos) (h2 : pos < p.length + q.length) : ¬ (S[pos]'h).toNat = 32 := by
  obtain ⟨k, rfl⟩ : ∃ k, pos = p.length + k := ⟨pos - p.length, by omega⟩
  have hk : k < q.length := by omega
  have e : (p ++ (q ++ r))[p.length + k]? = some (q[k]'hk) := by
    rw [List.getElem?_append_right (by omega), show p.length + k - p.length = k by omega, List.getElem?_append_left hk, List.getElem?_eq_getElem hk]
  rw [byte_at hS h e]
  intro hc
  apply hq
  have : q[k]'hk = 32 := UInt8.toNat_inj.1 hc
  rw [← this]; exact List.getElem_mem hk
theorem is_at {S : ByteArray} {p q r : List UInt8} (hS : S.data.toList = p ++ (q ++ 32 :: r)) (h : p.length + q.length < S.size) : (S[p.length + q.length]'h).toNat = 32 := by
  have e : (p ++ (q ++ 32 :: r))[p.length + q.length]? = some 32 := by
    rw [List.getElem?_append_right (by omega), show p.length + q.length - p.length = q.length by omega, List.getElem?_append_right (by omega)]; simp
  exact byte_at hS h e
theorem list_size {S : ByteArray} {s : List UInt8} (hS : S.data.toList = s) : S.size = s.length := by rw [← hS, Lib.size_eq]
theorem extract_mid {S : ByteArray} {p q r : List UInt8} (hS : S.data.toList = p ++ (q ++ r)) : S.extract p.length (p.length + q.length) = ⟨q.toArray⟩ := by
  rw [Lib.extract_eq, hS]; simp
theorem extract_end {S : ByteArray} {p q : List UInt8} (hS : S.data.toList = p ++ q) (n : Nat) (hn : n = p.length + q.length) : S.extract p.length n = ⟨q.toArray⟩ := by
  rw [Lib.extract_eq, hS, hn]; simp
theorem box3_other {b c : Nat} {x : Line} {w : World} (h : Box3 c x w) (hne : b ≠ c) (u v t : Value) : Box3 c x (((w.setCell ⟨b, 0, none⟩ u).setCell ⟨b, 1, none⟩ v).setCell ⟨b, 2, none⟩ t) := by
  unfold Box3 at *
  simp [World.setCell, Array.getElem?_modify, h, hne]
abbrev S3 (c : Nat) (x : Line) (w' : World) : Prop := w'.cell? ⟨c, 0, none⟩ = some (.int .i64 x.size) ∧ w'.cell? ⟨c, 1, none⟩ = some (.int .i64 x.time) ∧ w'.cell? ⟨c, 2, none⟩ = some (.string ⟨x.name.toArray⟩)
theorem s3_below {c : Nat} {x : Line} {w w' : World} (h : S3 c x w) (hb : Below w.heap.size w w') : S3 c x w' := by
  obtain ⟨h0, h1, h2⟩ := h
  have hlt : c < w.heap.size := World.block_lt_of_cell? _ _ h0
  exact ⟨(hb.cell (p := ⟨c, 0, none⟩) hlt).trans h0, (hb.cell (p := ⟨c, 1, none⟩) hlt).trans h1, (hb.cell (p := ⟨c, 2, none⟩) hlt).trans h2⟩
theorem s3_other {b c : Nat} {x : Line} {w : World} (h : S3 c x w) (hne : b ≠ c) (u v t : Value) : S3 c x (((w.setCell ⟨b, 0, none⟩ u).setCell ⟨b, 1, none⟩ v).setCell ⟨b, 2, none⟩ t) := by
  obtain ⟨h0, h1, h2⟩ := h
  refine ⟨?_, ?_, ?_⟩
  · rw [← h0]; simp [World.cell?, World.setCell, Array.getElem?_modify, hne]
  · rw [← h1]; simp [World.cell?, World.setCell, Array.getElem?_modify, hne]
  · rw [← h2]; simp [World.cell?, World.setCell, Array.getElem?_modify, hne]
theorem Box3.s3 {c : Nat} {x : Line} {w : World} (h : Box3 c x w) : S3 c x w := ⟨h.facts.1, h.facts.2.1, h.facts.2.2.1⟩
theorem Box3.drew {c : Nat} {x : Line} {w : World} (h : Box3 c x w) : Box3 c x w.drew := h
/-- what the reference's Line answers: a line if there is one, else whatever -/
def RLineOut (o : Option Line) (e : Ending) : Prop := ∃ x : Line, e = .returned (.tuple #[.agg (enc x).toArray, .bool o.isSome]) ∧ (o = none ∨ o = some x)
theorem rparse_out {d : List UInt8} {n : Int} {b : Bool} (h : (K.M.parse d).getD 0 = n ∧ (K.M.parse d).isSome = b) (w : World) :
    Calls Tryd.prog 54 #[.string ⟨d.toArray⟩] w fun e w' => e = .returned (.tuple #[.int .i64 n, .bool b]) ∧ Below w.heap.size w w' := by
  refine (K.refParse_any ⟨d.toArray⟩ w).mono fun e w' ⟨he, hb⟩ => ⟨?_, hb⟩
  unfold K.OptOut at he
  rw [show (⟨d.toArray⟩ : ByteArray).data.toList = d from rfl, h.1, h.2] at he
  exact he
/-- what Decode answers, as two values -/
def dn (t : List UInt8) : List UInt8 × Int := match Q.M.dec t with | none => ([], 2) | some n => (n, 0)
theorem rdec_out {t n : List UInt8} {c : Int} (ht : t.length ≤ 10000) (h : dn t = (n, c)) (w : World) :
    Calls Tryd.prog 63 #[.string ⟨t.toArray⟩] w fun e w' => e = .returned (.tuple #[.string ⟨n.toArray⟩, .int .i64 c]) ∧ Below w.heap.size w w' := by
  refine (Q.refDecode_any ⟨t.toArray⟩ (by rw [size_l]; exact ht) w).mono fun e w' ⟨he, hb⟩ => ⟨?_, hb⟩
  rw [show (⟨t.toArray⟩ : ByteArray).data.toList = t from rfl] at he
  unfold dn at h
  cases hd : Q.M.dec t with
  | none => rw [hd] at h he; cases h; exact he
  | some m => rw [hd] at h he; cases h; exact he
/-- the ways of three fields -/
theorem ways (p q t : List UInt8) (a b : Int) (one two : Bool) (n : List UInt8) (c : Int) (h1 : (K.M.parse p).getD 0 = a ∧ (K.M.parse p).isSome = one) (h2 : (K.M.parse q).getD 0 = b ∧ (K.M.parse q).isSome = two) (h3 : dn t = (n, c)) :
    (one = false ∧ mk3 p q t = none) ∨ (one = true ∧ two = false ∧ mk3 p q t = none) ∨ (one = true ∧ two = true ∧ c = 2 ∧ mk3 p q t = none) ∨
    (one = true ∧ two = true ∧ c = 0 ∧ may ⟨a, b, n⟩ = false ∧ mk3 p q t = none) ∨ (one = true ∧ two = true ∧ c = 0 ∧ may ⟨a, b, n⟩ = true ∧ mk3 p q t = some ⟨a, b, n⟩) := by
  unfold mk3
  unfold dn at h3
  cases hp : K.M.parse p with
  | none => rw [hp] at h1; exact .inl ⟨h1.2.symm, rfl⟩
  | some a' =>
    rw [hp] at h1
    obtain ⟨h1, h1'⟩ := h1
    simp at h1 h1'
    subst h1 h1'
    cases hq : K.M.parse q with
    | none => rw [hq] at h2; exact .inr (.inl ⟨rfl, h2.2.symm, rfl⟩)
    | some b' =>
      rw [hq] at h2
      obtain ⟨h2, h2'⟩ := h2
      simp at h2 h2'
      subst h2 h2'
      cases hd : Q.M.dec t with
      | none => rw [hd] at h3; cases h3; exact .inr (.inr (.inl ⟨rfl, rfl, rfl, rfl⟩))
      | some m =>
        rw [hd] at h3; cases h3
        cases hm : may ⟨a', b', n⟩ with
        | false => exact .inr (.inr (.inr (.inl ⟨rfl, rfl, rfl, rfl, by simp [hm]⟩)))
        | true => exact .inr (.inr (.inr (.inr ⟨rfl, rfl, rfl, rfl, by simp [hm]⟩)))
theorem mk3_nil (p q : List UInt8) : mk3 p q [] = none := by
  have hd : Q.M.dec [] = some [] := by decide
  have hm : ∀ a b, may ⟨a, b, []⟩ = false := fun a b => by
    have : V.M.check [] = 1 := by decide
    simp [may, this]
  unfold mk3
  rw [hd]
  cases K.M.parse p <;> cases K.M.parse q <;> simp [hm]

set_option maxRecDepth 100000 in
set_option maxHeartbeats 8000000 in
theorem refLine_any (S : ByteArray) (hs : S.size ≤ 5000) (w : World) :
    Calls Tryd.prog 42 #[.string S] w fun e w' => RLineOut (rd S.data.toList) e ∧ Below w.heap.size w w' := by
  obtain ⟨W, hW⟩ : ∃ W, W = w.alloc (.cells #[.int .i64 0, .int .i64 0, .string ⟨#[]⟩] 30) := ⟨_, rfl⟩
  have B0 : Below w.heap.size w W := by rw [hW]; exact (Below.refl _ _).alloc (Nat.le_refl _) _
  have HX : Hid (Box3 w.heap.size zero W) := Lib.hid (by rw [hW]; exact Box3.new zero w)
  have HW := Lib.hid hW
  clear hW
  obtain ⟨s, hS⟩ : ∃ s, S.data.toList = s := ⟨_, rfl⟩
  rw [hS]
  rcases I.cut_one 32 s with ⟨h1, hno⟩ | ⟨p, r, h1, hsp, hp, hpl⟩
  · have hz := list_size hS
    have HO : Hid (rd s = none) := Lib.hid (by
      rw [rd_is (q := []) (t := []) (c := false) h1 (by decide)]; exact mk3_nil _ _)
    rw [HO.out]
    have hS' : S.data.toList = [] ++ (s ++ []) := by simpa using hS
    have HN : Hid (∀ pos (h : pos < S.size), ¬ (S[pos]'h).toNat = 32) := Lib.hid (fun pos h => not_at hS' hno h (by simp) (by simp; omega))
    clear hS hS' h1 hno hz
    go_enter Tryd.func42, Tryd.ntmps42
    go_wp2_with fail
    rw [← HW.out]
    go_loop [4] (fun v => ∃ pos : Nat, pos ≤ S.size ∧ v = .int .i64 pos) (fun v => S.size - (intOf v).toNat)
    case atStart => exact ⟨0, Nat.zero_le _, rfl⟩
    case round =>
      obtain ⟨pos, hps, rfl⟩ := hrel
      by_cases hlt : pos < S.size
      · have hb : pos < S.size := by omega
        have hc := HN.out pos hb
        have hc1 : (((S[pos]'hb).toNat : Int) == 32) = false := by rw [beq_eq_false_iff_ne]; omega
        have hc2 : (((S[pos]'hb).toNat : Int) != 32) = true := by rw [bne_iff_ne]; omega
        clear hc
        go_wp2
        go_round
        case rel => exact ⟨pos + 1, by omega, by go_num⟩
        case measure => simp [intOf]; omega
      · obtain rfl : pos = S.size := by omega
        have hmin : min ((S.size : Int) + 1) (S.size : Int) = (S.size : Int) := by omega
        obtain ⟨z0, z1, z2, f0, f1, f2⟩ := HX.out.facts
        dsimp only [zero] at z0 z1 z2
        go_wp2
        go_loop [5] (fun v => v = .int .i64 S.size) (fun v => 0)
        case atStart => rfl
        case round =>
          obtain rfl := hrel
          go_wp2
          have XE := HX.out.put ⟨0, 0, []⟩
          have BE := put_below (n := w.heap.size) (Nat.le_refl _) W ⟨0, 0, []⟩
          dsimp only at XE BE
          generalize ((World.setCell _ _ _).setCell _ _).setCell _ _ = W4 at XE BE ⊢
          obtain ⟨g0, g1, g2, _, _, _⟩ := XE.facts
          dsimp only at g0 g1 g2
          clear XE z0 z1 z2 f0 f1 f2
          refine bodyPost_ret (by simp [results, Tryd.results42, go_sem, g0, g1, g2]; rfl) rfl ?_
          exact ⟨⟨⟨0, 0, []⟩, rfl, .inl rfl⟩, B0.trans BE⟩
  · have hz := list_size hS
    have hS1 : S.data.toList = [] ++ (p ++ 32 :: r) := by rw [hS, hsp]; rfl
    have hb1 : p.length < S.size := by omega
    have HN : Hid (∀ pos (h : pos < S.size), pos < p.length → ¬ (S[pos]'h).toNat = 32) := Lib.hid (fun pos h hp' => not_at hS1 hp h (by simp) (by simpa using hp'))
    have HI : Hid ((S[p.length]'hb1).toNat = 32) := Lib.hid (by have := is_at hS1 (by simpa using hb1); simpa using this)
    rcases I.cut_one 32 r with ⟨h2, hno⟩ | ⟨q, t, h2, hrq, hq, hql⟩
    · have HO : Hid (rd s = none) := Lib.hid (by rw [rd_is h1 h2]; exact mk3_nil _ _)
      rw [HO.out]
      have hS2 : S.data.toList = (p ++ [32]) ++ (r ++ []) := by rw [hS, hsp]; simp
      have HM : Hid (∀ pos (h : pos < S.size), p.length + 1 ≤ pos → ¬ (S[pos]'h).toNat = 32) := Lib.hid (fun pos h hp' => not_at hS2 hno h (by simpa using hp') (by simp; omega))
      have hn2 : S.size = p.length + 1 + r.length := by omega
      clear hS hS1 hS2 h1 h2 hno hz hp hsp hpl
      go_enter Tryd.func42, Tryd.ntmps42
      go_wp2_with fail
      rw [← HW.out]
      go_loop [4] (fun v => ∃ pos : Nat, pos ≤ p.length ∧ v = .int .i64 pos) (fun v => p.length - (intOf v).toNat)
      case atStart => exact ⟨0, Nat.zero_le _, rfl⟩
      case round =>
        obtain ⟨pos, hps, rfl⟩ := hrel
        by_cases hlt : pos < p.length
        · have hb : pos < S.size := by omega
          have hc := HN.out pos hb hlt
          have hc1 : (((S[pos]'hb).toNat : Int) == 32) = false := by rw [beq_eq_false_iff_ne]; omega
          have hc2 : (((S[pos]'hb).toNat : Int) != 32) = true := by rw [bne_iff_ne]; omega
          clear hc
          go_wp2
          go_round
          case rel => exact ⟨pos + 1, by omega, by go_num⟩
          case measure => simp [intOf]; omega
        · obtain rfl : pos = p.length := by omega
          have hb := HI.out
          have hc1 : (((S[p.length]'hb1).toNat : Int) == 32) = true := by rw [beq_iff_eq]; omega
          have hc2 : (((S[p.length]'hb1).toNat : Int) != 32) = false := by rw [bne_eq_false_iff_eq]; omega
          clear hb
          have hmin : min ((p.length : Int) + 1) (S.size : Int) = (p.length : Int) + 1 := by omega
          obtain ⟨z0, z1, z2, f0, f1, f2⟩ := HX.out.facts
          dsimp only [zero] at z0 z1 z2
          go_wp2
          go_loop [5] (fun v => ∃ pos : Nat, p.length + 1 ≤ pos ∧ pos ≤ S.size ∧ v = .int .i64 pos) (fun v => S.size - (intOf v).toNat)
          case atStart => exact ⟨p.length + 1, Nat.le_refl _, by omega, by go_num⟩
          case round =>
            obtain ⟨pos, hps, hps2, rfl⟩ := hrel
            by_cases hlt : pos < S.size
            · have hc := HM.out pos hlt hps
              have hc1 : (((S[pos]'hlt).toNat : Int) == 32) = false := by rw [beq_eq_false_iff_ne]; omega
              have hc2 : (((S[pos]'hlt).toNat : Int) != 32) = true := by rw [bne_iff_ne]; omega
              clear hc
              go_wp2
              go_round
              case rel => exact ⟨pos + 1, by omega, by omega, by go_num⟩
              case measure => simp [intOf]; omega
            · obtain rfl : pos = S.size := by omega
              go_wp2
              have XE := HX.out.put ⟨0, 0, []⟩
              have BE := put_below (n := w.heap.size) (Nat.le_refl _) W ⟨0, 0, []⟩
              dsimp only at XE BE
              generalize ((World.setCell _ _ _).setCell _ _).setCell _ _ = W4 at XE BE ⊢
              obtain ⟨g0, g1, g2, _, _, _⟩ := XE.facts
              dsimp only at g0 g1 g2
              clear XE z0 z1 z2 f0 f1 f2
              refine bodyPost_ret (by simp [results, Tryd.results42, go_sem, g0, g1, g2]; rfl) rfl ?_
              exact ⟨⟨⟨0, 0, []⟩, rfl, .inl rfl⟩, B0.trans BE⟩
    · have HO := Lib.hid (rd_is h1 h2)
      have hS2 : S.data.toList = (p ++ [32]) ++ (q ++ 32 :: t) := by rw [hS, hsp, hrq]; simp
      have hS3 : S.data.toList = (p ++ [32] ++ (q ++ [32])) ++ t := by rw [hS2]; simp
      have hb2 : p.length + 1 + q.length < S.size := by omega
      have HM : Hid (∀ pos (h : pos < S.size), p.length + 1 ≤ pos → pos < p.length + 1 + q.length → ¬ (S[pos]'h).toNat = 32) := Lib.hid (fun pos h hp' hp2 => not_at hS2 hq h (by simpa using hp') (by simpa using hp2))
      have HJ : Hid ((S[p.length + 1 + q.length]'hb2).toNat = 32) := Lib.hid (by have := is_at hS2 (by simpa using hb2); simpa using this)
      have ex1 : S.extract 0 p.length = ⟨p.toArray⟩ := by have := extract_mid (p := []) hS1; simpa using this
      have ex2 : S.extract (p.length + 1) (p.length + 1 + q.length) = ⟨q.toArray⟩ := by have := extract_mid hS2; simpa using this
      have ex3 : S.extract (p.length + 1 + q.length + 1) S.size = ⟨t.toArray⟩ := by
        have := extract_end hS3 S.size (by rw [list_size hS3, List.length_append])
        have el : (p ++ [32] ++ (q ++ [32])).length = p.length + 1 + q.length + 1 := by simp; omega
        rw [el] at this
        exact this
      obtain ⟨a, one, o1⟩ : ∃ a one, (K.M.parse p).getD 0 = a ∧ (K.M.parse p).isSome = one := ⟨_, _, rfl, rfl⟩
      obtain ⟨b, two, o2⟩ : ∃ b two, (K.M.parse q).getD 0 = b ∧ (K.M.parse q).isSome = two := ⟨_, _, rfl, rfl⟩
      obtain ⟨n, c, o3⟩ : ∃ n c, dn t = (n, c) := ⟨_, _, rfl⟩
      have cp := fun w => rparse_out o1 w
      have cq := fun w => rparse_out o2 w
      have cd := fun w => rdec_out (t := t) (by omega) o3 w
      have hways := ways p q t a b one two n c o1 o2 o3
      have hfn : n.length ≤ 5000 := by
        unfold dn at o3
        cases hd : Q.M.dec t with
        | none => rw [hd] at o3; cases o3; simp
        | some m => rw [hd] at o3; cases o3; have := dec_le hd; omega
      rw [HO.out]
      clear hS hS1 hS2 hS3 h1 h2 hz hp hsp hpl o1 o2 o3 HO hq hrq
      have HE1 := Lib.hid ex1; have HE2 := Lib.hid ex2; have HE3 := Lib.hid ex3
      clear ex1 ex2 ex3
      go_enter Tryd.func42, Tryd.ntmps42
      go_wp2_with fail
      rw [← HW.out]
      go_loop [4] (fun v => ∃ pos : Nat, pos ≤ p.length ∧ v = .int .i64 pos) (fun v => p.length - (intOf v).toNat)
      case atStart => exact ⟨0, Nat.zero_le _, rfl⟩
      case round =>
        obtain ⟨pos, hps, rfl⟩ := hrel
        by_cases hlt : pos < p.length
        · have hb : pos < S.size := by omega
          have hc := HN.out pos hb hlt
          have hc1 : (((S[pos]'hb).toNat : Int) == 32) = false := by rw [beq_eq_false_iff_ne]; omega
          have hc2 : (((S[pos]'hb).toNat : Int) != 32) = true := by rw [bne_iff_ne]; omega
          clear hc
          go_wp2
          go_round
          case rel => exact ⟨pos + 1, by omega, by go_num⟩
          case measure => simp [intOf]; omega
        · obtain rfl : pos = p.length := by omega
          have hb := HI.out
          have hc1 : (((S[p.length]'hb1).toNat : Int) == 32) = true := by rw [beq_iff_eq]; omega
          have hc2 : (((S[p.length]'hb1).toNat : Int) != 32) = false := by rw [bne_eq_false_iff_eq]; omega
          clear hb
          have hmin : min ((p.length : Int) + 1) (S.size : Int) = (p.length : Int) + 1 := by omega
          go_wp2
          go_loop [5] (fun v => ∃ pos : Nat, p.length + 1 ≤ pos ∧ pos ≤ p.length + 1 + q.length ∧ v = .int .i64 pos) (fun v => S.size - (intOf v).toNat)
          case atStart => exact ⟨p.length + 1, Nat.le_refl _, by omega, by go_num⟩
          case round =>
            obtain ⟨pos, hps, hps2, rfl⟩ := hrel
            by_cases hlt : pos < p.length + 1 + q.length
            · have hb := Nat.lt_trans hlt hb2
              have hc := HM.out pos hb hps hlt
              have hc1 : (((S[pos]'hb).toNat : Int) == 32) = false := by rw [beq_eq_false_iff_ne]; omega
              have hc2 : (((S[pos]'hb).toNat : Int) != 32) = true := by rw [bne_iff_ne]; omega
              clear hc
              go_wp2
              go_round
              case rel => exact ⟨pos + 1, by omega, by omega, by go_num⟩
              case measure => simp [intOf]; omega
            · obtain ⟨m, HMm⟩ : ∃ m, Hid (p.length + 1 + q.length = m) := ⟨_, Lib.hid rfl⟩
              obtain rfl : pos = m := by have := HMm.out; omega
              have hms : pos < S.size := by have := HMm.out; omega
              have hj : (S[pos]'hms).toNat = 32 := by
                have := HJ.out
                simpa only [HMm.out] using this
              have hc1 : (((S[pos]'hms).toNat : Int) == 32) = true := by rw [beq_iff_eq]; omega
              have hc2 : (((S[pos]'hms).toNat : Int) != 32) = false := by rw [bne_eq_false_iff_eq]; omega
              clear hj hlt hps2
              have HE2' := HE2.out
              rw [HMm.out] at HE2'
              have HE3' := HE3.out
              rw [HMm.out] at HE3'
              have HF2 := Lib.hid HE2'; have HF3 := Lib.hid HE3'
              clear HE2' HE3'
              have s1 : (pos : Int) ≤ S.size := by omega
              have s2 : (0 : Int) ≤ (pos : Int) + 1 := by omega
              have s3 : (pos : Int) + 1 ≤ S.size := by omega
              have s4 : (p.length : Int) + 1 ≤ pos := by omega
              have s5 : (0 : Int) ≤ (p.length : Int) + 1 := by omega
              go_wp2_with (first
                | (go_at_call 54; first | (rw [HE1.out]; refine (cp _).mono ?_; clear cp; rintro e w3 ⟨rfl, hb3⟩) | (rw [HF2.out]; refine (cq _).mono ?_; rintro e w4 ⟨rfl, hb4⟩))
                | (go_at_call 63; rw [HF3.out]; refine (cd _).mono ?_; rintro e w5 ⟨rfl, hb5⟩))
              have X5 := HX.out.below (below_two (below_two hb3 hb4) hb5)
              have hne : w.heap.size ≠ w5.heap.size := Nat.ne_of_lt X5.lt
              have C8 : Box3 w5.heap.size ⟨a, b, n⟩ (w5.alloc (.cells #[.int .i64 a, .int .i64 b, .string ⟨n.toArray⟩] 30)) := Box3.new ⟨a, b, n⟩ w5
              have X8 : Box3 w.heap.size zero (w5.alloc (.cells #[.int .i64 a, .int .i64 b, .string ⟨n.toArray⟩] 30)) := X5.below ((Below.refl _ _).alloc (Nat.le_refl _) _)
              have B8 : Below w.heap.size w (w5.alloc (.cells #[.int .i64 a, .int .i64 b, .string ⟨n.toArray⟩] 30)) := below_two (B0.trans ((below_two (below_two hb3 hb4) hb5).mono B0.size)) ((Below.refl _ _).alloc (Nat.le_refl _) _)
              generalize w5.alloc _ = W8 at C8 X8 B8 ⊢
              generalize w5.heap.size = bc at C8 hne ⊢
              clear hb3 hb4 hb5 X5
              rcases hways with ⟨rfl, hm⟩ | ⟨rfl, rfl, hm⟩ | ⟨rfl, rfl, rfl, hm⟩ | ⟨rfl, rfl, rfl, hmay, hm⟩ | ⟨rfl, rfl, rfl, hmay, hm⟩
              case inl =>
                obtain ⟨y0, y1, y2⟩ := C8.s3
                have HMK := Lib.hid hm
                obtain ⟨z0, z1, z2, f0, f1, f2⟩ := X8.facts
                dsimp only [zero] at y0 y1 y2 z0 z1 z2
                have HX8 := Lib.hid X8
                clear X8 C8 hm
                go_region
                go_wp2
                have XE := (HX8.out.put ⟨a, b, n⟩).drew
                have BE := (put_below (n := w.heap.size) (Nat.le_refl _) W8 ⟨a, b, n⟩).drew
                dsimp only at XE BE
                generalize World.drew (World.setCell _ _ _) = W4 at XE BE ⊢
                obtain ⟨g0, g1, g2, _, _, _⟩ := XE.facts
                dsimp only at g0 g1 g2
                clear XE z0 z1 z2 f0 f1 f2
                refine bodyPost_ret (by simp [results, Tryd.results42, go_sem, g0, g1, g2]; rfl) rfl ?_
                exact ⟨⟨⟨a, b, n⟩, by rw [HMK.out]; rfl, .inl HMK.out⟩, B8.trans BE⟩
              case inr.inl =>
                obtain ⟨y0, y1, y2⟩ := C8.s3
                have HMK := Lib.hid hm
                obtain ⟨z0, z1, z2, f0, f1, f2⟩ := X8.facts
                dsimp only [zero] at y0 y1 y2 z0 z1 z2
                have HX8 := Lib.hid X8
                clear X8 C8 hm
                go_region
                go_wp2
                have XE := (HX8.out.put ⟨a, b, n⟩).drew
                have BE := (put_below (n := w.heap.size) (Nat.le_refl _) W8 ⟨a, b, n⟩).drew
                dsimp only at XE BE
                generalize World.drew (World.setCell _ _ _) = W4 at XE BE ⊢
                obtain ⟨g0, g1, g2, _, _, _⟩ := XE.facts
                dsimp only at g0 g1 g2
                clear XE z0 z1 z2 f0 f1 f2
                refine bodyPost_ret (by simp [results, Tryd.results42, go_sem, g0, g1, g2]; rfl) rfl ?_
                exact ⟨⟨⟨a, b, n⟩, by rw [HMK.out]; rfl, .inl HMK.out⟩, B8.trans BE⟩
              case inr.inr.inl =>
                obtain ⟨y0, y1, y2⟩ := C8.s3
                have HMK := Lib.hid hm
                obtain ⟨z0, z1, z2, f0, f1, f2⟩ := X8.facts
                dsimp only [zero] at y0 y1 y2 z0 z1 z2
                have HX8 := Lib.hid X8
                clear X8 C8 hm
                go_region
                go_wp2
                have XE := (HX8.out.put ⟨a, b, n⟩).drew
                have BE := (put_below (n := w.heap.size) (Nat.le_refl _) W8 ⟨a, b, n⟩).drew
                dsimp only at XE BE
                generalize World.drew (World.setCell _ _ _) = W4 at XE BE ⊢
                obtain ⟨g0, g1, g2, _, _, _⟩ := XE.facts
                dsimp only at g0 g1 g2
                clear XE z0 z1 z2 f0 f1 f2
                refine bodyPost_ret (by simp [results, Tryd.results42, go_sem, g0, g1, g2]; rfl) rfl ?_
                exact ⟨⟨⟨a, b, n⟩, by rw [HMK.out]; rfl, .inl HMK.out⟩, B8.trans BE⟩
              case inr.inr.inr.inl =>
                obtain ⟨y0, y1, y2⟩ := C8.s3
                have HMK := Lib.hid hm
                have cm := fun w => refMay_any ⟨a, b, n⟩ (by exact hfn) w
                rw [hmay] at cm
                unfold enc at cm
                dsimp only [zero] at y0 y1 y2 cm
                have HX8 := Lib.hid X8
                clear X8 C8 hm hmay
                have T0 : S3 bc ⟨a, b, n⟩ W8.drew := ⟨y0, y1, y2⟩
                have cm9 : ∀ w', S3 bc ⟨a, b, n⟩ w' → Below W8.heap.size W8 w' → Calls Tryd.prog 20 #[.agg #[.int .i64 a, .int .i64 b, .string ⟨n.toArray⟩]] w' fun e w'' => e = .returned (.bool false) ∧ S3 bc ⟨a, b, n⟩ w'' ∧ Below W8.heap.size W8 w'' := fun w' h hb' => (cm w').mono fun e w'' ⟨he, hb⟩ => ⟨he, s3_below h hb, below_two hb' hb⟩
                have hbd : Below W8.heap.size W8 W8.drew := (Below.refl _ _).drew
                go_region_held3 (fun w' => w'.cell? ⟨bc, 0, none⟩ = some (.int .i64 a) ∧ w'.cell? ⟨bc, 1, none⟩ = some (.int .i64 b) ∧ w'.cell? ⟨bc, 2, none⟩ = some (.string ⟨n.toArray⟩)) (first | exact T9 | exact T0 | exact s3_other (x := ⟨a, b, n⟩) T9 hne _ _ _)
                  (first
                    | (go_at_call 20; refine (cm9 _ T0 hbd).mono ?_; rintro e w9 ⟨rfl, T9, hb9⟩; have X9 := HX8.out.below hb9; obtain ⟨z0, z1, z2, f0, f1, f2⟩ := X9.facts; dsimp only [zero] at z0 z1 z2; have HX9 := Lib.hid X9; clear X9))
                go_wp2
                have XE := HX9.out.put ⟨a, b, n⟩
                have BE := put_below (n := w.heap.size) (Nat.le_refl _) w9 ⟨a, b, n⟩
                dsimp only at XE BE
                generalize World.setCell (World.setCell (World.setCell _ _ _) _ _) _ _ = W4 at XE BE ⊢
                obtain ⟨g0, g1, g2, _, _, _⟩ := XE.facts
                dsimp only at g0 g1 g2
                clear XE z0 z1 z2 f0 f1 f2
                refine bodyPost_ret (by simp [results, Tryd.results42, go_sem, g0, g1, g2]; rfl) rfl ?_
                exact ⟨⟨⟨a, b, n⟩, by rw [HMK.out]; rfl, .inl HMK.out⟩, (below_two B8 hb9).trans BE⟩
              case inr.inr.inr.inr =>
                obtain ⟨y0, y1, y2⟩ := C8.s3
                have HMK := Lib.hid hm
                have cm := fun w => refMay_any ⟨a, b, n⟩ (by exact hfn) w
                rw [hmay] at cm
                unfold enc at cm
                dsimp only [zero] at y0 y1 y2 cm
                have HX8 := Lib.hid X8
                clear X8 C8 hm hmay
                have T0 : S3 bc ⟨a, b, n⟩ W8.drew := ⟨y0, y1, y2⟩
                have cm9 : ∀ w', S3 bc ⟨a, b, n⟩ w' → Below W8.heap.size W8 w' → Calls Tryd.prog 20 #[.agg #[.int .i64 a, .int .i64 b, .string ⟨n.toArray⟩]] w' fun e w'' => e = .returned (.bool true) ∧ S3 bc ⟨a, b, n⟩ w'' ∧ Below W8.heap.size W8 w'' := fun w' h hb' => (cm w').mono fun e w'' ⟨he, hb⟩ => ⟨he, s3_below h hb, below_two hb' hb⟩
                have hbd : Below W8.heap.size W8 W8.drew := (Below.refl _ _).drew
                go_region_held3 (fun w' => w'.cell? ⟨bc, 0, none⟩ = some (.int .i64 a) ∧ w'.cell? ⟨bc, 1, none⟩ = some (.int .i64 b) ∧ w'.cell? ⟨bc, 2, none⟩ = some (.string ⟨n.toArray⟩)) (first | exact T9 | exact T0 | exact s3_other (x := ⟨a, b, n⟩) T9 hne _ _ _)
                  (first
                    | (go_at_call 20; refine (cm9 _ T0 hbd).mono ?_; rintro e w9 ⟨rfl, T9, hb9⟩; have X9 := HX8.out.below hb9; obtain ⟨z0, z1, z2, f0, f1, f2⟩ := X9.facts; dsimp only [zero] at z0 z1 z2; have HX9 := Lib.hid X9; clear X9))
                go_wp2
                have XE := HX9.out.put ⟨a, b, n⟩
                have BE := put_below (n := w.heap.size) (Nat.le_refl _) w9 ⟨a, b, n⟩
                dsimp only at XE BE
                generalize World.setCell (World.setCell (World.setCell _ _ _) _ _) _ _ = W4 at XE BE ⊢
                obtain ⟨g0, g1, g2, _, _, _⟩ := XE.facts
                dsimp only at g0 g1 g2
                clear XE z0 z1 z2 f0 f1 f2
                refine bodyPost_ret (by simp [results, Tryd.results42, go_sem, g0, g1, g2]; rfl) rfl ?_
                exact ⟨⟨⟨a, b, n⟩, by rw [HMK.out]; rfl, .inr HMK.out⟩, (below_two B8 hb9).trans BE⟩
end Go.Proofs.YtolobnokpmbajaaDoor.Z
