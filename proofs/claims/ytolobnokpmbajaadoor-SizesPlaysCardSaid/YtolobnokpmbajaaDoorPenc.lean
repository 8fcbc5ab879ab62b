/-
  What pct.Encode does.
-/
import Derived.Test.YtolobnokpmbajaaDoorPfirst
import Derived.Maps.AppendAt
import Derived.Laws.BytesString
import Derived.Laws.IdiomStrings
import Derived.Laws.BytesArg
import Derived.Deep.RegionLaw
namespace Go.Proofs.YtolobnokpmbajaaDoor.Q
open Go.RowKit Go.Shelf

theorem info5 : (Tryd.prog.info? 5).map (fun i => (i.zero, i.size, i.bytes)) = some (some (.int .u8 0), 1, 1) := by kernel_rfl
theorem add_plain0 (b o i : Nat) : (⟨b, o, none⟩ : Addr).add i = ⟨b, o + i, none⟩ := by unfold Addr.add; split <;> simp_all
/-- the slice v holds these bytes, in memory of the call's own -/
def Bytes (B : Nat) (v : Value) (bs : List UInt8) (w : World) : Prop := w.ownsRow B 5 1 v bs.length (bs.map byt)
theorem Bytes.snoc {B : Nat} {v : Value} {bs : List UInt8} {n : Nat} {ns : List UInt8} {w : World} (hn : ns.length = n) (h : w.ownsRow B 5 1 v (bs.length + n) (bs.map byt ++ ns.map byt)) : Bytes B v (bs ++ ns) w := by
  unfold Bytes; rw [List.length_append, hn, List.map_append]; exact h
theorem Bytes.string {B : Nat} {v : Value} {bs : List UInt8} {w : World} (h : Bytes B v bs w) : (convert 48 9 v).run Tryd.prog w = .ok (.string ⟨bs.toArray⟩) w := by
  rcases h.2 with ⟨rfl, h0⟩ | ⟨g, cap, cur, rfl, hB, hg, hle, hm, hsz, htk⟩
  · have := List.eq_nil_of_length_eq_zero h0
    subst this
    have h1 := run_convert_bytes_nil (P := Tryd.prog) (w := w) 48 5 Tryd.underlying48 Tryd.underlying5 0 0 9 Tryd.underlying9
    exact h1
  · refine run_convert_bytes_back w 48 9 5 ⟨g, 0, none⟩ _ bs Tryd.underlying48 Tryd.underlying5 Tryd.underlying9 fun j hj => ?_
    have hc := World.ownsRow.cellAt (w := w) (base := B) (e := 5) (size := 1) (g := g) (n := bs.length) (cap := cap) (xs := bs.map byt) h j (by omega)
    rw [add_plain0, Nat.zero_add, hc, List.getElem?_map]
    simp [List.getElem?_eq_getElem hj, byt]
/-- 'append' to a row of the call's own, as one step of a region that draws its order -/
theorem step_append_own {P : Program} {ops : Array Oper} {o : Oper} {a : Act} {w : World} {K : Act → World → Prop} {Q : Exit → Act → World → Prop} {E : Prop}
    (hg : o.guard = none) (s x : Operand) (t : TypeId) (ho : o.op = .call { callee := .builtin .append, args := #[s, x], argTypes := #[t, t] })
    (base : Nat) (e : TypeId) (i : TypeInfo) (z : Value) (size bytes : Nat) (ht : P.underlying t = some (.slice e)) (hi : P.info? e = some i) (hz : i.zero = some z)
    (hsize : i.size = size) (hby : i.bytes = bytes) (hzs : z.cells.size = size) (hsz : 0 < size)
    (v : Value) (n : Nat) (xs : List Value) (hs : a.eval s = v) (hown : w.ownsRow base e size v n xs)
    (ad : Addr) (m c : Nat) (news : List Value) (hx : a.eval x = .slice (some ad) m c) (hl : news.length = m * size) (hnews : ∀ j u, news[j]? = some u → w.cell? (ad.add j) = some u) (h1 : ∀ u ∈ news, u.oneCell' = true)
    (h63 : n + m ≤ maxLen) (hbytes : (n + m) * bytes ≤ 140737488355328) (hbase : base ≤ w.heap.size)
    (h : ∀ v' w', w'.ownsRow base e size v' (n + m) (xs ++ news) → w.grownBy w' v.ownBlock → K (a.put o.dst v') w') :
    if Region.wanted o (yielded ops a.tmps) = true then Oper.wp P o a w K Q else E := by
  have hw : Region.wanted o (yielded ops a.tmps) = true := by simp [Region.wanted, hg]
  rw [if_pos hw]
  exact wp_append_own w s x t ho base e i z size bytes ht hi hz hsize hby hzs hsz v n xs hs hown ad m c news hx hl hnews h1 h63 hbytes hbase (fun v' w' h1 h2 _ => h v' w' h1 h2)
theorem cell_three_new (w : World) (a b c : Value) (t : TypeId) : ∀ j u, [a, b, c][j]? = some u → (w.alloc (.cells #[a, b, c] t)).cell? ((⟨w.heap.size, 0, none⟩ : Addr).add j) = some u := by
  intro j u h
  rw [add_plain0, Nat.zero_add, World.cell?_alloc_new]
  simpa using h
theorem up_fin : ∀ k : Fin 16, (⟨#[48, 49, 50, 51, 52, 53, 54, 55, 56, 57, 65, 66, 67, 68, 69, 70]⟩ : ByteArray).data.toList.getD k.val 0 = M.up k.val := by decide +kernel
abbrev ups : ByteArray := ⟨#[48, 49, 50, 51, 52, 53, 54, 55, 56, 57, 65, 66, 67, 68, 69, 70]⟩
theorem ups_at (k : Nat) (h : k < 16) (h' : k < ups.size) : ups[k]'h' = M.up k := by
  have := up_fin ⟨k, h⟩
  rw [← this, List.getD_eq_getElem?_getD, List.getElem?_eq_getElem (show k < ups.data.toList.length from h)]
  rfl
theorem three_up (c : UInt8) (h1 : ((c.toNat : Int) / 16).toNat < ups.size) (h2 : ((c.toNat : Int) % 16).toNat < ups.size) :
    [Value.int .u8 37, .int .u8 ((ups[((c.toNat : Int) / 16).toNat]'h1).toNat : Int), .int .u8 ((ups[((c.toNat : Int) % 16).toNat]'h2).toNat : Int)] = [37, M.up (c.toNat / 16), M.up (c.toNat % 16)].map byt := by
  have hc := M.byte_lt c
  rw [ups_at _ (by omega), ups_at _ (by omega), show ((c.toNat : Int) / 16).toNat = c.toNat / 16 by omega, show ((c.toNat : Int) % 16).toNat = c.toNat % 16 by omega]
  rfl
theorem and15 : ∀ x : Fin 256, bits .and .u8 ((x.val : Nat) : Int) 15 = ((x.val % 16 : Nat) : Int) := by decide +kernel
theorem and15' (c : UInt8) : bits .and .u8 (c.toNat : Int) 15 = ((c.toNat % 16 : Nat) : Int) := and15 ⟨c.toNat, M.byte_lt c⟩

set_option maxRecDepth 100000 in
set_option maxHeartbeats 2000000 in
theorem encode_any (s : ByteArray) (hs : s.size ≤ 10000) (w : World) :
    Calls Tryd.prog 56 #[.string s] w fun e w' => e = .returned (.string ⟨(M.enc s.data.toList).toArray⟩) ∧ Below w.heap.size w w' := by
  obtain ⟨i0, hi, hz0, hz1, hz2⟩ := info_parts info5
  have mixed : Tryd.prog.follows Departure.mixedOrders = true := by kernel_rfl
  have cl := fun w => len_any s hs w
  have hl := M.enc_len s.data.toList
  rw [← Lib.size_eq] at hl
  obtain ⟨n, HN⟩ : ∃ n, Hid ((M.enc s.data.toList).length = n) := ⟨_, Lib.hid rfl⟩
  rw [HN.out] at cl hl
  have hn : n ≤ 30000 := by omega
  clear hl
  go_enter Tryd.func56, Tryd.ntmps56
  go_wp2_with (first
    | (go_at_call 72; refine (cl _).mono ?_; rintro e w1 ⟨rfl, rfl⟩)
    | (at_make; refine wpList_make_own _ rfl _ _ 48 rfl w.heap.size 5 i0 (.int .u8 0) 1 Tryd.underlying48 hi hz0 hz1 .i64 .i64 _ n rfl rfl rfl (by rw [hz2]; omega) (by unfold maxLen; omega) (Nat.le_refl _) ?_; intro w1 hown hgrow))
  go_loopw [3, 11] (fun v i wr => ∃ pos : Nat, pos ≤ s.size ∧ i = .int .i64 pos ∧ Bytes w.heap.size v (M.enc (s.data.toList.take pos)) wr ∧ Below w.heap.size w wr) (fun _ i _ => s.size - (intOf i).toNat)
  case atStart => exact ⟨0, Nat.zero_le _, rfl, hown, (Below.refl _ w).grown hgrow (Nat.le_refl _) (by simp)⟩
  case round =>
    obtain ⟨pos, hps, rfl, hb5, hb⟩ := hrel
    clear hown hgrow cl
    by_cases hp : pos < s.size
    · have hl := M.enc_len (s.data.toList.take pos)
      rw [List.length_take] at hl
      have hsn := take_snoc s pos hp
      have HS := Lib.hid (show M.enc (s.data.toList.take (pos + 1)) = M.enc (s.data.toList.take pos) ++ M.enc1 (s[pos]'hp) by rw [hsn, M.enc_snoc])
      clear hsn
      unfold Bytes at hb5
      obtain ⟨bs, HB⟩ : ∃ bs, Hid (M.enc (s.data.toList.take pos) = bs) := ⟨_, Lib.hid rfl⟩
      rw [HB.out] at hl hb5 HS
      have hbl : bs.length ≤ 30000 := by omega
      clear hl
      cases hq : M.pl (s[pos]'hp) with
      | true =>
        have HQ := Lib.hid hq; clear hq
        go_wp2_with (first
          | (go_at_call 73; refine (unreserved_is _ true HQ.out _).mono ?_; rintro e w1 ⟨rfl, rfl⟩)
          | (at_builtin; refine wpList_append_own _ rfl _ _ 48 rfl w.heap.size 5 i0 (.int .u8 0) 1 1 Tryd.underlying48 hi hz0 hz1 hz2 rfl (by decide) _ _ _ rfl (hb5.alloc _) ⟨wr.heap.size, 0, none⟩ 1 1 [byt (s[pos]'hp)] rfl rfl (cell_one_new _ _ _) (by simp [Value.oneCell', byt]) (by unfold maxLen; omega) (by omega) (by have := hb.size; simp; omega) ?_; intro v' w1 hown' hgrow _))
        go_roundw
        case rel => exact ⟨pos + 1, by omega, by go_num, by rw [HS.out, M.enc1_pl HQ.out]; exact Bytes.snoc rfl hown', (hb.alloc hb.size _).grown hgrow (by have := hb.size; simp; omega) (fun k hk => (hb5.lt k hk).1)⟩
        case measure => simp [intOf]; omega
      | false =>
        have HQ := Lib.hid hq; clear hq
        have ha := and15' (s[pos]'hp)
        have hc := M.byte_lt (s[pos]'hp)
        have q1 : 0 ≤ ((s[pos]'hp).toNat : Int) / 16 := by omega
        have q2 : ((s[pos]'hp).toNat : Int) / 16 < 16 := by omega
        have r1 : 0 ≤ ((s[pos]'hp).toNat : Int) % 16 := by omega
        have r2 : ((s[pos]'hp).toNat : Int) % 16 < 16 := by omega
        go_wp2_with (go_at_call 73; refine (unreserved_is _ false HQ.out _).mono ?_; rintro e w1 ⟨rfl, rfl⟩)
        go_region_law (refine step_append_own rfl (.tmp 23) (.tmp 30) 48 rfl w.heap.size 5 i0 (.int .u8 0) 1 1 Tryd.underlying48 hi hz0 hz1 hz2 rfl (by decide) _ _ _ (by simp [Act.eval]) (hb5.drew.alloc _) ⟨wr.heap.size, 0, none⟩ 3 3 [_, _, _] (by simp [Act.eval]) rfl (cell_three_new _ _ _ _ _) (by simp [Value.oneCell']) (by unfold maxLen; omega) (by omega) (by have := hb.size; simp; omega) ?_; intro v' w1 hown' hgrow)
        all_goals
          go_wp2
          go_roundw
          case rel =>
            refine ⟨pos + 1, by omega, by go_num, ?_, ((hb.drew.alloc hb.size _).grown hgrow (by have := hb.size; simp; omega) (fun k hk => (hb5.lt k hk).1))⟩
            rw [HS.out, M.enc1_not HQ.out]
            refine Bytes.snoc (n := 3) rfl ?_
            rw [← three_up]
            exact hown'
          case measure => simp [intOf]; omega
    · have HE := Lib.hid (show M.enc (s.data.toList.take pos) = M.enc s.data.toList by rw [List.take_of_length_le (by simp; omega)])
      have hst := hb5.string
      generalize M.enc (s.data.toList.take pos) = bs at HE hst hb5
      go_wp2
      go_ret
      exact ⟨by rw [← HE.out]; rfl, hb⟩
end Go.Proofs.YtolobnokpmbajaaDoor.Q
