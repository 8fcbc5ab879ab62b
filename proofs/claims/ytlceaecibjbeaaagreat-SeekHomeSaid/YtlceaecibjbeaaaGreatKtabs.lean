/-
  Who asks, and a slice of texts, as arguments.
-/
import Derived.Test.YtlceaecibjbeaaaGreatKtell
namespace Go.Proofs.YtlceaecibjbeaaaGreat.K
open Go.ChangeShapes Go.WideShapes Go.ChangeAt Go.RowKit Go.Deep
open E (rows_at of_at list_of cells3 cellsS cell_int)
open G (items_of)
set_option maxRecDepth 100000

theorem laidOut : laidOutB Tryz.prog = true := by kernel_rfl
theorem open_cred {w : World} {r : Reach} {base : Nat} {v : Value} (hval : Value.okWide Tryz.prog w r base 24 v) : ∃ u g, v = .agg #[.int .i64 u, .int .i64 g] := by
  obtain ⟨cs, rfl, hsz, hrow⟩ : ∃ cs, v = .agg cs ∧ cs.size = Tryz.prog.cellsOf 24 ∧ Row.okWide Tryz.prog w r base 24 cs := by
    simpa [Value.okWide, Tryz.underlying24] using hval
  rw [show Tryz.prog.cellsOf 24 = 2 by kernel_rfl] at hsz
  have hr := rows_at (ts := [3, 3]) (by kernel_rfl) hsz hrow
  obtain ⟨l⟩ := cs
  match l, hsz with
  | [z0, z1], _ =>
    obtain ⟨x0, rfl⟩ := cell_int Tryz.underlying3 (of_at hr 0 _ _ rfl rfl)
    obtain ⟨x1, rfl⟩ := cell_int Tryz.underlying3 (of_at hr 1 _ _ rfl rfl)
    exact ⟨x0, x1, rfl⟩
section
variable {H : Type} {enc : TypeId × Value → H} {w : World} {base : Nat} {spare : Nat → Bool} {held : Bool} {fuel : Nat}
theorem texts_of {a : Option Addr} {len cap : Nat} {x : DataW H × List MemPlace}
    (h : DataW.trod enc Tryz.prog w base spare held fuel 25 [.slice a len cap] = some x) : ∃ ls, Txts (.slice a len cap) ls w ∧ True := by
  rcases open_slice Tryz.underlying25 h with ⟨hcs, _⟩ | ⟨b, len', cap', m, n, D, Pl, hcs, _, hl, hm, hmm, _, hi⟩
  · simp at hcs
    obtain ⟨rfl, rfl, rfl⟩ := hcs
    exact ⟨[], txts_none none 0 (Nat.zero_le _) w, trivial⟩
  · simp at hcs
    obtain ⟨rfl, rfl, rfl⟩ := hcs
    have hle : len ≤ m := by rw [hmm]; split <;> omega
    rw [cellsS] at hi
    have each : ∀ i, i < len → ∃ y : ByteArray, w.cell? (b.add (i * 1)) = some (.string y) := by
      intro i hlt
      obtain ⟨cs, hc, ht⟩ := hi i (by omega)
      obtain ⟨_, hcl, hat⟩ := World.cells?_some hc
      obtain ⟨z, e, _, _⟩ := DataW.trod_string Tryz.underlying9 ht
      refine ⟨z, ?_⟩
      have := hat 0 (by decide)
      rw [e] at this
      simpa [Addr.add] using this
    obtain ⟨ls, hls, hP⟩ := list_of len each
    refine ⟨ls, ⟨some b, cap, by rw [hls], by rw [hls]; exact ⟨hl, hm⟩, fun k y hk => ?_⟩, trivial⟩
    have h0 := hP k y hk
    obtain ⟨g, o, spot⟩ := b
    have hb0 := hP 0 (ls[0]'(by have := (List.getElem?_eq_some_iff.1 hk).1; omega)) (List.getElem?_eq_getElem _)
    have hspot : spot = none := by simpa [Addr.add] using World.cell?_spot hb0
    subst hspot
    rw [E.add_at, Nat.mul_one] at h0
    exact ⟨g, o, rfl, h0⟩
end
end Go.Proofs.YtlceaecibjbeaaaGreat.K
