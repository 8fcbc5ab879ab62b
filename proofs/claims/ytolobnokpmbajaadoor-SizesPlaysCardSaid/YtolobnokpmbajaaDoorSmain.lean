/-
  slices.symMergeCmpFunc at lines, all ways.
-/
import Derived.Test.YtolobnokpmbajaaDoorSmA
import Derived.Test.YtolobnokpmbajaaDoorSmB
import Derived.Test.YtolobnokpmbajaaDoorSmC
namespace Go.Proofs.YtolobnokpmbajaaDoor
open Go.Shelf Go.RowKit Go.Lib Go.Sort Go.Proofs St

theorem sym_any {P : Program} {k : Nat} (L : Lay P k) (g : Nat) (cb : Array Value) (blk off cap : Nat) (d0 : Array Line) (w0 : World)
    (eg : ∀ args w, (callFunc g args).run P w = .ok (.enter g args) w) (hcmp : CmpLays P g cb enc k cf blk off d0.size w0)
    (R : RowK enc k w0 blk off d0) (hsz : d0.size < 4611686018427387904) : ∀ N : Nat, SymAt P k g cb blk off cap w0 d0 N := by
  intro N
  induction N with
  | zero => intro a m b d w hN hs S ham hmb; omega
  | succ N ih =>
  intro a m b d w hN hs S ham hmb hb hl hr
  by_cases ham1 : m = a + 1
  · exact sym_left L g cb blk off cap a m b d0 d w0 w eg hcmp R hs S ham1 hmb hb (by omega) hr
  by_cases hmb1 : b = m + 1
  · exact sym_right L g cb blk off cap a m b d0 d w0 w eg hcmp R hs S (by omega) hmb1 hb (by omega) hl
  obtain ⟨mid, hmid⟩ : ∃ mid, mid = (a + b) / 2 := ⟨_, rfl⟩
  obtain ⟨st, r0, hst⟩ : ∃ st r0, StR a m b mid st r0 := by
    by_cases h : mid < m
    · exact ⟨mid + m - b, mid, .inl ⟨h, rfl, rfl⟩⟩
    · exact ⟨a, m, .inr ⟨by omega, rfl, rfl⟩⟩
  have B : Bd a m b mid st r0 := ⟨by omega, by omega, hmid, hst⟩
  obtain ⟨s, h1, h2, F⟩ := Fnd.found B hl hr
  obtain ⟨en, hen⟩ : ∃ en, en = mid + m - s := ⟨_, rfl⟩
  obtain ⟨n1, n2, n3, n4, n5, n6, n7, n8⟩ := B.num
  by_cases c1 : s < m
  · by_cases c2 : m < en
    · by_cases c3 : a < s
      · by_cases c4 : en < b
        · exact sym_A11 L g cb blk off cap d0 w0 eg hcmp R hsz N a m b mid st r0 s en d w hN hs S B F h1 h2 hen hb hl hr ih c1 c2 c3 c4
        · exact sym_A10 L g cb blk off cap d0 w0 eg hcmp R hsz N a m b mid st r0 s en d w hN hs S B F h1 h2 hen hb hl hr ih c1 c2 c3 (by omega)
      · by_cases c4 : en < b
        · exact sym_A01 L g cb blk off cap d0 w0 eg hcmp R hsz N a m b mid st r0 s en d w hN hs S B F h1 h2 hen hb hl hr ih c1 c2 (by omega) c4
        · exact sym_A00 L g cb blk off cap d0 w0 eg hcmp R hsz N a m b mid st r0 s en d w hN hs S B F h1 h2 hen hb hl hr ih c1 c2 (by omega) (by omega)
    · exact sym_C L g cb blk off cap d0 w0 eg hcmp R hsz N a m b mid st r0 s en d w hN hs S B F h1 h2 hen hb hl hr ih c1 (by omega)
  · by_cases c3 : m < mid
    · exact sym_B1 L g cb blk off cap d0 w0 eg hcmp R hsz N a m b mid st r0 s en d w hN hs S B F h1 h2 hen hb hl hr ih (by omega) c3
    · exact sym_B0 L g cb blk off cap d0 w0 eg hcmp R hsz N a m b mid st r0 s en d w hN hs S B F h1 h2 hen hb hl hr ih (by omega) (by omega)
end Go.Proofs.YtolobnokpmbajaaDoor
