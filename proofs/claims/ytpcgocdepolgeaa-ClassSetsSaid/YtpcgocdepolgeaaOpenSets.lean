/-
  Arguments that are two texts and two bytes, opened. For this program's types; no condition but those that each theorem bears.
-/
import Derived.Test.YtpcgocdepolgeaaChecked
import Derived.Test.YtpcgocdepolgeaaOpenRecs
import Derived.KernelRfl
namespace Go.Proofs.Ytpcgocdepolgeaa.W13
open Go Go.RowKit Go.ChangeShapes Go.WideShapes Go.Deep Go.Joins
open Go.Proofs.Ytpcgocdepolgeaa.Recs

theorem set_struct : ∃ f0 f1 f2 f3 : Field, Try.prog.underlying 23 = some (.struct #[f0, f1, f2, f3]) ∧ f0.type = 9 ∧ f1.type = 9 ∧ f2.type = 5 ∧ f3.type = 5 ∧ oneCellFields Try.prog #[f0, f1, f2, f3] = true :=
  ⟨_, _, _, _, Try.underlying23, rfl, rfl, rfl, rfl, by kernel_rfl⟩
theorem set_cells : Try.prog.cellsOf 23 = 4 := by kernel_rfl
theorem four {α : Type} : ∀ {l : List α}, l.length = 4 → ∃ a b c d, l = [a, b, c, d]
  | [a, b, c, d], _ => ⟨a, b, c, d, rfl⟩
theorem u8_of {z : Int} (h : (Lit.int .u8 z).wf = true) : ∃ c : UInt8, z = (c.toNat : Int) := by
  have h2 : 0 ≤ z ∧ z ≤ 255 := by simpa [Lit.wf, IntKind.min, IntKind.max, IntKind.signed, IntKind.bits] using h
  refine ⟨UInt8.ofNat z.toNat, ?_⟩
  rw [UInt8.toNat_ofNat']
  omega
section
variable {H : Type} {enc : TypeId × Value → H} {W : World} {base : Nat}
theorem set_read (n : Nat) (cs : List Value) (x : DataW H × List MemPlace) (hl : cs.length = 4) (h : DataW.trod enc Try.prog W 0 (fun _ => true) true n 23 cs = some x) : ∃ (s1 s2 : ByteArray) (c d : UInt8), cs = [.string s1, .string s2, .int .u8 c.toNat, .int .u8 d.toNat] := by
  obtain ⟨f0, f1, f2, f3, hs, e0, e1, e2, e3, hone⟩ := set_struct
  obtain ⟨o0, k0⟩ := hone_of hone 0 f0 rfl
  obtain ⟨o1, k1⟩ := hone_of hone 1 f1 rfl
  obtain ⟨o2, k2⟩ := hone_of hone 2 f2 rfl
  obtain ⟨o3, k3⟩ := hone_of hone 3 f3 rfl
  obtain ⟨xs, m, _, _, _, hxl, hf⟩ := DataW.trod_struct hs h
  have hxl3 : xs.length = 4 := hxl
  have g0 := hf 0 f0 rfl
  have g1 := hf 1 f1 rfl
  have g2 := hf 2 f2 rfl
  have g3 := hf 3 f3 rfl
  rw [o0, k0, e0, List.getElem?_eq_getElem (by omega)] at g0
  rw [o1, k1, e1, List.getElem?_eq_getElem (by omega)] at g1
  rw [o2, k2, e2, List.getElem?_eq_getElem (by omega)] at g2
  rw [o3, k3, e3, List.getElem?_eq_getElem (by omega)] at g3
  obtain ⟨c0, c1, c2, c3, rfl⟩ := four hl
  obtain ⟨s0, q0, _, _⟩ := DataW.trod_string Try.underlying9 g0
  obtain ⟨s1, q1, _, _⟩ := DataW.trod_string Try.underlying9 g1
  obtain ⟨z2, q2, u2, v2⟩ := DataW.trod_int Try.underlying5 g2
  obtain ⟨z3, q3, u3, v3⟩ := DataW.trod_int Try.underlying5 g3
  simp at q0 q1 q2 q3
  subst q0 q1 q2 q3
  obtain ⟨c, rfl⟩ := u8_of v2
  obtain ⟨d, rfl⟩ := u8_of v3
  exact ⟨s0, s1, c, d, rfl⟩
set_option maxRecDepth 100000 in
theorem open_set {v : Value} {d : DataW H} {p : List MemPlace} (hok : Value.okWide Try.prog W .any base 23 v) (h : DataW.Trod enc Try.prog W 0 (fun _ => true) true 23 v d p) :
    ∃ (s1 s2 : ByteArray) (a b : UInt8), v = .agg #[.string s1, .string s2, .int .u8 a.toNat, .int .u8 b.toNat] := by
  obtain ⟨f0, f1, f2, f3, hs, -⟩ := set_struct
  obtain ⟨cs, rfl, hsz⟩ := okWide_struct hs hok
  obtain ⟨fuel, hf⟩ := h
  obtain ⟨s1, s2, a, b, hr⟩ := set_read _ _ _ (by show cs.toList.length = 4; rw [Array.length_toList, hsz]; exact set_cells) hf
  refine ⟨s1, s2, a, b, ?_⟩
  have hr2 : cs.toList = _ := hr
  have : cs = #[.string s1, .string s2, .int .u8 a.toNat, .int .u8 b.toNat] := by
    apply Array.toList_inj.1
    rw [hr2]
  rw [this]
end
end Go.Proofs.Ytpcgocdepolgeaa.W13
