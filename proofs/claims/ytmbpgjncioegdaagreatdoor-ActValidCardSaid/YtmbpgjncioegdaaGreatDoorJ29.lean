/-
  Texts joined, in build order, each with its own comment and its own conditions: OpenNodes, W20Same.
-/
import Derived.Test.YtmbpgjncioegdaaGreatDoorJ01
import Derived.Test.YtmbpgjncioegdaaGreatDoorJ07
import Derived.Test.YtmbpgjncioegdaaGreatDoorJ22
import Derived.Test.YtmbpgjncioegdaaGreatDoorJ09
/-
  Arguments that are slices of layer 8's nodes, opened. For this program's types; no condition but those that each theorem bears.
-/
namespace Go.Proofs.YtmbpgjncioegdaaGreatDoor.W08
open Go Go.RowKit Go.ChangeShapes Go.WideShapes Go.Deep Go.Joins
open Go.Proofs.YtmbpgjncioegdaaGreatDoor.Strs (strV)
open Go.Proofs.YtmbpgjncioegdaaGreatDoor.Recs
open Go.Proofs.YtmbpgjncioegdaaGreatDoor.Kit (mk_bytes)

theorem sn_struct : ∃ f0 f1 f2 f3 : Field, Tryz.prog.underlying 57 = some (.struct #[f0, f1, f2, f3]) ∧ f0.type = 3 ∧ f1.type = 9 ∧ f2.type = 3 ∧ f3.type = 9 ∧ oneCellFields Tryz.prog #[f0, f1, f2, f3] = true :=
  ⟨_, _, _, _, Tryz.underlying57, rfl, rfl, rfl, rfl, by kernel_rfl⟩
theorem sn_cells : Tryz.prog.cellsOf 57 = 4 := by kernel_rfl
theorem four {α : Type} : ∀ {l : List α}, l.length = 4 → ∃ a b c d, l = [a, b, c, d]
  | [a, b, c, d], _ => ⟨a, b, c, d, rfl⟩
section
variable {H : Type} {enc : TypeId × Value → H} {W : World} {base : Nat}
theorem sn_read (n : Nat) (cs : List Value) (x : DataW H × List MemPlace) (hl : cs.length = 4) (h : DataW.trod enc Tryz.prog W 0 (fun _ => true) true n 57 cs = some x) : ∃ r : Sn, cs = snC r ∧ r.data.length ≤ maxLen := by
  obtain ⟨f0, f1, f2, f3, hs, e0, e1, e2, e3, hone⟩ := sn_struct
  obtain ⟨o0, k0⟩ := hone_of hone 0 f0 rfl
  obtain ⟨o1, k1⟩ := hone_of hone 1 f1 rfl
  obtain ⟨o2, k2⟩ := hone_of hone 2 f2 rfl
  obtain ⟨o3, k3⟩ := hone_of hone 3 f3 rfl
  obtain ⟨xs, m, _, _, _, hxl, hf⟩ := DataW.trod_struct hs h
  have hxl4 : xs.length = 4 := hxl
  have g0 := hf 0 f0 rfl
  have g1 := hf 1 f1 rfl
  have g2 := hf 2 f2 rfl
  have g3 := hf 3 f3 rfl
  rw [o0, k0, e0, List.getElem?_eq_getElem (by omega)] at g0
  rw [o1, k1, e1, List.getElem?_eq_getElem (by omega)] at g1
  rw [o2, k2, e2, List.getElem?_eq_getElem (by omega)] at g2
  rw [o3, k3, e3, List.getElem?_eq_getElem (by omega)] at g3
  obtain ⟨c0, c1, c2, c3, rfl⟩ := four hl
  obtain ⟨z0, q0, _, _⟩ := DataW.trod_int Tryz.underlying3 g0
  obtain ⟨s1, q1, _, _⟩ := DataW.trod_string Tryz.underlying9 g1
  obtain ⟨z2, q2, _, _⟩ := DataW.trod_int Tryz.underlying3 g2
  obtain ⟨s3, q3, _, hm⟩ := DataW.trod_string Tryz.underlying9 g3
  simp at q0 q1 q2 q3
  subst q0 q1 q2 q3
  refine ⟨⟨z0, s1.data.toList, z2, s3.data.toList⟩, ?_, by rw [← Lib.size_eq]; exact hm⟩
  show _ = [_, strV s1.data.toList, _, strV s3.data.toList]
  unfold strV
  rw [mk_bytes, mk_bytes]
set_option maxRecDepth 100000 in
theorem open_sns {v : Value} {d : DataW H} {p : List MemPlace} (hok : Value.okWide Tryz.prog W .any base 22 v) (h : DataW.Trod enc Tryz.prog W 0 (fun _ => true) true 22 v d p) (hlt : ∀ x ∈ p, x.block < W.heap.size) :
    ∃ L : List Sn, Snodes W.heap.size W v L ∧ ∀ r ∈ L, r.data.length ≤ maxLen :=
  open_recs Tryz.underlying22 sn_cells (by omega) sn_read hok h hlt
end
end Go.Proofs.YtmbpgjncioegdaaGreatDoor.W08
/-
  Layer 20 (act): what the laws' walks say of trees behind plans; where nodes don't lie. No condition but those that each theorem bears.
-/
namespace Go.Proofs.YtmbpgjncioegdaaGreatDoor.W20
open Go Go.RowKit Go.Proofs.YtmbpgjncioegdaaGreatDoor.Strs Go.Proofs.YtmbpgjncioegdaaGreatDoor.Recs
open Go.Proofs.YtmbpgjncioegdaaGreatDoor.M07 (Tr Nd nodeAt Right)
open Go.Proofs.YtmbpgjncioegdaaGreatDoor.M09 Go.Proofs.YtmbpgjncioegdaaGreatDoor.M10 Go.Proofs.YtmbpgjncioegdaaGreatDoor.M20
open Go.Proofs.YtmbpgjncioegdaaGreatDoor.W07 (Off Nodes TreeBox)
open Go.Proofs.YtmbpgjncioegdaaGreatDoor.W09 (Tk Within)

theorem in_apply {n : Nat} : ∀ (l : List Tk) {t : Tr}, Within t n → Within (applyAll t l).1 (n + l.length)
  | [], _, h => h
  | x :: l, t, h => by
    unfold applyAll
    split
    · exact h.more (by simp)
    · have : ∀ m, Within (doTask t x.kind x.path x.text).1 m → Within (applyAll (doTask t x.kind x.path x.text).1 l).1 (m + l.length) := fun m hm => in_apply l hm
      have := this (n + 1) (h.next (kept_do _ _ _ _))
      exact this.more (by rw [List.length_cons]; omega)
theorem in_after {n : Nat} {t : Tr} {l : List Tk} (h : Within t n) (j : Int) : Within (after t l j) (n + l.length) := (in_apply (firsts l j) h).more (by have := firsts_len l j; omega)
theorem texts_of {K : List Tk} (h : ∀ x ∈ K, x.path.length ≤ 2000 ∧ x.text.length ≤ 2000) : Texts K := fun x hx => ⟨by have := (h x hx).1; omega, by have := (h x hx).2; omega⟩
theorem in_run {f : Fs} {n : Nat} {l : List Tk} (h : Within f.t n) : Within (run f l).1.t (n + l.length) := by
  rw [(run_after f l).2]
  exact in_after h _
/-- nodes don't lie in a tree's box: it is too small -/
theorem off_box {B : Nat} {w : World} {u a : Value} {l : Int} {q : Nat} {L : List Nd} (hn : Nodes B w u L) (h0 : 0 < L.length) (hb : TreeBox w q a l) : Off (fun k => k = q) u := by
  obtain ⟨A, c, rfl, -, -⟩ := hn.form
  obtain ⟨b, o, _, rfl, _, _, _, _, _, h4⟩ := W07.Nodes.at_ hn h0
  intro b' o' n' c' e hk
  cases e
  have hk : b = q := hk
  subst hk
  unfold TreeBox at hb
  simp [World.cell?, hb] at h4
end Go.Proofs.YtmbpgjncioegdaaGreatDoor.W20
