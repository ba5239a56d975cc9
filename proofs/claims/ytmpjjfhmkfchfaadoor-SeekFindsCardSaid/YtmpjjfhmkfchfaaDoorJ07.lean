/-
  Texts joined, in build order, each with its own comment and its own conditions: W08Ways, RecCut, RecAppend.
-/
import Derived.Test.YtmpjjfhmkfchfaaDoorJ05
import Derived.Test.YtmpjjfhmkfchfaaDoorJ04
import Derived.Test.YtmpjjfhmkfchfaaDoorJ06
import Derived.Deep.RegionHeld3
import Derived.Test.YtmpjjfhmkfchfaaDoorJ01
import Derived.Laws.OwnMore
import Derived.Tactics
/-
  Layer 8 (seek), walks: the plain answers Real and Straight; new memory may be laid, nothing that was there is changed. The conditions stand in the statements.
-/
namespace Go.Proofs.YtmpjjfhmkfchfaaDoor.W08
set_option maxRecDepth 100000
open Go Go.RowKit Go.Proofs.YtmpjjfhmkfchfaaDoor.Strs Go.Proofs.YtmpjjfhmkfchfaaDoor.Recs
open Go.Proofs.YtmpjjfhmkfchfaaDoor.M07 (Tr nodeAt inDir Right upOf upN height at_some)
open Go.Proofs.YtmpjjfhmkfchfaaDoor.M08 Go.Proofs.YtmpjjfhmkfchfaaDoor.M04
open Go.Proofs.YtmpjjfhmkfchfaaDoor.W07 (Nodes nodeV NodeBox set_heap set_size heap_top)
open Go.Proofs.YtmpjjfhmkfchfaaDoor.M03 (check)
open Go.Proofs.YtmpjjfhmkfchfaaDoor.Kit (ret_str ret_bool ret_int mk_of mk_bytes ba_ext below_draws on list_full list_ne list_none list_nil bytes_nil bytes_ne cat_bytes)

/-- a plain tree's box -/
def RefBox (w : World) (k : Nat) (v : Value) (last : Int) : Prop := w.heap[k]? = some (.cells #[v, .int .i64 last] 28 (0, 0))
section
variable {w w' : World} {k : Nat} {v : Value} {last : Int}
theorem RefBox.lt (h : RefBox w k v last) : k < w.heap.size := (Array.getElem?_eq_some_iff.1 h).1
theorem RefBox.below (h : RefBox w k v last) (hb : Below w.heap.size w w') : RefBox w' k v last := (hb.block _ h.lt).trans h
theorem RefBox.new (w : World) (v : Value) (last : Int) : RefBox (w.alloc (.cells #[v, .int .i64 last] 28)) w.heap.size v last := heap_top _ _
theorem RefBox.c0 (h : RefBox w k v last) : w.cell? ⟨k, 0, none⟩ = some v := cell_of_row w _ 0 _ _ (0, 0) h
theorem RefBox.fr (h : RefBox w k v last) (j : Nat) : w.frozen? ⟨k, j, none⟩ = false := frozen_of_row w _ j _ _ h
theorem RefBox.c1 (h : RefBox w k v last) : w.cell? ⟨k, 1, none⟩ = some (.int .i64 last) := cell_of_row w _ 1 _ _ (0, 0) h
end
/-- the number of the node in a box -/
def numAt (w : World) (p : Nat) : Int := match w.cell? ⟨p, 0, none⟩ with | some (.int _ q) => q | _ => 0
theorem num_at {w : World} {p : Nat} {x : M07.Nd} (h : NodeBox w p x) : numAt w p = x.num := by unfold numAt; rw [h.c0]
/-- a node stored over another one -/
def overNode (w : World) (p : Nat) (x : M07.Nd) : World := ((((w.setCell ⟨p, 0, none⟩ (.int .i64 x.num)).setCell ⟨p, 1, none⟩ (.int .i64 x.up)).setCell ⟨p, 2, none⟩ (.string ⟨x.name.toArray⟩)).setCell ⟨p, 3, none⟩ (.int .i64 x.kind)).setCell ⟨p, 4, none⟩ (.string ⟨x.data.toArray⟩)
theorem over_box {w : World} {p : Nat} {x y : M07.Nd} (h : NodeBox w p x) : NodeBox (overNode w p y) p y :=
  set_heap (set_heap (set_heap (set_heap (set_heap h 0 (.int .i64 y.num)) 1 (.int .i64 y.up)) 2 (.string ⟨y.name.toArray⟩)) 3 (.int .i64 y.kind)) 4 (.string ⟨y.data.toArray⟩)
theorem over_other {w : World} {p k : Nat} {y : M07.Nd} (h : k ≠ p) : (overNode w p y).heap[k]? = w.heap[k]? := by
  unfold overNode
  rw [Below.heap_setCell _ _ _ _ (by exact h), Below.heap_setCell _ _ _ _ (by exact h), Below.heap_setCell _ _ _ _ (by exact h), Below.heap_setCell _ _ _ _ (by exact h), Below.heap_setCell _ _ _ _ (by exact h)]
theorem over_below {a w : World} {B p : Nat} {y : M07.Nd} (h : Below B a w) (hp : B ≤ p) : Below B a (overNode w p y) := ((((h.setCell (p := ⟨p, 0, none⟩) hp _).setCell (p := ⟨p, 1, none⟩) hp _).setCell (p := ⟨p, 2, none⟩) hp _).setCell (p := ⟨p, 3, none⟩) hp _).setCell (p := ⟨p, 4, none⟩) hp _
theorem over_size (w : World) (p : Nat) (y : M07.Nd) : (overNode w p y).heap.size = w.heap.size := by unfold overNode; rw [set_size, set_size, set_size, set_size, set_size]
theorem ret_real {a : ByteArray} {b : Bool} {r : Bytes × Bool} (h : r = (a.data.toList, b)) : Ending.returned (.tuple #[.string a, .bool b]) = .returned (.tuple #[.string ⟨r.1.toArray⟩, .bool r.2]) := by
  rw [h]
theorem at_num {t : Tr} {k : Int} (h : (nodeAt t.L k).kind ≠ 0) : (nodeAt t.L k).num = k := (at_some h).2
set_option maxHeartbeats 4000000 in
theorem refReal_any (t : Tr) (hR : Right t) (hN : Named t) (htl : t.L.length ≤ 1048576) (u : Value) (n : Int) (w : World) (hu : Nodes w.heap.size w u t.L) :
    Calls Tryd.prog 14 #[.agg #[u, .int .i64 t.last], .int .i64 n] w fun e w' => e = .returned (.tuple #[.string ⟨(real t n).1.toArray⟩, .bool (real t n).2]) ∧ Below w.heap.size w w' := by
  obtain ⟨Au, cu, rfl, hu1, hu2⟩ := hu.form
  have HU := Lib.hid hu
  clear hu
  have HAT := Lib.hid (fun (w' : World) (n : Int) (hb : Below w.heap.size w w') => W07.refAt_any (.slice Au t.L.length cu) t.L t.last n w.heap.size w' (HU.out.below hb) hb.size (by omega))
  unfold nodeV at HAT
  obtain ⟨w1, hw1⟩ : ∃ w1 : World, w.alloc (.cells #[.slice Au t.L.length cu, .int .i64 t.last] 28) = w1 := ⟨_, rfl⟩
  have B1 : Hid (Below w.heap.size w w1) := by rw [← hw1]; exact (Below.refl _ _).alloc (Nat.le_refl _) _
  have R1 : Hid (RefBox w1 w.heap.size (.slice Au t.L.length cu) t.last) := by rw [← hw1]; exact RefBox.new _ _ _
  have x0 := R1.out.c0
  have x1 := R1.out.c1
  have HA1 := Lib.hid (HAT.out w1 n B1.out)
  by_cases hk : (nodeAt t.L n).kind = 0
  · have HX : Hid (real t n = ([], false)) := if_pos hk
    generalize real t n = R at *
    generalize nodeAt t.L n = x at *
    go_enter Tryd.func14, Tryd.ntmps14
    go_wp2_with fail
    refine HA1.out.mono ?_
    rintro e w2 ⟨rfl, hb⟩
    have B2 := Lib.hid (on B1.out hb)
    clear hb hw1
    go_wp2_with fail
    go_ret2
    exact ⟨ret_real (a := ⟨#[]⟩) HX.out, B2.out.alloc B2.out.size _⟩
  · have HX : Hid (real t n = (text (names t n), true)) := if_neg hk
    have tk : ((nodeAt t.L n).kind == 0) = false := by simpa using hk
    have HK := Lib.hid hk
    have HB := Lib.hid (names_bound hR hN hk)
    have HR := Lib.hid hR
    have HL := Lib.hid htl
    clear hk hR hN
    generalize real t n = R at *
    go_enter Tryd.func14, Tryd.ntmps14
    go_wp2_with fail
    refine HA1.out.mono ?_
    rintro e w2 ⟨rfl, hb⟩
    have B2 := Lib.hid (on B1.out hb)
    have R2 := Lib.hid (R1.out.below hb)
    obtain ⟨p, hp⟩ : ∃ p, w2.heap.size = p := ⟨_, rfl⟩
    have HBP : Hid (w.heap.size < p) := by rw [← hp]; exact R2.out.lt
    clear hb hw1 x0 x1 R1 HA1
    obtain ⟨w3, hw3⟩ : ∃ w3, w2.alloc (.cells #[.int .i64 (nodeAt t.L n).num, .int .i64 (nodeAt t.L n).up, .string ⟨(nodeAt t.L n).name.toArray⟩, .int .i64 (nodeAt t.L n).kind, .string ⟨(nodeAt t.L n).data.toArray⟩] 66) = w3 := ⟨_, rfl⟩
    have NB : Hid (NodeBox w3 p (nodeAt t.L n)) := by rw [← hw3, ← hp]; exact NodeBox.new w2 (nodeAt t.L n)
    have B3 : Hid (Below w.heap.size w w3) := by rw [← hw3]; exact B2.out.alloc B2.out.size _
    have R3 : Hid (RefBox w3 w.heap.size (.slice Au t.L.length cu) t.last) := by rw [← hw3]; exact R2.out.below ((Below.refl w2.heap.size w2).alloc (Nat.le_refl _) _)
    have y3 := NB.out.c3
    clear B2 R2
    go_wp2_with fail
    clear hw3 y3 hp
    go_loopw [7] (fun u7 wr => ∃ (k : Int) (acc : ByteArray), u7 = .string acc ∧ Hid ((nodeAt t.L k).kind ≠ 0) ∧ Hid (flatN (names t n) = flatN (names t k) ++ acc.data.toList) ∧ Hid (NodeBox wr p (nodeAt t.L k)) ∧ Hid (RefBox wr w.heap.size (.slice Au t.L.length cu) t.last) ∧ Hid (Below w.heap.size w wr)) (fun _ wr => height t.L (numAt wr p))
    case atStart => exact ⟨n, ⟨#[]⟩, rfl, HK.out, by show _ = _; simp, NB, R3, B3⟩
    case round =>
      clear NB R3 B3
      obtain ⟨k, acc, rfl, hk, hf, nb, rb, hb⟩ := hrel
      have hnum := Lib.hid (at_num hk.out)
      have c0 := nb.out.c0
      have c1 := nb.out.c1
      have c2 := nb.out.c2
      have x0 := rb.out.c0
      have x1 := rb.out.c1
      have hacc : acc.size ≤ 1099511627776 := by
        have h1 := HB.out
        have h2 := HL.out
        rw [hf.out, List.length_append] at h1
        rw [Lib.size_eq]; omega
      by_cases k1 : k = 1
      · have tn : ((nodeAt t.L k).num != 1) = false := by rw [hnum.out]; simpa using k1
        have HF : Hid (flatN (names t n) = acc.data.toList) := by
          have := hf.out
          rw [k1, names_root] at this
          exact this
        clear hacc hf k1
        by_cases h0 : 0 < acc.size
        · have z1 := list_full h0
          have z2 := list_ne h0
          have HT := Lib.hid (text_flatN (L := names t n) (by rw [HF.out]; exact bytes_ne h0))
          go_wp2_with fail
          go_ret2
          exact ⟨ret_real (a := acc) (by rw [HX.out, HT.out, HF.out]), hb.out⟩
        · have z1 := list_none h0
          have z2 := list_nil h0
          have HT := Lib.hid (text_flat0 (L := names t n) (by rw [HF.out]; exact bytes_nil h0))
          go_wp2_with fail
          go_ret2
          exact ⟨ret_real (a := ⟨#[47]⟩) (by rw [HX.out, HT.out]), hb.out⟩
      · have tn : ((nodeAt t.L k).num != 1) = true := by rw [hnum.out]; simpa using k1
        have HN1 := Lib.hid (flatN_next HR.out hk.out k1)
        have HH := Lib.hid (height_next (HR.out.reach hk.out) k1)
        have hup := HR.out.up _ (at_some hk.out).1
        have HUP : Hid ((nodeAt t.L (nodeAt t.L k).up).kind ≠ 0) := by show _ ≠ _; rw [hup]; decide
        have HA := Lib.hid (HAT.out wr (nodeAt t.L k).up hb.out)
        obtain ⟨nm, hnm⟩ : ∃ nm : ByteArray, (⟨(nodeAt t.L k).name.toArray⟩ : ByteArray) = nm := ⟨_, rfl⟩
        have hnl : nm.data.toList = (nodeAt t.L k).name := by rw [← hnm]
        have hns : nm.size ≤ 1099511627776 := by
          have h1 := HB.out
          have h2 := HL.out
          rw [hf.out, HN1.out] at h1
          simp only [List.length_append, List.length_cons] at h1
          rw [Lib.size_eq, hnl]
          omega
        have HACC : Hid (flatN (names t n) = flatN (names t (nodeAt t.L k).up) ++ (⟨#[47]⟩ ++ nm ++ acc : ByteArray).data.toList) := by
          show _ = _
          rw [hf.out, HN1.out, cat_bytes, cat_bytes, hnl]; simp
        rw [hnm] at c2
        clear hup k1 HN1 hf hnm hnl
        go_wp2_with fail
        refine HA.out.mono ?_
        rintro e w4 ⟨rfl, hb4⟩
        have nb4 := Lib.hid (nb.out.below hb4)
        have rb4 := Lib.hid (rb.out.below hb4)
        have B4 := Lib.hid (on hb.out hb4)
        have d0 := nb4.out.c0
        have d1 := nb4.out.c1
        have d2 := nb4.out.c2
        have d3 := nb4.out.c3
        have d4 := nb4.out.c4
        have f0 := nb4.out.fr 0
        have f1 := nb4.out.fr 1
        have f2 := nb4.out.fr 2
        have f3 := nb4.out.fr 3
        have f4 := nb4.out.fr 4
        clear hb4 c0 c1 c2 x0 x1
        go_wp2_with fail
        go_roundw
        case rel => exact ⟨(nodeAt t.L k).up, _, rfl, HUP, HACC, over_box nb4.out, (over_other (by have := HBP.out; omega)).trans rb4.out, over_below B4.out (by have := HBP.out; omega)⟩
        case measure =>
          rw [num_at nb.out, hnum.out, HH.out]
          have e := num_at (over_box nb4.out (y := nodeAt t.L (nodeAt t.L k).up))
          rw [at_num HUP.out] at e
          show height t.L (numAt (overNode w4 p (nodeAt t.L (nodeAt t.L k).up)) p) < _
          rw [e]
          exact Nat.lt_succ_self _
theorem texts_flat {B : Nat} {w : World} {A : Option Addr} {n c k : Nat} {L : List Bytes} (h : Texts B w (.slice A n c) L) (hk : k < n) : ∃ (b o : Nat) (q : ByteArray), A = some ⟨b, o, none⟩ ∧ b < B ∧ w.cell? ⟨b, o + k, none⟩ = some (.string q) ∧ q.data.toList = L.getD k [] := by
  obtain ⟨ad, q, rfl, hb, hc, hq⟩ := h.at_ hk
  obtain ⟨ad0, q0, e, -, hc0, -⟩ := h.at_ (k := 0) (by omega)
  cases e
  obtain ⟨b, o, sp⟩ := ad
  have hsp : sp = none := by simpa [Addr.add] using World.cell?_spot hc0
  subst hsp
  rw [Addr.add_lit] at hc
  exact ⟨b, o, q, rfl, hb, hc, hq⟩
theorem box3_below {w1 w' : World} {p q i : Nat} {y0 y1 y2 : Value} (hS : w'.cell? ⟨p, 0, none⟩ = some y0 ∧ w'.cell? ⟨p, 1, none⟩ = some y1 ∧ w'.cell? ⟨q, i, none⟩ = some y2 ∧ Below w1.heap.size w1 w') : Below w1.heap.size w1 w' := hS.2.2.2
theorem dirs_in {t : Tr} {a : Int} {L : List Bytes} {k : Nat} (hk : k < L.length) (h : (nodeAt t.L (inDir t.L a (L.getD k []))).kind = 1) : dirs t a (L.drop k) = dirs t (inDir t.L a (L.getD k [])) (L.drop (k + 1)) := by
  rw [List.getD_eq_getElem?_getD, List.getElem?_eq_getElem hk, Option.getD_some] at h ⊢
  rw [List.drop_eq_getElem_cons hk, dirs, if_neg (by rw [h]; simp)]
theorem dirs_out {t : Tr} {a : Int} {L : List Bytes} {k : Nat} (hk : k < L.length) (h : (nodeAt t.L (inDir t.L a (L.getD k []))).kind ≠ 1) : dirs t a (L.drop k) = false := by
  rw [List.getD_eq_getElem?_getD, List.getElem?_eq_getElem hk, Option.getD_some] at h
  rw [List.drop_eq_getElem_cons hk, dirs, if_pos h]
theorem dirs_end {t : Tr} {a : Int} {L : List Bytes} {k : Nat} (hk : ¬ k < L.length) : dirs t a (L.drop k) = true := by
  rw [List.drop_of_length_le (by omega)]; rfl
theorem box3_on {w1 w' w'' : World} {p q i : Nat} {y0 y1 y2 : Value} (hp : p < w1.heap.size) (hq : q < w1.heap.size) (hS : w'.cell? ⟨p, 0, none⟩ = some y0 ∧ w'.cell? ⟨p, 1, none⟩ = some y1 ∧ w'.cell? ⟨q, i, none⟩ = some y2 ∧ Below w1.heap.size w1 w') (hb : Below w'.heap.size w' w'') : w''.cell? ⟨p, 0, none⟩ = some y0 ∧ w''.cell? ⟨p, 1, none⟩ = some y1 ∧ w''.cell? ⟨q, i, none⟩ = some y2 ∧ Below w1.heap.size w1 w'' := by
  have hs := hS.2.2.2.size
  exact ⟨(hb.cell (by show p < _; omega)).trans hS.1, (hb.cell (by show p < _; omega)).trans hS.2.1, (hb.cell (by show q < _; omega)).trans hS.2.2.1, on hS.2.2.2 hb⟩
set_option maxHeartbeats 4000000 in
theorem refStraight_any (t : Tr) (htl : t.L.length ≤ 1048576) (u : Value) (s : ByteArray) (hs : s.size ≤ 1099511627776) (w : World) (hu : Nodes w.heap.size w u t.L) :
    Calls Tryd.prog 16 #[.agg #[u, .int .i64 t.last], .string s] w fun e w' => e = .returned (.bool (straight t s.data.toList)) ∧ Below w.heap.size w w' := by
  obtain ⟨Au, cu, rfl, hu1, hu2⟩ := hu.form
  have HU := Lib.hid hu
  clear hu
  have HAT := Lib.hid (fun (w' : World) (n : Int) (hb : Below w.heap.size w w') => W07.refAt_any (.slice Au t.L.length cu) t.L t.last n w.heap.size w' (HU.out.below hb) hb.size (by omega))
  unfold nodeV at HAT
  have HIN := Lib.hid (fun (w' : World) (a : Int) (q : ByteArray) (hb : Below w.heap.size w w') => W07.refIn_any (.slice Au t.L.length cu) t.L t.last a q w.heap.size w' (HU.out.below hb) hb.size (by omega))
  obtain ⟨w1, hw1⟩ : ∃ w1 : World, w.alloc (.cells #[.slice Au t.L.length cu, .int .i64 t.last] 28) = w1 := ⟨_, rfl⟩
  have B1 : Hid (Below w.heap.size w w1) := by rw [← hw1]; exact (Below.refl _ _).alloc (Nat.le_refl _) _
  have R1 : Hid (RefBox w1 w.heap.size (.slice Au t.L.length cu) t.last) := by rw [← hw1]; exact RefBox.new _ _ _
  have HIS := Lib.hid (W04.refIs_any s hs)
  have HPT := Lib.hid (fun w' => W04.refParts_any s hs w')
  have HX : Hid (straight t s.data.toList = (isPath s.data.toList && dirs t 1 (parts s.data.toList))) := rfl
  generalize straight t s.data.toList = R at *
  cases hi : isPath s.data.toList with
  | false =>
    have HX : Hid (R = false) := by have := HX.out; rw [hi, Bool.false_and] at this; exact this
    rw [hi] at HIS
    clear hi
    go_enter Tryd.func16, Tryd.ntmps16
    go_wp2_with fail
    clear hw1
    refine (HIS.out _).mono ?_
    rintro e w2 ⟨rfl, hb⟩
    have B2 := Lib.hid (on B1.out hb)
    clear hb
    go_wp2_with fail
    go_ret
    exact ⟨ret_bool HX.out.symm, B2.out⟩
  | true =>
    have HX : Hid (R = dirs t 1 (parts s.data.toList)) := by have := HX.out; rw [hi, Bool.true_and] at this; exact this
    rw [hi] at HIS
    clear hi
    generalize parts s.data.toList = PL at *
    go_enter Tryd.func16, Tryd.ntmps16
    go_wp2_with fail
    clear hw1
    refine (HIS.out _).mono ?_
    rintro e w2 ⟨rfl, hb⟩
    have B2 := Lib.hid (on B1.out hb)
    have R2 := Lib.hid (R1.out.below hb)
    clear hb
    go_wp2_with fail
    refine (HPT.out _).mono ?_
    rintro e w3 ⟨v, rfl, hown, hb⟩
    have B3 := Lib.hid (on B2.out hb)
    have R3 := Lib.hid (R2.out.below hb)
    have T3 := Lib.hid (Texts.of_own hown)
    clear hb hown B1 B2 R1 R2
    obtain ⟨A, c, rfl, hA1, hA2⟩ := T3.out.form
    unfold maxLen at hA2
    generalize hm : PL.length = m at *
    have HM := Lib.hid hm
    clear hm
    go_wp2_with fail
    go_loopw [6, 7] (fun u6 u7 wr => ∃ (a : Int) (k : Nat), k ≤ m ∧ u6 = .int .i64 a ∧ u7 = .int .i64 k ∧ Hid (dirs t 1 PL = dirs t a (PL.drop k)) ∧ Hid (Below w3.heap.size w3 wr)) (fun _ u7 _ => m - (intOf u7).toNat)
    case atStart => exact ⟨1, 0, Nat.zero_le _, rfl, rfl, rfl, Below.refl _ _⟩
    case round =>
      obtain ⟨a, k, hk, rfl, rfl, hd, hb⟩ := hrel
      by_cases hlt : k < m
      · have hk2 : k < PL.length := by rw [HM.out]; exact hlt
        obtain ⟨b, o, q, rfl, hbl, hc, hq⟩ := texts_flat (T3.out.below hb.out) hlt
        have rb := Lib.hid (R3.out.below hb.out)
        have x0 := rb.out.c0
        have x1 := rb.out.c1
        have HBW := Lib.hid (on B3.out hb.out)
        have hpw : w.heap.size < wr.heap.size := rb.out.lt
        have hbw : b < wr.heap.size := Nat.lt_of_lt_of_le hbl hb.out.size
        have HI2 := Lib.hid (fun (w' : World) (hb2 : Below wr.heap.size wr w') => HIN.out w' a q (on HBW.out hb2))
        rw [hq] at HI2
        have HA2 := Lib.hid (fun (w' : World) (hb2 : Below wr.heap.size wr w') => HAT.out w' (inDir t.L a (PL.getD k [])) (on HBW.out hb2))
        have HDI := Lib.hid (fun h => hd.out.trans (dirs_in (t := t) (a := a) hk2 h))
        have HDO := Lib.hid (fun h => hd.out.trans (dirs_out (t := t) (a := a) hk2 h))
        clear hq hd hbl
        generalize inDir t.L a (PL.getD k []) = n2 at *
        generalize hnd : nodeAt t.L n2 = x at HA2 HDI HDO
        clear hnd
        go_wp2_with fail
        go_region_held3 (fun w' => w'.cell? ⟨w.heap.size, 0, none⟩ = some (.slice Au t.L.length cu) ∧ w'.cell? ⟨w.heap.size, 1, none⟩ = some (.int .i64 t.last) ∧ w'.cell? ⟨b, o + k, none⟩ = some (.string q) ∧ Below wr.heap.size wr w')
          (first | exact box3_on hpw hbw (by assumption) hb4 | exact ⟨x0, x1, hc, (Below.refl _ _).drew⟩ | go_keep)
          (first
            | (go_at_call 39; refine (HI2.out _ (box3_below (by assumption))).mono ?_; rintro e w4 ⟨rfl, hb4⟩))
        have hS := (by assumption : w4.cell? ⟨w.heap.size, 0, none⟩ = some (.slice Au t.L.length cu) ∧ w4.cell? ⟨w.heap.size, 1, none⟩ = some (.int .i64 t.last) ∧ w4.cell? ⟨b, o + k, none⟩ = some (.string q) ∧ Below wr.heap.size wr w4)
        have y0 := hS.1
        have y1 := hS.2.1
        have B4 := Lib.hid hS.2.2.2
        have HA3 := Lib.hid (HA2.out w4 B4.out)
        have hf := W07.field_kind x.num x.up ⟨x.name.toArray⟩ x.kind ⟨x.data.toArray⟩
        clear hS hb4 x0 x1 hc HI2 HA2
        by_cases hkd : x.kind = 1
        · have tk : (x.kind != 1) = false := by simp [hkd]
          have HD := Lib.hid (HDI.out hkd)
          clear hkd HDI HDO
          go_wp2_with fail
          refine HA3.out.mono ?_
          rintro e w5 ⟨rfl, hb5⟩
          have B5 := Lib.hid (on B4.out hb5)
          clear hb5 y0 y1
          go_wp2_with fail
          go_roundw
          case rel => exact ⟨n2, k + 1, by omega, rfl, by go_num, HD, on hb.out B5.out⟩
          case measure => simp [intOf]; omega
        · have tk : (x.kind != 1) = true := by simpa using hkd
          have HZ : Hid (R = false) := HX.out.trans (HDO.out hkd)
          clear hkd HDI HDO
          go_wp2_with fail
          refine HA3.out.mono ?_
          rintro e w5 ⟨rfl, hb5⟩
          have B5 := Lib.hid (on B4.out hb5)
          clear hb5 y0 y1
          go_wp2_with fail
          go_ret
          exact ⟨ret_bool HZ.out.symm, on HBW.out B5.out⟩
      · have HZ : Hid (R = true) := HX.out.trans (hd.out.trans (dirs_end (by rw [HM.out]; exact hlt)))
        go_wp2_with fail
        go_ret
        exact ⟨ret_bool HZ.out.symm, on B3.out hb.out⟩
end Go.Proofs.YtmpjjfhmkfchfaaDoor.W08
/-
  Slices of records: parts of one (the first ones, those from a place on, those between), as the walk spells the cut's value. Plain lemmas on worlds, for every program; no condition but those that each theorem bears.
-/
namespace Go.Proofs.YtmpjjfhmkfchfaaDoor.Recs
open Go Go.RowKit
open Go.Proofs.YtmpjjfhmkfchfaaDoor.Strs (block_add strV)
section
variable {α : Type} {enc : α → List Value} {sz : Nat} {B : Nat} {w : World} {A : Option Addr} {n c : Nat} {L : List α}
theorem Recs.count (h : Recs enc sz B w (.slice A n c) L) : n = L.length ∧ n ≤ c ∧ c ≤ maxLen := by
  obtain ⟨A', c', e, h1, h2, h3⟩ := h
  injection e with e1 e2 e3
  subst e1 e2 e3
  exact ⟨rfl, h1, h2⟩
/-- no record: whatever the address -/
theorem recs_none (enc : α → List Value) (sz B : Nat) (w : World) (A : Option Addr) {c : Nat} (hc : c ≤ maxLen) : Recs enc sz B w (.slice A 0 c) [] := ⟨A, c, rfl, Nat.zero_le _, hc, fun h => absurd h (by simp)⟩
theorem Recs.take (h : Recs enc sz B w (.slice A n c) L) {k : Nat} (hk : k ≤ n) : Recs enc sz B w (.slice A k c) (L.take k) := by
  obtain ⟨hn, hc1, hc2⟩ := h.count
  subst hn
  obtain ⟨A0, c0, e, h1, h2, h3⟩ := h
  cases e
  have hl : (L.take k).length = k := by rw [List.length_take]; omega
  refine ⟨A, c, by rw [hl], by omega, hc2, fun h0 => ?_⟩
  obtain ⟨ad, rfl, hb, hc⟩ := h3 (by omega)
  refine ⟨ad, rfl, hb, fun i hi j hj => ?_⟩
  rw [hc i (by omega) j hj, List.getElem_take]
theorem Recs.drop (h : Recs enc sz B w (.slice A n c) L) (he : ∀ x : α, (enc x).length = sz) (h0 : 0 < sz) {k : Nat} (hk : k ≤ n) : Recs enc sz B w (.slice (A.map fun x => x.add (k * sz)) (n - k) (c - k)) (L.drop k) := by
  obtain ⟨hn, hc1, hc2⟩ := h.count
  have hfl : 0 < n → ∃ b o, A = some ⟨b, o, none⟩ := fun hp => by
    obtain ⟨b, o, _, e, _⟩ := h.flat_ he h0 hp
    exact ⟨b, o, e⟩
  subst hn
  obtain ⟨A0, c0, e, h1, h2, h3⟩ := h
  cases e
  refine ⟨_, c - k, by rw [List.length_drop], by rw [List.length_drop]; omega, by omega, fun hp => ?_⟩
  rw [List.length_drop] at hp
  obtain ⟨b, o, rfl⟩ := hfl (by omega)
  obtain ⟨ad, e, hb, hc⟩ := h3 (by omega)
  cases e
  refine ⟨_, rfl, by rw [block_add]; exact hb, fun i hi j hj => ?_⟩
  rw [List.length_drop] at hi
  have := hc (k + i) (by omega) j hj
  rw [Addr.add_lit] at this
  show w.cell? (((⟨b, o, none⟩ : Addr).add (k * sz)).add (i * sz + j)) = _
  rw [Addr.add_lit, Addr.add_lit, show o + k * sz + (i * sz + j) = o + ((k + i) * sz + j) by rw [Nat.add_mul]; omega, this]
  congr 2
  simp
theorem Recs.drop_all (h : Recs enc sz B w (.slice A n c) L) {k : Nat} (hk : k ≤ n) (hkc : c = k) {m : Nat} (hm : m ≤ maxLen) : Recs enc sz B w (.slice A (n - k) m) (L.drop k) := by
  obtain ⟨hn, hc1, hc2⟩ := h.count
  have e1 : n - k = 0 := by omega
  have e2 : L.drop k = [] := List.drop_of_length_le (by omega)
  rw [e1, e2]
  exact recs_none _ _ _ _ _ hm
/-- those between two places, the address moved -/
theorem Recs.mid (h : Recs enc sz B w (.slice A n c) L) (he : ∀ x : α, (enc x).length = sz) (h0 : 0 < sz) {i j : Nat} (hij : i ≤ j) (hj : j ≤ n) : Recs enc sz B w (.slice (A.map fun x => x.add (i * sz)) (j - i) (c - i)) ((L.take j).drop i) := (h.take hj).drop he h0 hij
theorem Recs.mid_all (h : Recs enc sz B w (.slice A n c) L) {i j : Nat} (hij : i ≤ j) (hj : j ≤ n) (hkc : c = i) {m : Nat} (hm : m ≤ maxLen) : Recs enc sz B w (.slice A (j - i) m) ((L.take j).drop i) := (h.take hj).drop_all hij hkc hm
/-- one alone, at its place -/
theorem Recs.one (h : Recs enc sz B w (.slice A n c) L) (he : ∀ x : α, (enc x).length = sz) (h0 : 0 < sz) {i : Nat} (hj : i + 1 ≤ n) : Recs enc sz B w (.slice (A.map fun x => x.add (i * sz)) 1 (c - i)) ((L.take (i + 1)).drop i) := by
  have := h.mid he h0 (Nat.le_succ i) hj
  rwa [show i + 1 - i = 1 by omega] at this
theorem Recs.one_last {i : Nat} (h : Recs enc sz B w (.slice A n (i + 1)) L) (he : ∀ x : α, (enc x).length = sz) (h0 : 0 < sz) (hj : i + 1 ≤ n) : Recs enc sz B w (.slice (A.map fun x => x.add (i * sz)) 1 1) ((L.take (i + 1)).drop i) := by
  have := h.one he h0 hj
  rwa [show i + 1 - i = 1 by omega] at this
theorem Recs.drop_last {k : Nat} (h : Recs enc sz B w (.slice A n k) L) (hk : k ≤ n) : Recs enc sz B w (.slice A 0 0) (L.drop k) := by
  have h2 := h.count
  have := h.drop_all hk rfl (Nat.zero_le maxLen)
  rwa [show n - k = 0 by omega] at this
theorem Recs.void {i : Nat} {A' : Option Addr} {c' : Nat} (hc : c' ≤ maxLen) : Recs enc sz B w (.slice A' 0 c') ((L.take i).drop i) := by
  rw [List.drop_of_length_le (by rw [List.length_take]; omega)]
  exact recs_none _ _ _ _ _ hc
end
end Go.Proofs.YtmpjjfhmkfchfaaDoor.Recs
/-
  append(own, records...) where the first is a row of the call's own and the other one whatever slice of records: with an address or without, empty or not: one law. For every program; the conditions stand in the statement.
-/
namespace Go.Proofs.YtmpjjfhmkfchfaaDoor.Recs
open Go Go.RowKit

theorem run_append_void {P : Program} {w : World} (base : Nat) (t ty e : TypeId) (i : TypeInfo) (size : Nat) (ht : P.underlying t = some (.slice e)) (hi : P.info? e = some i)
    (v : Value) (n c : Nat) (xs : List Value) (hown : w.ownsRow base e size v n xs) :
    (Builtin.append_ #[t, t] ty #[v, .slice none 0 c]).run P w = .ok v w := by
  rcases hown.2 with ⟨rfl, rfl⟩ | ⟨g, cap, cur, rfl, _, _, hnc, _⟩
  · simp [Builtin.append_, run_underlying ht, sizeOf, typeInfo, hi, Builtin.lenOf, Builtin.firstCells]
  · simp [Builtin.append_, run_underlying ht, sizeOf, typeInfo, hi, Builtin.lenOf, Builtin.firstCells, hnc, storeCells]
/-- where the block of what an append gives lies -/
theorem own_block_next {P : Program} (w : World) (base : Nat) (t ty e : TypeId) (i : TypeInfo) (z : Value) (size bytes : Nat) (ht : P.underlying t = some (.slice e)) (hi : P.info? e = some i) (hz : i.zero = some z)
    (hsize : i.size = size) (hby : i.bytes = bytes) (hzs : z.cells.size = size) (hsz : 0 < size)
    (v : Value) (n : Nat) (xs : List Value) (hown : w.ownsRow base e size v n xs)
    (a : Addr) (m c : Nat) (news : List Value) (hl : news.length = m * size) (hnews : ∀ j u, news[j]? = some u → w.cell? (a.add j) = some u) (h1 : ∀ u ∈ news, u.oneCell' = true)
    (h63 : n + m ≤ maxLen) (hbytes : (n + m) * bytes ≤ 140737488355328) {v' : Value} {w' : World} (hr : (Builtin.append_ #[t, t] ty #[v, .slice (some a) m c]).run P w = .ok v' w') :
    ∀ k, v'.ownBlock = some k → v.ownBlock = some k ∨ w.heap.size ≤ k := by
  subst hsize
  subst hby
  have hsmall : n + m ≤ 9223372036854775807 := by simp only [maxLen] at h63; omega
  intro k hk
  rcases hown.2 with ⟨rfl, rfl⟩ | ⟨g, cap, cur, rfl, hbg, hg, hnc, hcm, hcs, htake⟩
  · obtain ⟨v2, w2, hr2, ho2, -, -⟩ := run_append_own w w.heap.size t ty e i z i.size i.bytes ht hi hz rfl rfl hzs hsz (.slice none 0 0) 0 xs (by have hx : xs = [] := List.eq_nil_of_length_eq_zero (by simpa using hown.1); rw [hx]; exact World.ownsRow_nil _ _ _ _) a m c news hl hnews h1 h63 hbytes (Nat.le_refl _)
    rw [hr] at hr2
    cases hr2
    exact Or.inr (ho2.lt k hk).1
  · by_cases hroom : n + m ≤ cap
    · have hfit : n * i.size + news.length ≤ cur.size := by rw [hl, hcs, ← Nat.add_mul]; exact Nat.mul_le_mul_right _ hroom
      rw [run_append_room w t ty e i ht hi g n cap cur hg a m c news hl hnews h1 hroom hfit] at hr
      cases hr
      exact Or.inl hk
    · have holds : ∀ j u, xs[j]? = some u → w.cell? ((⟨g, 0, none⟩ : Addr).add j) = some u := hown.cells (g := g) rfl
      rw [run_append_grow w t ty e i z ht hi hz ⟨g, 0, none⟩ n cap xs hown.1 holds a m c news hl hnews (by omega) (by omega) (growslice_fits (by omega) hbytes)] at hr
      cases hr
      simp [Value.ownBlock] at hk
      exact Or.inr (by omega)
theorem wp_append_recs {α : Type} {enc : α → List Value} {P : Program} {w : World} {o : Oper} {a : Act} {K : Act → World → Prop} {Q : Exit → Act → World → Prop} (s x : Operand) (t : TypeId)
    (ho : o.op = .call { callee := .builtin .append, args := #[s, x], argTypes := #[t, t] })
    (base : Nat) (e : TypeId) (i : TypeInfo) (z : Value) (size bytes : Nat) (ht : P.underlying t = some (.slice e)) (hi : P.info? e = some i) (hz : i.zero = some z)
    (hsize : i.size = size) (hby : i.bytes = bytes) (hzs : z.cells.size = size) (hsz : 0 < size)
    (v : Value) (n : Nat) (xs : List Value) (hs : a.eval s = v) (hown : w.ownsRow base e size v n xs)
    (u : Value) (L : List α) (B : Nat) (hx : a.eval x = u) (hu : Recs enc size B w u L) (he : ∀ r : α, (enc r).length = size) (h1 : ∀ r : α, ∀ c ∈ enc r, c.oneCell' = true)
    (h63 : n + L.length ≤ maxLen) (hbytes : (n + L.length) * bytes ≤ 140737488355328) (hbase : base ≤ w.heap.size)
    (h : ∀ v' w', w'.ownsRow base e size v' (n + L.length) (xs ++ L.flatMap enc) → w.grownBy w' v.ownBlock → (∀ k, v'.ownBlock = some k → v.ownBlock = some k ∨ w.heap.size ≤ k) → K (a.put o.dst v') w') : o.wp P a w K Q := by
  obtain ⟨A, c, rfl, hc1, hc2⟩ := hu.form
  have hfl : (L.flatMap enc).length = L.length * size := flat_len he L
  have hone : ∀ u ∈ L.flatMap enc, u.oneCell' = true := fun q hq => by
    obtain ⟨r, _, hr⟩ := List.mem_flatMap.1 hq
    exact h1 r q hr
  cases A with
  | none =>
    have h0 : L.length = 0 := by
      rcases Nat.eq_zero_or_pos L.length with q | q
      · exact q
      · obtain ⟨b, o, hf, _⟩ := hu.news he hsz q
        cases hf
    have hL : L = [] := List.length_eq_zero_iff.1 h0
    subst hL
    have hrun := run_append_void (P := P) (w := w) base t o.type e i size ht hi v n c xs hown
    have hx' : a.eval x = .slice none 0 c := hx
    unfold Oper.wp
    simp [execOp, ho, resolve, invoke, builtin, hs, hx', hrun, Result.andThen]
    exact h v w (by simpa using hown) ⟨rfl, rfl, rfl, Nat.le_refl _, fun _ _ _ => rfl⟩ (fun k hk => Or.inl hk)
  | some ad =>
    have hnews : ∀ j q, (L.flatMap enc)[j]? = some q → w.cell? (ad.add j) = some q := by
      intro j q hq
      rcases Nat.eq_zero_or_pos L.length with h0 | h0
      · have : L = [] := List.length_eq_zero_iff.1 h0
        subst this
        simp at hq
      · obtain ⟨b, o, hf, _, hcell⟩ := hu.news he hsz h0
        cases hf
        exact hcell j q hq
    obtain ⟨v', w', hr, h2, h3, -⟩ := run_append_own (P := P) w base t o.type e i z size bytes ht hi hz hsize hby hzs hsz v n xs hown ad L.length c (L.flatMap enc) hfl hnews hone h63 hbytes hbase
    have h4 := own_block_next w base t o.type e i z size bytes ht hi hz hsize hby hzs hsz v n xs hown ad L.length c (L.flatMap enc) hfl hnews hone h63 hbytes hr
    have hx' : a.eval x = .slice (some ad) L.length c := hx
    unfold Oper.wp execOp
    simp only [ho, resolve, invoke, builtin, Sem.run_bind, Sem.run_pure, Result.andThen_ok, List.map_toArray, List.map_cons, List.map_nil, hs, hx', hr]
    exact h v' w' h2 h3 h4
theorem wpList_append_recs {α : Type} {enc : α → List Value} {P : Program} {w : World} {ops : Array Oper} {rest : List Oper} {o : Oper} {a : Act} {Q : Exit → Act → World → Prop} (hgd : o.guard = none) (s x : Operand) (t : TypeId)
    (ho : o.op = .call { callee := .builtin .append, args := #[s, x], argTypes := #[t, t] })
    (base : Nat) (e : TypeId) (i : TypeInfo) (z : Value) (size bytes : Nat) (ht : P.underlying t = some (.slice e)) (hi : P.info? e = some i) (hz : i.zero = some z)
    (hsize : i.size = size) (hby : i.bytes = bytes) (hzs : z.cells.size = size) (hsz : 0 < size)
    (v : Value) (n : Nat) (xs : List Value) (hs : a.eval s = v) (hown : w.ownsRow base e size v n xs)
    (u : Value) (L : List α) (B : Nat) (hx : a.eval x = u) (hu : Recs enc size B w u L) (he : ∀ r : α, (enc r).length = size) (h1 : ∀ r : α, ∀ c ∈ enc r, c.oneCell' = true)
    (h63 : n + L.length ≤ maxLen) (hbytes : (n + L.length) * bytes ≤ 140737488355328) (hbase : base ≤ w.heap.size)
    (h : ∀ v' w', w'.ownsRow base e size v' (n + L.length) (xs ++ L.flatMap enc) → w.grownBy w' v.ownBlock → (∀ k, v'.ownBlock = some k → v.ownBlock = some k ∨ w.heap.size ≤ k) → wpList P ops Q rest (a.put o.dst v') w') : wpList P ops Q (o :: rest) a w :=
  wpList_plain hgd fun _ hK => wp_append_recs s x t ho base e i z size bytes ht hi hz hsize hby hzs hsz v n xs hs hown u L B hx hu he h1 h63 hbytes hbase fun v' w' h2 h3 h4 => hK _ _ (h v' w' h2 h3 h4)
end Go.Proofs.YtmpjjfhmkfchfaaDoor.Recs
