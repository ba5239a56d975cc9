/-
  Texts joined, in build order, each with its own comment and its own conditions: W08Find, W08Ways, W12Ref, W09Abs, W08Spot.
-/
import Derived.Test.YtpihldcchjoinaaGreatDoorJ12
import Derived.Test.YtpihldcchjoinaaGreatDoorJ02
import Derived.Test.YtpihldcchjoinaaGreatDoorJ08
import Derived.Test.YtpihldcchjoinaaGreatDoorJ03
import Derived.Deep.RegionHeld3
import Derived.Test.YtpihldcchjoinaaGreatDoorJ05
import Derived.Test.YtpihldcchjoinaaGreatDoorJ06
/-
  Layer 8 (seek), walks: the plain answer's Go at every list of parts, and Find; new memory may be laid, nothing that was there is changed. The conditions stand in the statements.
-/
namespace Go.Proofs.YtpihldcchjoinaaGreatDoor.W08
set_option maxRecDepth 100000
open Go Go.RowKit Go.Proofs.YtpihldcchjoinaaGreatDoor.Strs Go.Proofs.YtpihldcchjoinaaGreatDoor.Recs
open Go.Proofs.YtpihldcchjoinaaGreatDoor.M07 (Tr nodeAt inDir)
open Go.Proofs.YtpihldcchjoinaaGreatDoor.M08 Go.Proofs.YtpihldcchjoinaaGreatDoor.M04
open Go.Proofs.YtpihldcchjoinaaGreatDoor.W07 (Nodes nodeV)
open Go.Proofs.YtpihldcchjoinaaGreatDoor.M03 (check)
open Go.Proofs.YtpihldcchjoinaaGreatDoor.Kit (ret_str ret_bool ret_int mk_of mk_bytes ba_ext below_draws on list_full list_ne list_none list_nil bytes_nil bytes_ne)

theorem refGo_any (t : Tr) (hfit : Fit t) (htl : t.L.length ≤ 1048576) : ∀ (k : Nat) (l : List Bytes), GoesTo t k l := by
  intro k
  induction k using Nat.strongRecOn with
  | ind k ih =>
    intro l
    induction l with
    | nil => exact go_step t hfit htl k [] (fun k' l' h => ih k' h l') (fun p r h => by cases h)
    | cons p r ihl => exact go_step t hfit htl k (p :: r) (fun k' l' h => ih k' h l') (fun p' r' h => by cases h; exact ihl)
theorem refFind_any (t : Tr) (hfit : Fit t) (htl : t.L.length ≤ 1048576) (u : Value) (s : ByteArray) (last : Bool) (w : World) (hu : Nodes w.heap.size w u t.L) :
    Calls Tryz.prog 33 #[.agg #[u, .int .i64 t.last], .string s, .bool last] w fun e w' => e = .returned (.tuple #[.int .i64 (M08.find t s.data.toList last).1, .int .i64 (M08.find t s.data.toList last).2]) ∧ Below w.heap.size w w' := by
  obtain ⟨Au, cu, rfl, hu1, hu2⟩ := hu.form
  have HU := Lib.hid hu
  clear hu
  by_cases h0 : 0 < s.size
  · have hne : ¬ s.data.toList = [] := bytes_ne h0
    have e1 := list_full h0
    have e2 := list_ne h0
    by_cases h1 : s.size ≤ 1024
    · have hl : ¬ 1024 < s.data.toList.length := by rw [← Lib.size_eq]; omega
      have HF : Hid (M08.find t s.data.toList last = ((goTo t 1 (parts s.data.toList) last 0).1, (goTo t 1 (parts s.data.toList) last 0).2.2)) := by
        show _ = _
        unfold M08.find
        rw [if_neg hne, if_neg hl]
      rw [HF.out]
      have HPT := Lib.hid (fun w' => W04.refParts_any s (by omega) w')
      have hpl := parts_len s.data.toList
      rw [← Lib.size_eq] at hpl
      have HGO := Lib.hid (fun (w' : World) (v : Value) (hb : Below w.heap.size w w') (ht : Texts w'.heap.size w' v (parts s.data.toList)) => refGo_any t hfit htl 40 (parts s.data.toList) 1 last 0 (.slice Au t.L.length cu) v w' rfl (by omega) ((HU.out.below hb).more hb.size) ht)
      generalize goTo t 1 (parts s.data.toList) last 0 = G at *
      generalize parts s.data.toList = PL at *
      obtain ⟨w1, hw1⟩ : ∃ w1 : World, w.alloc (.cells #[.slice Au t.L.length cu, .int .i64 t.last] 28) = w1 := ⟨_, rfl⟩
      have B1 : Below w.heap.size w w1 := by rw [← hw1]; exact (Below.refl _ _).alloc (Nat.le_refl _) _
      have hs1 : w.heap.size < w1.heap.size := by rw [← hw1]; simp
      have x0 : w1.cell? ⟨w.heap.size, 0, none⟩ = some (.slice Au t.L.length cu) := by rw [← hw1]; simp
      have x1 : w1.cell? ⟨w.heap.size, 1, none⟩ = some (.int .i64 t.last) := by rw [← hw1]; simp
      have HB1 := Lib.hid B1
      clear hpl hl hne HF B1
      go_enter Tryz.func33, Tryz.ntmps33
      go_wp2_with fail
      go_region_held3 (fun w' => w'.cell? ⟨w.heap.size, 0, none⟩ = some (.slice Au t.L.length cu) ∧ w'.cell? ⟨w.heap.size, 1, none⟩ = some (.int .i64 t.last) ∧ Below w1.heap.size w1 w')
        (first | exact box_on hs1 (by assumption) hb4 | exact box_on hs1 (by assumption) hb3 | exact ⟨x0, x1, (Below.refl _ _).drew⟩ | go_keep)
        (first
          | (go_at_call 68; refine (HPT.out _).mono ?_; rintro e w3 ⟨v3, rfl, ho3, hb3⟩; have B3 := on ((Below.refl w1.heap.size w1).drew) hb3; have T3 := Lib.hid (Texts.of_own ho3))
          | (go_at_call 67; refine (HGO.out w3 v3 (on HB1.out B3) T3.out).mono ?_; rintro e w4 ⟨rfl, hb4⟩; have B4 := on B3 hb4))
      all_goals (
        go_wp2_with fail
        go_ret2
        exact ⟨rfl, on HB1.out B4⟩)
    · have hl : 1024 < s.data.toList.length := by rw [← Lib.size_eq]; omega
      have HF : Hid (M08.find t s.data.toList last = (0, 11)) := by
        show _ = _
        unfold M08.find
        rw [if_neg hne, if_pos hl]
      rw [HF.out]
      clear hl hne HF
      go_enter Tryz.func33, Tryz.ntmps33
      go_wp2_with fail
      go_ret2
      exact ⟨rfl, (Below.refl _ _).alloc (Nat.le_refl _) _⟩
  · have hne : s.data.toList = [] := bytes_nil h0
    have e1 := list_none h0
    have e2 := list_nil h0
    have HF : Hid (M08.find t s.data.toList last = (0, 5)) := by
      show _ = _
      unfold M08.find
      rw [if_pos hne]
    rw [HF.out]
    clear hne HF
    go_enter Tryz.func33, Tryz.ntmps33
    go_wp2_with fail
    go_ret2
    exact ⟨rfl, (Below.refl _ _).alloc (Nat.le_refl _) _⟩
end Go.Proofs.YtpihldcchjoinaaGreatDoor.W08
/-
  Layer 8 (seek), walks: the plain answers Real and Straight; new memory may be laid, nothing that was there is changed. The conditions stand in the statements.
-/
namespace Go.Proofs.YtpihldcchjoinaaGreatDoor.W08
set_option maxRecDepth 100000
open Go Go.RowKit Go.Proofs.YtpihldcchjoinaaGreatDoor.Strs Go.Proofs.YtpihldcchjoinaaGreatDoor.Recs
open Go.Proofs.YtpihldcchjoinaaGreatDoor.M07 (Tr nodeAt inDir Right upOf upN height at_some)
open Go.Proofs.YtpihldcchjoinaaGreatDoor.M08 Go.Proofs.YtpihldcchjoinaaGreatDoor.M04
open Go.Proofs.YtpihldcchjoinaaGreatDoor.W07 (Nodes nodeV NodeBox set_heap set_size heap_top)
open Go.Proofs.YtpihldcchjoinaaGreatDoor.M03 (check)
open Go.Proofs.YtpihldcchjoinaaGreatDoor.Kit (ret_str ret_bool ret_int mk_of mk_bytes ba_ext below_draws on list_full list_ne list_none list_nil bytes_nil bytes_ne cat_bytes)

/-- a plain tree's box -/
def RefBox (w : World) (k : Nat) (v : Value) (last : Int) : Prop := w.heap[k]? = some (.cells #[v, .int .i64 last] 28 (0, 0))
section
variable {w w' : World} {k : Nat} {v : Value} {last : Int}
theorem RefBox.lt (h : RefBox w k v last) : k < w.heap.size := (Array.getElem?_eq_some_iff.1 h).1
theorem RefBox.below (h : RefBox w k v last) (hb : Below w.heap.size w w') : RefBox w' k v last := (hb.block _ h.lt).trans h
theorem RefBox.new (w : World) (v : Value) (last : Int) : RefBox (w.alloc (.cells #[v, .int .i64 last] 28)) w.heap.size v last := heap_top _ _
theorem RefBox.c0 (h : RefBox w k v last) : w.cell? ⟨k, 0, none⟩ = some v := cell_of_row w _ 0 _ _ (0, 0) h
theorem RefBox.fr (h : RefBox w k v last) (j : Nat) : w.frozen? ⟨k, j, none⟩ = false := frozen_of_row w _ j _ _ h
theorem RefBox.c1 (h : RefBox w k v last) : w.cell? ⟨k, 1, none⟩ = some (.int .i64 last) := cell_of_row w _ 1 _ _ (0, 0) h
end
/-- the number of the node in a box -/
def numAt (w : World) (p : Nat) : Int := match w.cell? ⟨p, 0, none⟩ with | some (.int _ q) => q | _ => 0
theorem num_at {w : World} {p : Nat} {x : M07.Nd} (h : NodeBox w p x) : numAt w p = x.num := by unfold numAt; rw [h.c0]
/-- a node stored over another one -/
def overNode (w : World) (p : Nat) (x : M07.Nd) : World := ((((w.setCell ⟨p, 0, none⟩ (.int .i64 x.num)).setCell ⟨p, 1, none⟩ (.int .i64 x.up)).setCell ⟨p, 2, none⟩ (.string ⟨x.name.toArray⟩)).setCell ⟨p, 3, none⟩ (.int .i64 x.kind)).setCell ⟨p, 4, none⟩ (.string ⟨x.data.toArray⟩)
theorem over_box {w : World} {p : Nat} {x y : M07.Nd} (h : NodeBox w p x) : NodeBox (overNode w p y) p y :=
  set_heap (set_heap (set_heap (set_heap (set_heap h 0 (.int .i64 y.num)) 1 (.int .i64 y.up)) 2 (.string ⟨y.name.toArray⟩)) 3 (.int .i64 y.kind)) 4 (.string ⟨y.data.toArray⟩)
theorem over_other {w : World} {p k : Nat} {y : M07.Nd} (h : k ≠ p) : (overNode w p y).heap[k]? = w.heap[k]? := by
  unfold overNode
  rw [Below.heap_setCell _ _ _ _ (by exact h), Below.heap_setCell _ _ _ _ (by exact h), Below.heap_setCell _ _ _ _ (by exact h), Below.heap_setCell _ _ _ _ (by exact h), Below.heap_setCell _ _ _ _ (by exact h)]
theorem over_below {a w : World} {B p : Nat} {y : M07.Nd} (h : Below B a w) (hp : B ≤ p) : Below B a (overNode w p y) := ((((h.setCell (p := ⟨p, 0, none⟩) hp _).setCell (p := ⟨p, 1, none⟩) hp _).setCell (p := ⟨p, 2, none⟩) hp _).setCell (p := ⟨p, 3, none⟩) hp _).setCell (p := ⟨p, 4, none⟩) hp _
theorem ret_real {a : ByteArray} {b : Bool} {r : Bytes × Bool} (h : r = (a.data.toList, b)) : Ending.returned (.tuple #[.string a, .bool b]) = .returned (.tuple #[.string ⟨r.1.toArray⟩, .bool r.2]) := by
  rw [h]
theorem at_num {t : Tr} {k : Int} (h : (nodeAt t.L k).kind ≠ 0) : (nodeAt t.L k).num = k := (at_some h).2
set_option maxHeartbeats 4000000 in
theorem refReal_any (t : Tr) (hR : Right t) (hN : Named t) (htl : t.L.length ≤ 1048576) (u : Value) (n : Int) (w : World) (hu : Nodes w.heap.size w u t.L) :
    Calls Tryz.prog 35 #[.agg #[u, .int .i64 t.last], .int .i64 n] w fun e w' => e = .returned (.tuple #[.string ⟨(real t n).1.toArray⟩, .bool (real t n).2]) ∧ Below w.heap.size w w' := by
  obtain ⟨Au, cu, rfl, hu1, hu2⟩ := hu.form
  have HU := Lib.hid hu
  clear hu
  have HAT := Lib.hid (fun (w' : World) (n : Int) (hb : Below w.heap.size w w') => W07.refAt_any (.slice Au t.L.length cu) t.L t.last n w.heap.size w' (HU.out.below hb) hb.size (by omega))
  unfold nodeV at HAT
  obtain ⟨w1, hw1⟩ : ∃ w1 : World, w.alloc (.cells #[.slice Au t.L.length cu, .int .i64 t.last] 28) = w1 := ⟨_, rfl⟩
  have B1 : Hid (Below w.heap.size w w1) := by rw [← hw1]; exact (Below.refl _ _).alloc (Nat.le_refl _) _
  have R1 : Hid (RefBox w1 w.heap.size (.slice Au t.L.length cu) t.last) := by rw [← hw1]; exact RefBox.new _ _ _
  have x0 := R1.out.c0
  have x1 := R1.out.c1
  have HA1 := Lib.hid (HAT.out w1 n B1.out)
  by_cases hk : (nodeAt t.L n).kind = 0
  · have HX : Hid (real t n = ([], false)) := if_pos hk
    generalize real t n = R at *
    generalize nodeAt t.L n = x at *
    go_enter Tryz.func35, Tryz.ntmps35
    go_wp2_with fail
    refine HA1.out.mono ?_
    rintro e w2 ⟨rfl, hb⟩
    have B2 := Lib.hid (on B1.out hb)
    clear hb hw1
    go_wp2_with fail
    go_ret2
    exact ⟨ret_real (a := ⟨#[]⟩) HX.out, B2.out.alloc B2.out.size _⟩
  · have HX : Hid (real t n = (text (names t n), true)) := if_neg hk
    have tk : ((nodeAt t.L n).kind == 0) = false := by simpa using hk
    have HK := Lib.hid hk
    have HB := Lib.hid (names_bound hR hN hk)
    have HR := Lib.hid hR
    have HL := Lib.hid htl
    clear hk hR hN
    generalize real t n = R at *
    go_enter Tryz.func35, Tryz.ntmps35
    go_wp2_with fail
    refine HA1.out.mono ?_
    rintro e w2 ⟨rfl, hb⟩
    have B2 := Lib.hid (on B1.out hb)
    have R2 := Lib.hid (R1.out.below hb)
    obtain ⟨p, hp⟩ : ∃ p, w2.heap.size = p := ⟨_, rfl⟩
    have HBP : Hid (w.heap.size < p) := by rw [← hp]; exact R2.out.lt
    clear hb hw1 x0 x1 R1 HA1
    obtain ⟨w3, hw3⟩ : ∃ w3, w2.alloc (.cells #[.int .i64 (nodeAt t.L n).num, .int .i64 (nodeAt t.L n).up, .string ⟨(nodeAt t.L n).name.toArray⟩, .int .i64 (nodeAt t.L n).kind, .string ⟨(nodeAt t.L n).data.toArray⟩] 77) = w3 := ⟨_, rfl⟩
    have NB : Hid (NodeBox w3 p (nodeAt t.L n)) := by rw [← hw3, ← hp]; exact NodeBox.new w2 (nodeAt t.L n)
    have B3 : Hid (Below w.heap.size w w3) := by rw [← hw3]; exact B2.out.alloc B2.out.size _
    have R3 : Hid (RefBox w3 w.heap.size (.slice Au t.L.length cu) t.last) := by rw [← hw3]; exact R2.out.below ((Below.refl w2.heap.size w2).alloc (Nat.le_refl _) _)
    have y3 := NB.out.c3
    clear B2 R2
    go_wp2_with fail
    clear hw3 y3 hp
    go_loopw [7] (fun u7 wr => ∃ (k : Int) (acc : ByteArray), u7 = .string acc ∧ Hid ((nodeAt t.L k).kind ≠ 0) ∧ Hid (flatN (names t n) = flatN (names t k) ++ acc.data.toList) ∧ Hid (NodeBox wr p (nodeAt t.L k)) ∧ Hid (RefBox wr w.heap.size (.slice Au t.L.length cu) t.last) ∧ Hid (Below w.heap.size w wr)) (fun _ wr => height t.L (numAt wr p))
    case atStart => exact ⟨n, ⟨#[]⟩, rfl, HK.out, by show _ = _; simp, NB, R3, B3⟩
    case round =>
      clear NB R3 B3
      obtain ⟨k, acc, rfl, hk, hf, nb, rb, hb⟩ := hrel
      have hnum := Lib.hid (at_num hk.out)
      have c0 := nb.out.c0
      have c1 := nb.out.c1
      have c2 := nb.out.c2
      have x0 := rb.out.c0
      have x1 := rb.out.c1
      have hacc : acc.size ≤ 1099511627776 := by
        have h1 := HB.out
        have h2 := HL.out
        rw [hf.out, List.length_append] at h1
        rw [Lib.size_eq]; omega
      by_cases k1 : k = 1
      · have tn : ((nodeAt t.L k).num != 1) = false := by rw [hnum.out]; simpa using k1
        have HF : Hid (flatN (names t n) = acc.data.toList) := by
          have := hf.out
          rw [k1, names_root] at this
          exact this
        clear hacc hf k1
        by_cases h0 : 0 < acc.size
        · have z1 := list_full h0
          have z2 := list_ne h0
          have HT := Lib.hid (text_flatN (L := names t n) (by rw [HF.out]; exact bytes_ne h0))
          go_wp2_with fail
          go_ret2
          exact ⟨ret_real (a := acc) (by rw [HX.out, HT.out, HF.out]), hb.out⟩
        · have z1 := list_none h0
          have z2 := list_nil h0
          have HT := Lib.hid (text_flat0 (L := names t n) (by rw [HF.out]; exact bytes_nil h0))
          go_wp2_with fail
          go_ret2
          exact ⟨ret_real (a := ⟨#[47]⟩) (by rw [HX.out, HT.out]), hb.out⟩
      · have tn : ((nodeAt t.L k).num != 1) = true := by rw [hnum.out]; simpa using k1
        have HN1 := Lib.hid (flatN_next HR.out hk.out k1)
        have HH := Lib.hid (height_next (HR.out.reach hk.out) k1)
        have hup := HR.out.up _ (at_some hk.out).1
        have HUP : Hid ((nodeAt t.L (nodeAt t.L k).up).kind ≠ 0) := by show _ ≠ _; rw [hup]; decide
        have HA := Lib.hid (HAT.out wr (nodeAt t.L k).up hb.out)
        obtain ⟨nm, hnm⟩ : ∃ nm : ByteArray, (⟨(nodeAt t.L k).name.toArray⟩ : ByteArray) = nm := ⟨_, rfl⟩
        have hnl : nm.data.toList = (nodeAt t.L k).name := by rw [← hnm]
        have hns : nm.size ≤ 1099511627776 := by
          have h1 := HB.out
          have h2 := HL.out
          rw [hf.out, HN1.out] at h1
          simp only [List.length_append, List.length_cons] at h1
          rw [Lib.size_eq, hnl]
          omega
        have HACC : Hid (flatN (names t n) = flatN (names t (nodeAt t.L k).up) ++ (⟨#[47]⟩ ++ nm ++ acc : ByteArray).data.toList) := by
          show _ = _
          rw [hf.out, HN1.out, cat_bytes, cat_bytes, hnl]; simp
        rw [hnm] at c2
        clear hup k1 HN1 hf hnm hnl
        go_wp2_with fail
        refine HA.out.mono ?_
        rintro e w4 ⟨rfl, hb4⟩
        have nb4 := Lib.hid (nb.out.below hb4)
        have rb4 := Lib.hid (rb.out.below hb4)
        have B4 := Lib.hid (on hb.out hb4)
        have d0 := nb4.out.c0
        have d1 := nb4.out.c1
        have d2 := nb4.out.c2
        have d3 := nb4.out.c3
        have d4 := nb4.out.c4
        have f0 := nb4.out.fr 0
        have f1 := nb4.out.fr 1
        have f2 := nb4.out.fr 2
        have f3 := nb4.out.fr 3
        have f4 := nb4.out.fr 4
        clear hb4 c0 c1 c2 x0 x1
        go_wp2_with fail
        go_roundw
        case rel => exact ⟨(nodeAt t.L k).up, _, rfl, HUP, HACC, over_box nb4.out, (over_other (by have := HBP.out; omega)).trans rb4.out, over_below B4.out (by have := HBP.out; omega)⟩
        case measure =>
          rw [num_at nb.out, hnum.out, HH.out]
          have e := num_at (over_box nb4.out (y := nodeAt t.L (nodeAt t.L k).up))
          rw [at_num HUP.out] at e
          show height t.L (numAt (overNode w4 p (nodeAt t.L (nodeAt t.L k).up)) p) < _
          rw [e]
          exact Nat.lt_succ_self _
theorem texts_flat {B : Nat} {w : World} {A : Option Addr} {n c k : Nat} {L : List Bytes} (h : Texts B w (.slice A n c) L) (hk : k < n) : ∃ (b o : Nat) (q : ByteArray), A = some ⟨b, o, none⟩ ∧ b < B ∧ w.cell? ⟨b, o + k, none⟩ = some (.string q) ∧ q.data.toList = L.getD k [] := by
  obtain ⟨ad, q, rfl, hb, hc, hq⟩ := h.at_ hk
  obtain ⟨ad0, q0, e, -, hc0, -⟩ := h.at_ (k := 0) (by omega)
  cases e
  obtain ⟨b, o, sp⟩ := ad
  have hsp : sp = none := by simpa [Addr.add] using World.cell?_spot hc0
  subst hsp
  rw [Addr.add_lit] at hc
  exact ⟨b, o, q, rfl, hb, hc, hq⟩
end Go.Proofs.YtpihldcchjoinaaGreatDoor.W08
/-
  Layer 12 (dump), walks of the plain answers in, Rows, All: new memory may be laid, nothing that was there is changed. The conditions stand in the statements.
-/
namespace Go.Proofs.YtpihldcchjoinaaGreatDoor.W12
set_option maxRecDepth 100000
open Go Go.RowKit Go.Proofs.YtpihldcchjoinaaGreatDoor.Strs Go.Proofs.YtpihldcchjoinaaGreatDoor.Recs
open Go.Proofs.YtpihldcchjoinaaGreatDoor.M12
open Go.Proofs.YtpihldcchjoinaaGreatDoor.M07 (Tr Nd nodeAt Right height upOf at_some)
open Go.Proofs.YtpihldcchjoinaaGreatDoor.M08 (Named Fit names text_ne real flatN names_bound height_next)
open Go.Proofs.YtpihldcchjoinaaGreatDoor.M04 (text parts)
open Go.Proofs.YtpihldcchjoinaaGreatDoor.W07 (Nodes nodeV)
open Go.Proofs.YtpihldcchjoinaaGreatDoor.W08 (RefBox at_num)
open Go.Proofs.YtpihldcchjoinaaGreatDoor.W11
open Go.Proofs.YtpihldcchjoinaaGreatDoor.Range (Turns)
open Go.Proofs.YtpihldcchjoinaaGreatDoor.Kit (ret_str ret_bool ret_int mk_of mk_bytes ba_ext below_draws on)

set_option maxHeartbeats 2000000 in
theorem refIn_any (t : Tr) (hR : Right t) (htl : t.L.length ≤ 1048576) (u : Value) (n d : Int) (w : World) (hu : Nodes w.heap.size w u t.L) (hk : (nodeAt t.L n).kind ≠ 0) :
    Calls Tryz.prog 34 #[.agg #[u, .int .i64 t.last], .int .i64 n, .int .i64 d] w fun e w' => e = .returned (.bool (isUnd t n d)) ∧ Below w.heap.size w w' := by
  obtain ⟨Au, cu, rfl, hu1, hu2⟩ := hu.form
  have HU := Lib.hid hu
  clear hu
  have HAT := Lib.hid (fun (w' : World) (n : Int) (hb : Below w.heap.size w w') => W07.refAt_any (.slice Au t.L.length cu) t.L t.last n w.heap.size w' (HU.out.below hb) hb.size (by omega))
  unfold nodeV at HAT
  obtain ⟨w1, hw1⟩ : ∃ w1 : World, w.alloc (.cells #[.slice Au t.L.length cu, .int .i64 t.last] 28) = w1 := ⟨_, rfl⟩
  have B1 : Hid (Below w.heap.size w w1) := by rw [← hw1]; exact (Below.refl _ _).alloc (Nat.le_refl _) _
  have R1 : Hid (RefBox w1 w.heap.size (.slice Au t.L.length cu) t.last) := by rw [← hw1]; exact RefBox.new _ _ _
  have HK := Lib.hid hk
  have HR := Lib.hid hR
  have HE : Hid (isUnd t n d = isUnd t n d) := rfl
  generalize hz : isUnd t n d = z at *
  have HZ : Hid (z = isUnd t n d) := hz.symm
  clear hz hk hR HE
  go_enter Tryz.func34, Tryz.ntmps34
  go_wp2_with fail
  clear hw1
  go_loopw [1] (fun v wr => ∃ k : Int, v = .int .i64 k ∧ Hid ((nodeAt t.L k).kind ≠ 0) ∧ Hid (z = isUnd t k d) ∧ Hid (RefBox wr w.heap.size (.slice Au t.L.length cu) t.last) ∧ Hid (Below w.heap.size w wr)) (fun v _ => height t.L (intOf v))
  case atStart => exact ⟨n, rfl, HK, HZ, R1, B1⟩
  case round =>
    obtain ⟨k, rfl, hk, hz, rb, hb⟩ := hrel
    clear R1 B1
    by_cases k1 : k = 1
    · subst k1
      have HF := Lib.hid (hz.out.trans (und_root t d))
      go_wp2_with fail
      go_ret
      exact ⟨ret_bool HF.out.symm, hb.out⟩
    · have tk : (k != 1) = true := by simpa using k1
      have x0 := rb.out.c0
      have x1 := rb.out.c1
      have HA := Lib.hid (HAT.out wr k hb.out)
      have HH := Lib.hid (height_next (HR.out.reach hk.out) k1)
      have hup := HR.out.up _ (at_some hk.out).1
      have HUP : Hid ((nodeAt t.L (nodeAt t.L k).up).kind ≠ 0) := by show _ ≠ _; rw [hup]; decide
      have HI := Lib.hid (fun h => hz.out.trans (und_here (t := t) (d := d) k1 h))
      have HN := Lib.hid (fun h => hz.out.trans (und_up (t := t) (d := d) k1 h))
      clear hup
      by_cases hd : (nodeAt t.L k).up = d
      · have td : ((nodeAt t.L k).up == d) = true := by simpa using hd
        have HF := Lib.hid (HI.out hd)
        clear HI HN hd
        have hfu := W07.field_up (nodeAt t.L k).num (nodeAt t.L k).up ⟨(nodeAt t.L k).name.toArray⟩ (nodeAt t.L k).kind ⟨(nodeAt t.L k).data.toArray⟩
        go_wp2_with fail
        refine HA.out.mono ?_
        rintro e w2 ⟨rfl, hb2⟩
        have B2 := Lib.hid (on hb.out hb2)
        go_wp2_with fail
        go_ret
        exact ⟨ret_bool HF.out.symm, B2.out⟩
      · have td : ((nodeAt t.L k).up == d) = false := by simpa using hd
        have HF := Lib.hid (HN.out hd)
        clear HI HN hd
        have hfu := W07.field_up (nodeAt t.L k).num (nodeAt t.L k).up ⟨(nodeAt t.L k).name.toArray⟩ (nodeAt t.L k).kind ⟨(nodeAt t.L k).data.toArray⟩
        go_wp2_with fail
        refine HA.out.mono ?_
        rintro e w2 ⟨rfl, hb2⟩
        have B2 := Lib.hid (on hb.out hb2)
        have RB2 := Lib.hid (rb.out.below hb2)
        clear hb2
        go_wp2_with fail
        go_roundw
        case rel => exact ⟨(nodeAt t.L k).up, rfl, HUP, HF, RB2, B2⟩
        case measure =>
          have : height t.L k = height t.L (nodeAt t.L k).up + 1 := HH.out
          show height t.L (nodeAt t.L k).up < height t.L k
          omega
/-- rows are handed out, and an error's number -/
def HandsRE (w : World) (R : List Rw × Int) (e : Ending) (w' : World) : Prop := ∃ v, e = .returned (.tuple #[v, .int .i64 R.2]) ∧ RowList w'.heap.size w' v R.1 ∧ Below w.heap.size w w'
abbrev OwnRows (w : World) (base : Nat) (v : Value) (L : List Rw) : Prop := w.ownsRow base 41 3 v L.length (L.flatMap rowC)
theorem own_rows_nil (w : World) (base : Nat) : OwnRows w base (.slice none 0 0) [] := World.ownsRow_nil w base _ _
theorem own_rows_one {w : World} {base : Nat} {v : Value} {L : List Rw} {r : Rw} {n : Nat} (hn : n = L.length + 1) (h : w.ownsRow base 41 3 v n (L.flatMap rowC ++ rowC r)) : OwnRows w base v (L ++ [r]) := by
  subst hn
  show w.ownsRow base 41 3 v (L ++ [r]).length ((L ++ [r]).flatMap rowC)
  rw [List.flatMap_append, List.length_append]
  simpa using h
theorem rowC_mk (s x : ByteArray) (k : Int) : rowC ⟨s.data.toList, k, x.data.toList⟩ = [.string s, .int .i64 k, .string x] := by
  show [strV s.data.toList, _, strV x.data.toList] = _
  unfold strV
  rw [mk_bytes, mk_bytes]
theorem own_below {w w' : World} {base : Nat} {e : TypeId} {size n : Nat} {v : Value} {xs : List Value} (hr : w.ownsRow base e size v n xs) (h : Below w.heap.size w w') : w'.ownsRow base e size v n xs := by
  refine ⟨hr.1, ?_⟩
  rcases hr.2 with h0 | ⟨g, cap, cur, e1, hb, hh, rest⟩
  · exact Or.inl h0
  · exact Or.inr ⟨g, cap, cur, e1, hb, (h.block g (Array.getElem?_eq_some_iff.1 hh).1).trans hh, rest⟩
theorem own_box {w : World} {base : Nat} {e : TypeId} {size n : Nat} {v : Value} {xs : List Value} (hr : w.ownsRow base e size v n xs) (o : Obj) : (w.alloc o).ownsRow base e size v n xs := own_below hr (below_box w o)
/-- the nodes of the first k that stand below d -/
noncomputable def some_ (t : Tr) (d : Int) (k : Nat) : List Rw := ((t.L.take k).filter (fun a => decide (a.num ≠ 1) && isUnd t a.num d)).map (nodeRow t)
theorem some_len (t : Tr) (d : Int) (k : Nat) : (some_ t d k).length ≤ t.L.length := by
  unfold some_
  rw [List.length_map]
  have h1 : ((t.L.take k).filter (fun a => decide (a.num ≠ 1) && isUnd t a.num d)).length ≤ (t.L.take k).length := List.length_filter_le _ _
  rw [List.length_take] at h1
  omega
theorem some_in {t : Tr} {d : Int} {k : Nat} (hk : k < t.L.length) (h1 : (t.L[k]).num ≠ 1) (h2 : isUnd t (t.L[k]).num d = true) : some_ t d (k + 1) = some_ t d k ++ [nodeRow t t.L[k]] := by
  unfold some_
  rw [List.take_succ_eq_append_getElem hk, List.filter_append, List.map_append]
  simp [h1, h2]
theorem some_out {t : Tr} {d : Int} {k : Nat} (hk : k < t.L.length) (h : ¬ ((t.L[k]).num ≠ 1 ∧ isUnd t (t.L[k]).num d = true)) : some_ t d (k + 1) = some_ t d k := by
  unfold some_
  rw [List.take_succ_eq_append_getElem hk, List.filter_append, List.map_append]
  have : (decide ((t.L[k]).num ≠ 1) && isUnd t (t.L[k]).num d) = false := by
    by_cases h1 : (t.L[k]).num = 1
    · simp [h1]
    · cases h2 : isUnd t (t.L[k]).num d with
      | false => simp
      | true => exact absurd ⟨h1, h2⟩ h
  rw [List.filter_cons, if_neg (by rw [this]; simp)]; simp
theorem some_all {t : Tr} {d : Int} {k : Nat} (hk : ¬ k < t.L.length) : sortR (some_ t d k) = rowsBelow t d := by
  unfold some_ rowsBelow nodesBelow
  rw [List.take_of_length_le (by omega)]
theorem row_path_len {t : Tr} (hR : Right t) (hN : Named t) (htl : t.L.length ≤ 1048576) {a : Nd} (ha : a ∈ t.L) : (nodeRow t a).path.length ≤ 68157441 := by
  have hb := names_bound hR hN (n := a.num) (by rw [hR.at_ ha]; exact hR.kind a ha)
  unfold nodeRow
  show (text (names t a.num)).length ≤ _
  by_cases h : flatN (names t a.num) = []
  · rw [M08.text_flat0 h]; decide
  · rw [M08.text_flatN h]; omega
theorem some_paths {t : Tr} (hR : Right t) (hN : Named t) (htl : t.L.length ≤ 1048576) {d : Int} {k : Nat} : ∀ x ∈ some_ t d k, x.path.length ≤ 2147483648 := by
  intro x hx
  unfold some_ at hx
  obtain ⟨a, ha, rfl⟩ := List.mem_map.1 hx
  have := row_path_len hR hN htl (List.mem_of_mem_take (List.mem_filter.1 ha).1)
  omega
set_option maxHeartbeats 8000000 in
theorem refRows_any (t : Tr) (hR : Right t) (hN : Named t) (hF : Fit t) (htl : t.L.length ≤ 1048576) (u : Value) (p : ByteArray) (w : World) (hu : Nodes w.heap.size w u t.L) :
    Calls Tryz.prog 11 #[.agg #[u, .int .i64 t.last], .string p] w (HandsRE w (rowsAt t p.data.toList)) := by
  obtain ⟨j0, hi, hz0, hz1, hz2⟩ := info_parts row_info
  have HI := Lib.hid hi
  obtain ⟨Au, cu, rfl, hu1, hu2⟩ := hu.form
  unfold maxLen at hu2
  have HU := Lib.hid hu
  clear hu
  obtain ⟨w1, hw1⟩ : ∃ w1 : World, w.alloc (.cells #[.slice Au t.L.length cu, .int .i64 t.last] 28) = w1 := ⟨_, rfl⟩
  have B1 : Hid (Below w.heap.size w w1) := by rw [← hw1]; exact (Below.refl _ _).alloc (Nat.le_refl _) _
  have R1 : Hid (RefBox w1 w.heap.size (.slice Au t.L.length cu) t.last) := by rw [← hw1]; exact RefBox.new _ _ _
  have x0 := R1.out.c0
  have x1 := R1.out.c1
  have HFD := Lib.hid (W08.refFind_any t hF htl (.slice Au t.L.length cu) p true w1 ((HU.out.below B1.out).more B1.out.size))
  have HRW : Hid (rowsAt t p.data.toList = if (M08.find t p.data.toList true).2 ≠ 0 then ([], (M08.find t p.data.toList true).2) else (rowsBelow t (M08.find t p.data.toList true).1, 0)) := rfl
  have HIN := Lib.hid (fun (n d : Int) (w' : World) (hb : Below w.heap.size w w') (hk : (nodeAt t.L n).kind ≠ 0) => refIn_any t hR htl (.slice Au t.L.length cu) n d w' ((HU.out.below hb).more hb.size) hk)
  have HRL := Lib.hid (fun (n : Int) (w' : World) (hb : Below w.heap.size w w') => W08.refReal_any t hR hN htl (.slice Au t.L.length cu) n w' ((HU.out.below hb).more hb.size))
  have HRR := Lib.hid hR
  have HNN := Lib.hid hN
  generalize rowsAt t p.data.toList = R at *
  generalize M08.find t p.data.toList true = q at *
  obtain ⟨d, fe⟩ := q
  simp only at HFD HRW
  by_cases he : fe = 0
  · subst he
    rw [if_neg (by simp)] at HRW
    have HTL := Lib.hid htl
    generalize hm : t.L.length = m at *
    have HM := Lib.hid hm
    clear hm hR hN hF
    go_enter Tryz.func11, Tryz.ntmps11
    go_wp2_with fail
    refine HFD.out.mono ?_
    rintro e w2 ⟨rfl, hb⟩
    have B2 := Lib.hid (on B1.out hb)
    have R2 := Lib.hid (R1.out.below hb)
    clear hb hw1 x0 x1 R1 B1 HFD
    go_wp2_with fail
    go_loopw [8, 9] (fun v i wr => ∃ k : Nat, k ≤ m ∧ i = .int .i64 k ∧ Hid (OwnRows wr (w.heap.size + 1) v (some_ t d k)) ∧ Hid (RefBox wr w.heap.size (.slice Au m cu) t.last) ∧ Hid (Below w.heap.size w wr)) (fun _ i _ => m - (intOf i).toNat)
    case atStart => exact ⟨0, Nat.zero_le _, rfl, own_rows_nil _ _, R2, B2⟩
    case round =>
      obtain ⟨k, hk, rfl, hown, rb, hb⟩ := hrel
      clear B2 R2
      by_cases hlt : k < m
      · obtain ⟨b, o, hl1, rfl, hbl, hc0, hc1, hc2, hc3, hc4⟩ := W07.Nodes.at_ (HU.out.below hb.out) hlt
        have x0 := rb.out.c0
        have x1 := rb.out.c1
        have hxm : t.L[k] ∈ t.L := List.getElem_mem hl1
        have HXK : Hid ((nodeAt t.L (t.L[k]).num).kind ≠ 0) := by show _ ≠ _; rw [HRR.out.at_ hxm]; exact HRR.out.kind _ hxm
        have HIN1 := Lib.hid (fun h1 h2 => some_in (t := t) (d := d) hl1 h1 h2)
        have HOUT1 := Lib.hid (fun h => some_out (t := t) (d := d) hl1 h)
        have HRE : Hid ((real t (t.L[k]).num).1 = (nodeRow t t.L[k]).path) := by
          show _ = _
          unfold real
          rw [if_neg HXK.out]; rfl
        generalize t.L[k] = x at *
        obtain ⟨w3, hw3⟩ : ∃ w3, wr.alloc (.cells #[.int .i64 x.num, .int .i64 x.up, .string ⟨x.name.toArray⟩, .int .i64 x.kind, .string ⟨x.data.toArray⟩] 77) = w3 := ⟨_, rfl⟩
        have NB : Hid (W07.NodeBox w3 wr.heap.size x) := by rw [← hw3]; exact W07.NodeBox.new wr x
        have hb3 : Below wr.heap.size wr w3 := by rw [← hw3]; exact below_box _ _
        have B3 : Hid (Below w.heap.size w w3) := on hb.out hb3
        have RB3 : Hid (RefBox w3 w.heap.size (.slice (some ⟨b, o, none⟩) m cu) t.last) := rb.out.below hb3
        have O3 : Hid (OwnRows w3 (w.heap.size + 1) u8 (some_ t d k)) := own_below hown.out hb3
        clear hb3
        by_cases h1 : x.num = 1
        · have tn : (x.num != 1) = false := by simpa using h1
          have HS := Lib.hid (HOUT1.out (fun h => h.1 h1))
          have y0 := NB.out.c0
          clear HIN1 HOUT1 h1
          go_wp2_with fail
          clear hw3
          go_roundw
          case rel => exact ⟨k + 1, by omega, by go_num, by rw [HS.out]; exact O3, RB3, B3⟩
          case measure => simp [intOf]; omega
        · have tn : (x.num != 1) = true := by simpa using h1
          have y0 := NB.out.c0
          have z0 := RB3.out.c0
          have z1 := RB3.out.c1
          have HC := Lib.hid (HIN.out x.num d w3 B3.out HXK.out)
          cases hu : isUnd t x.num d with
          | false =>
            rw [hu] at HC
            have HS := Lib.hid (HOUT1.out (fun h => by rw [hu] at h; cases h.2))
            clear HIN1 HOUT1 h1 hu
            go_wp2_with fail
            clear hw3
            refine HC.out.mono ?_
            rintro e w4 ⟨rfl, hb4⟩
            have B4 := Lib.hid (on B3.out hb4)
            have RB4 := Lib.hid (RB3.out.below hb4)
            have O4 := Lib.hid (own_below O3.out hb4)
            clear hb4
            go_wp2_with fail
            go_roundw
            case rel => exact ⟨k + 1, by omega, by go_num, by rw [HS.out]; exact O4, RB4, B4⟩
            case measure => simp [intOf]; omega
          | true =>
            rw [hu] at HC
            have HS := Lib.hid (HIN1.out h1 hu)
            clear HIN1 HOUT1 h1 hu
            go_wp2_with fail
            clear hw3
            refine HC.out.mono ?_
            rintro e w4 ⟨rfl, hb4⟩
            have B4 := Lib.hid (on B3.out hb4)
            have RB4 := Lib.hid (RB3.out.below hb4)
            have NB4 := Lib.hid (NB.out.below hb4)
            have O4 := Lib.hid (own_below O3.out hb4)
            have a0 := NB4.out.c0
            have v0 := RB4.out.c0
            have v1 := RB4.out.c1
            clear hb4 x0 x1 y0 z0 z1 hc0 hc1 hc2 hc3 hc4
            have HRC := Lib.hid (HRL.out x.num w4 B4.out)
            obtain ⟨s, hs⟩ : ∃ s : ByteArray, (⟨(real t x.num).1.toArray⟩ : ByteArray) = s := ⟨_, rfl⟩
            have hsp : s.data.toList = (nodeRow t x).path := by rw [← hs]; exact HRE.out
            rw [hs] at HRC
            have HRW2 : Hid (rowC (nodeRow t x) = [.string s, .int .i64 x.kind, .string ⟨x.data.toArray⟩]) := by
              show _ = _
              rw [← rowC_mk, hsp]; rfl
            have hsl := some_len t d k
            have a1 : (some_ t d k).length + 1 ≤ maxLen := by have := HTL.out; have := HM.out; unfold maxLen; omega
            have a2 : ((some_ t d k).length + 1) * 40 ≤ 140737488355328 := by have := HTL.out; have := HM.out; omega
            clear hs hsp hsl
            go_wp2_with fail
            refine HRC.out.mono ?_
            rintro e w5 ⟨rfl, hb5⟩
            have B5 := Lib.hid (on B4.out hb5)
            have RB5 := Lib.hid (RB4.out.below hb5)
            have NB5 := Lib.hid (NB4.out.below hb5)
            have O5 := Lib.hid (own_below O4.out hb5)
            have a3 := NB5.out.c3
            have a4 := NB5.out.c4
            clear hb5 a0 v0 v1
            go_wp2_with (at_builtin; refine wpList_append_own _ rfl (.tmp 51) (.tmp 58) 31 rfl (w.heap.size + 1) 41 j0 (.agg #[.string ⟨#[]⟩, .int .i64 0, .string ⟨#[]⟩]) 3 40 Tryz.underlying31 HI.out hz0 hz1 hz2 rfl (by decide) _ _ _ rfl (own_box O5.out _) ⟨w5.heap.size, 0, none⟩ 1 1 [.string s, .int .i64 x.kind, .string ⟨x.data.toArray⟩] rfl rfl (cells_new w5 _ _) (by intro u hu; simp at hu; rcases hu with rfl | rfl | rfl <;> rfl) a1 a2 (by have := RB5.out.lt; simp; omega) ?_; intro v6 w6 hown6 hgrow6 _)
            rw [← HRW2.out] at hown6
            have O6 := Lib.hid (own_rows_one rfl hown6)
            have HB6 : Hid (Turns (fun k => w.heap.size + 1 ≤ k) w5 w6) := (Turns.alloc _ w5 _).trans (Turns.of_grown hgrow6 (fun r hr => (O5.out.lt r hr).1))
            have RB6 : Hid (RefBox w6 w.heap.size (.slice (some ⟨b, o, none⟩) m cu) t.last) := HB6.out.keeps RB5.out (by omega)
            have B6 : Hid (Below w.heap.size w w6) := B5.out.trans (HB6.out.below (fun k hk => by omega) B5.out.size)
            clear hown6 hgrow6
            go_wp2_with fail
            go_roundw
            case rel => exact ⟨k + 1, by omega, by go_num, by rw [HS.out]; exact O6, RB6, B6⟩
            case measure => simp [intOf]; omega
      · have HS := Lib.hid (some_all (t := t) (d := d) (k := k) (by rw [HM.out]; exact hlt))
        have RO : Hid (RowList wr.heap.size wr u8 (some_ t d k)) := Recs.of_own rowC_len rfl hown.out
        have HSO := Lib.hid (refSort_any u8 (some_ t d k) wr.heap.size wr RO.out (Nat.le_refl _) (by have := some_len t d k; have := HTL.out; have := HM.out; omega) (some_paths HRR.out HNN.out (by rw [HM.out]; exact HTL.out)))
        rw [HS.out] at HSO
        have x0 := rb.out.c0
        go_wp2_with fail
        refine HSO.out.mono ?_
        rintro e w3 ⟨v3, rfl, hv3, hb3⟩
        have B3 := Lib.hid (on hb.out hb3)
        go_wp2_with fail
        go_ret2
        exact ⟨v3, by rw [HRW.out]; rfl, by rw [HRW.out]; exact hv3, B3.out⟩
  · have tn : (fe != 0) = true := by simpa using he
    rw [if_pos he] at HRW
    go_enter Tryz.func11, Tryz.ntmps11
    go_wp2_with fail
    refine HFD.out.mono ?_
    rintro e w2 ⟨rfl, hb⟩
    have B2 := Lib.hid (on B1.out hb)
    clear hb hw1
    go_wp2_with fail
    go_ret2
    exact ⟨.slice none 0 0, by rw [HRW.out]; rfl, by rw [HRW.out]; exact recs_nil _ _ _ _, B2.out⟩
end Go.Proofs.YtpihldcchjoinaaGreatDoor.W12
/-
  Layer 9 (posix): what the laws ask of the program's calls, as a structure of contracts over any reading of a tree ('Posix'); the calls of a nil pointer ('NoPosix'). No condition but those that each theorem bears.
-/
namespace Go.Proofs.YtpihldcchjoinaaGreatDoor.W09
open Go Go.RowKit Go.Proofs.YtpihldcchjoinaaGreatDoor.Strs Go.Proofs.YtpihldcchjoinaaGreatDoor.Recs Go.Proofs.YtpihldcchjoinaaGreatDoor.Range
open Go.Proofs.YtpihldcchjoinaaGreatDoor.M07 (Tr Nd nodeAt inDir Right listDir)
open Go.Proofs.YtpihldcchjoinaaGreatDoor.M08 Go.Proofs.YtpihldcchjoinaaGreatDoor.M09
open Go.Proofs.YtpihldcchjoinaaGreatDoor.W07 (Small Trees Wrote)

open Go.Proofs.YtpihldcchjoinaaGreatDoor.Kit (ret_str ret_bool ret_int mk_of mk_bytes ba_ext below_draws on)

abbrev Bytes := List UInt8
abbrev Good (t : Tr) : Prop := W08.Good t
/-- what is told of a node, as a value -/
def statV (x : Int × Int × Int) : Value := .agg #[.int .i64 x.1, .int .i64 x.2.1, .int .i64 x.2.2]
/-- do two paths lead to one node? -/
def same (t : Tr) (a b : Bytes) : Bool := decide ((find t a true).2 = 0 ∧ (find t b true).2 = 0 ∧ (find t a true).1 = (find t b true).1)
/-- names are handed out, and an error's number -/
def HandsT (w : World) (R : List Bytes × Int) (e : Ending) (w' : World) : Prop := ∃ u, e = .returned (.tuple #[u, .int .i64 R.2]) ∧ Texts w'.heap.size w' u R.1 ∧ Below w.heap.size w w'
structure Posix (Rep : (Nat → Prop) → World → Value → Tr → Prop) : Prop where
  lstat : ∀ {F w v t}, Rep F w v t → Good t → ∀ (p : ByteArray), p.size ≤ 1048576 → Calls Tryz.prog 71 #[v, .string p] w fun e w' => e = .returned (.tuple #[statV (M09.stat t p.data.toList false).1, .int .i64 (M09.stat t p.data.toList false).2]) ∧ Below w.heap.size w w'
  mkdir : ∀ {F w v t}, Rep F w v t → Good t → ∀ (p : ByteArray), p.size ≤ 1048576 → Calls Tryz.prog 72 #[v, .string p] w fun e w' => e = .returned (.int .i64 (putAt t p.data.toList 1 []).2) ∧ Wrote Rep F v (putAt t p.data.toList 1 []).1 w w'
  symlink : ∀ {F w v t}, Rep F w v t → Good t → ∀ (x p : ByteArray), x.size ≤ 1048576 → p.size ≤ 1048576 → Calls Tryz.prog 73 #[v, .string x, .string p] w fun e w' => e = .returned (.int .i64 (putAt t p.data.toList 3 x.data.toList).2) ∧ Wrote Rep F v (putAt t p.data.toList 3 x.data.toList).1 w w'
  write : ∀ {F w v t}, Rep F w v t → Good t → ∀ (p x : ByteArray), p.size ≤ 1048576 → x.size ≤ 1048576 → Calls Tryz.prog 74 #[v, .string p, .string x] w fun e w' => e = .returned (.int .i64 (M09.write t p.data.toList x.data.toList).2) ∧ Wrote Rep F v (M09.write t p.data.toList x.data.toList).1 w w'
/-- the calls of a nil pointer -/
def Tells (u : Value) (w : World) (e : Ending) (w' : World) : Prop := e = .returned u ∧ Below w.heap.size w w'
structure NoPosix : Prop where
  lstat : ∀ w (p : ByteArray), Calls Tryz.prog 71 #[.pointer none, .string p] w (Tells (.tuple #[statV (0, 0, 0), .int .i64 1]) w)
  mkdir : ∀ w (p : ByteArray), Calls Tryz.prog 72 #[.pointer none, .string p] w (Tells (.int .i64 1) w)
  symlink : ∀ w (x p : ByteArray), Calls Tryz.prog 73 #[.pointer none, .string x, .string p] w (Tells (.int .i64 1) w)
  write : ∀ w (p x : ByteArray), Calls Tryz.prog 74 #[.pointer none, .string p, .string x] w (Tells (.int .i64 1) w)

/-! a tree stays good while few acts are done -/
/-- of at most n nodes and numbers -/
structure Within (t : Tr) (n : Nat) : Prop where
  right : Right t
  fit : Fit t
  named : Named t
  len : t.L.length ≤ n
  last : t.last ≤ n
theorem Within.good {t : Tr} {n : Nat} (h : Within t n) (hn : n ≤ 1048576) : Good t := ⟨⟨Nat.le_trans h.len hn, by have := h.last; omega⟩, h.fit, h.named⟩
theorem Within.next {t t' : Tr} {n : Nat} (h : Within t n) (k : Kept t t') : Within t' (n + 1) := ⟨k.right h.right, k.fit h.fit, k.named h.named, by have := k.len; have := h.len; omega, by have := k.last; have := h.last; omega⟩
theorem Within.more {t : Tr} {n m : Nat} (h : Within t n) (hm : n ≤ m) : Within t m := ⟨h.right, h.fit, h.named, Nat.le_trans h.len hm, by have := h.last; omega⟩
theorem made_within {l : List W08.Sn} (h : l.length ≤ 60) : Within (W08.made l).1 61 := by
  have := W08.made_is l l.length (Nat.le_refl _)
  rw [List.take_length] at this
  exact ⟨this.right, this.fit, this.named, by have := this.len; omega, by have := this.last; omega⟩
end Go.Proofs.YtpihldcchjoinaaGreatDoor.W09
/-
  Layer 8 (seek), walks: the plain answers Spot, Real and Straight; new memory may be laid, nothing that was there is changed. The conditions stand in the statements.
-/
namespace Go.Proofs.YtpihldcchjoinaaGreatDoor.W08
set_option maxRecDepth 100000
open Go Go.RowKit Go.Proofs.YtpihldcchjoinaaGreatDoor.Strs Go.Proofs.YtpihldcchjoinaaGreatDoor.Recs
open Go.Proofs.YtpihldcchjoinaaGreatDoor.M07 (Tr nodeAt inDir Right)
open Go.Proofs.YtpihldcchjoinaaGreatDoor.M08 Go.Proofs.YtpihldcchjoinaaGreatDoor.M04
open Go.Proofs.YtpihldcchjoinaaGreatDoor.W07 (Nodes nodeV)
open Go.Proofs.YtpihldcchjoinaaGreatDoor.M03 (check)
open Go.Proofs.YtpihldcchjoinaaGreatDoor.Kit (ret_str ret_bool ret_int mk_of mk_bytes ba_ext below_draws on list_full list_ne list_none list_nil bytes_nil bytes_ne)

theorem ret_spot {a : Int} {b : ByteArray} {c : Int} {r : Int × Bytes × Int} (h : r = (a, b.data.toList, c)) : Ending.returned (.tuple #[.int .i64 a, .string b, .int .i64 c]) = .returned (.tuple #[.int .i64 r.1, .string ⟨r.2.1.toArray⟩, .int .i64 r.2.2]) := by
  rw [h]
theorem drop_len {P : List Bytes} {m : Nat} (h : P.length = m + 1) : P.dropLast.length = m := by rw [List.length_dropLast, h]; rfl
set_option maxHeartbeats 8000000 in
theorem refSpot_any (t : Tr) (hfit : Fit t) (htl : t.L.length ≤ 1048576) (u : Value) (s : ByteArray) (w : World) (hu : Nodes w.heap.size w u t.L) :
    Calls Tryz.prog 75 #[.agg #[u, .int .i64 t.last], .string s] w fun e w' => e = .returned (.tuple #[.int .i64 (spot t s.data.toList).1, .string ⟨(spot t s.data.toList).2.1.toArray⟩, .int .i64 (spot t s.data.toList).2.2]) ∧ Below w.heap.size w w' := by
  obtain ⟨Au, cu, rfl, hu1, hu2⟩ := hu.form
  have HU := Lib.hid hu
  clear hu
  by_cases h0 : 0 < s.size
  · have hne : ¬ s.data.toList = [] := bytes_ne h0
    have e1 := list_full h0
    have e2 := list_ne h0
    by_cases h1 : s.size ≤ 1024
    · have hl : ¬ 1024 < s.data.toList.length := by rw [← Lib.size_eq]; omega
      have HF : Hid (spot t s.data.toList = if parts s.data.toList = [] ∨ (parts s.data.toList).getLastD [] = [46, 46] then (0, [], 6) else
          let g := goTo t 1 (parts s.data.toList).dropLast true 0
          let e := if g.2.2 ≠ 0 then g.2.2 else if (nodeAt t.L g.1).kind ≠ 1 then 7 else check ((parts s.data.toList).getLastD [])
          if e ≠ 0 then (0, [], e) else (g.1, (parts s.data.toList).getLastD [], 0)) := by
        show _ = _
        unfold spot
        rw [if_neg hne, if_neg hl]
      have HPT := Lib.hid (fun w' => W04.refParts_any s (by omega) w')
      have hpl := parts_len s.data.toList
      rw [← Lib.size_eq] at hpl
      have HGO := Lib.hid (fun (w' : World) (v : Value) (hb : Below w.heap.size w w') (ht : Texts w'.heap.size w' v (parts s.data.toList).dropLast) => refGo_any t hfit htl 40 (parts s.data.toList).dropLast 1 true 0 (.slice Au t.L.length cu) v w' rfl (by rw [List.length_dropLast]; omega) ((HU.out.below hb).more hb.size) ht)
      have HAT := Lib.hid (fun (w' : World) (n : Int) (hb : Below w.heap.size w w') => W07.refAt_any (.slice Au t.L.length cu) t.L t.last n w.heap.size w' (HU.out.below hb) hb.size (by omega))
      generalize spot t s.data.toList = R at *
      generalize parts s.data.toList = PL at *
      obtain ⟨w1, hw1⟩ : ∃ w1 : World, w.alloc (.cells #[.slice Au t.L.length cu, .int .i64 t.last] 28) = w1 := ⟨_, rfl⟩
      have B1 : Below w.heap.size w w1 := by rw [← hw1]; exact (Below.refl _ _).alloc (Nat.le_refl _) _
      have hs1 : w.heap.size < w1.heap.size := by rw [← hw1]; simp
      have x0 : w1.cell? ⟨w.heap.size, 0, none⟩ = some (.slice Au t.L.length cu) := by rw [← hw1]; simp
      have x1 : w1.cell? ⟨w.heap.size, 1, none⟩ = some (.int .i64 t.last) := by rw [← hw1]; simp
      have HB1 := Lib.hid B1
      clear hl hne B1
      go_enter Tryz.func75, Tryz.ntmps75
      go_wp2_with fail
      clear hw1
      refine (HPT.out _).mono ?_
      rintro e w2 ⟨v, rfl, hown2, hb2⟩
      have B2 := Lib.hid (on HB1.out hb2)
      have T2 := Lib.hid (Texts.of_own hown2)
      by_cases h0 : 0 < PL.length
      · obtain ⟨m, hm1⟩ : ∃ m, PL.length = m + 1 := ⟨PL.length - 1, by omega⟩
        have hown3 := hown2
        rw [hm1] at hown2
        obtain ⟨g, cc, rfl, hc1, hc2, hless⟩ := own_less hown2
        rw [W04.take_drop_map hm1] at hless
        have T : Hid (Texts w2.heap.size w2 (.slice (some ⟨g, 0, none⟩) m cc) PL.dropLast) := by
          have e := drop_len hm1
          exact Texts.of_own (by rw [← e] at hless; rw [← e]; exact hless)
        have TT := T2.out
        obtain ⟨ad, q, hA, hbl, hcell, hq⟩ := TT.at_ (k := m) (by omega)
        cases hA
        rw [Addr.add_lit, Nat.zero_add] at hcell
        have HQ : Hid (PL.getLastD [] = q.data.toList) := by
          show _ = _
          rw [hq, List.getLastD_eq_getLast?, List.getLast?_eq_getElem?, List.getD_eq_getElem?_getD, hm1, Nat.add_sub_cancel]
        rw [HQ.out] at HF
        have hPn : PL ≠ [] := fun e => by rw [e] at h0; simp at h0
        have y0 : w2.cell? ⟨w.heap.size, 0, none⟩ = some (.slice Au t.L.length cu) := (hb2.cell hs1).trans x0
        have y1 : w2.cell? ⟨w.heap.size, 1, none⟩ = some (.int .i64 t.last) := (hb2.cell hs1).trans x1
        have hs2 : w.heap.size < w2.heap.size := Nat.lt_of_lt_of_le hs1 hb2.size
        have hg2 : g < w2.heap.size := hbl
        clear hless hown2 hown3 hb2 hq T2 x0 x1
        unfold maxLen at hc2
        by_cases hdd : q.data.toList = [46, 46]
        · have HX : Hid (R = (0, [], 6)) := HF.out.trans (if_pos (Or.inr hdd))
          have ts : (q.toList == [46, 46]) = true := by rw [Lib.toList_data, hdd]; rfl
          clear HF hdd
          go_wp2_with fail
          go_ret3
          exact ⟨ret_spot (b := ⟨#[]⟩) HX.out, B2.out⟩
        · have HX : Hid (R = if (if (goTo t 1 PL.dropLast true 0).2.2 ≠ 0 then (goTo t 1 PL.dropLast true 0).2.2 else if (nodeAt t.L (goTo t 1 PL.dropLast true 0).1).kind ≠ 1 then 7 else check q.data.toList) ≠ 0 then (0, [], if (goTo t 1 PL.dropLast true 0).2.2 ≠ 0 then (goTo t 1 PL.dropLast true 0).2.2 else if (nodeAt t.L (goTo t 1 PL.dropLast true 0).1).kind ≠ 1 then 7 else check q.data.toList) else ((goTo t 1 PL.dropLast true 0).1, q.data.toList, 0)) := HF.out.trans (if_neg (by rintro (e | e); exact hPn e; exact hdd e))
          have ts : (q.toList == [46, 46]) = false := by rw [Lib.toList_data, beq_eq_false_iff_ne]; exact hdd
          have HC := Lib.hid (W03.refCheck_any q)
          generalize goTo t 1 PL.dropLast true 0 = G at *
          obtain ⟨gn, gh, ge⟩ := G
          have HX : Hid (R = if (if ge ≠ 0 then ge else if (nodeAt t.L gn).kind ≠ 1 then 7 else check q.data.toList) ≠ 0 then (0, [], if ge ≠ 0 then ge else if (nodeAt t.L gn).kind ≠ 1 then 7 else check q.data.toList) else (gn, q.data.toList, 0)) := HX.out
          have q6 : IntKind.i64.wrap (m : Int) = m := by rw [IntKind.wrap_i64]; omega
          have q1 : (0 : Int) ≤ (m : Int) := by omega
          have q2 : (m : Int) ≤ (cc : Int) := by omega
          clear HF hdd
          go_wp2_with fail
          go_region_held3 (fun w' => w'.cell? ⟨w.heap.size, 0, none⟩ = some (.slice Au t.L.length cu) ∧ w'.cell? ⟨w.heap.size, 1, none⟩ = some (.int .i64 t.last) ∧ Below w2.heap.size w2 w')
            (first | exact box_on hs2 (by assumption) hb4 | exact ⟨y0, y1, (Below.refl _ _).drew⟩ | go_keep)
            (first
              | (go_at_call 67; refine (HGO.out _ _ (on B2.out (box_below (by assumption))) (T.out.below (box_below (by assumption)) |>.more (box_below (w1 := w2) (by assumption)).size)).mono ?_; rintro e w4 ⟨rfl, hb4⟩))
          have hS := (by assumption : w4.cell? ⟨w.heap.size, 0, none⟩ = some (.slice Au t.L.length cu) ∧ w4.cell? ⟨w.heap.size, 1, none⟩ = some (.int .i64 t.last) ∧ Below w2.heap.size w2 w4)
          have z0 := hS.1
          have z1 := hS.2.1
          have hcell4 : w4.cell? ⟨g, m, none⟩ = some (.string q) := (hS.2.2.cell (by show g < _; exact hg2)).trans hcell
          have hg4 : g < w4.heap.size := Nat.lt_of_lt_of_le hg2 hS.2.2.size
          have B4 := Lib.hid (on B2.out hS.2.2)
          have HA := Lib.hid (HAT.out w4 gn B4.out)
          unfold nodeV at HA
          clear hS hb4 y0 y1 hcell T TT HGO
          by_cases hg0 : ge = 0
          · subst hg0
            have HX : Hid (R = if (if (nodeAt t.L gn).kind ≠ 1 then 7 else check q.data.toList) ≠ 0 then (0, [], if (nodeAt t.L gn).kind ≠ 1 then 7 else check q.data.toList) else (gn, q.data.toList, 0)) := HX.out
            generalize nodeAt t.L gn = x at *
            have hf := W07.field_kind x.num x.up ⟨x.name.toArray⟩ x.kind ⟨x.data.toArray⟩
            by_cases hk : x.kind = 1
            · have HX : Hid (R = if check q.data.toList ≠ 0 then (0, [], check q.data.toList) else (gn, q.data.toList, 0)) := by have := HX.out; rw [if_neg (show ¬ x.kind ≠ 1 from fun e => e hk)] at this; exact this
              have tk : (x.kind != 1) = false := by simp [hk]
              generalize check q.data.toList = ce at *
              clear hk
              go_wp2_with fail
              refine HA.out.mono ?_
              rintro e w5 ⟨rfl, hb5⟩
              have hcell5 : w5.cell? ⟨g, m, none⟩ = some (.string q) := (hb5.cell (by show g < _; exact hg4)).trans hcell4
              have B5 := Lib.hid (on B4.out hb5)
              clear hb5 hcell4 z0 z1 HA
              go_wp2_with fail
              refine (HC.out _).mono ?_
              rintro e w6 ⟨rfl, hw⟩
              have hw := hw.symm
              subst hw
              by_cases hce : ce = 0
              · have HX : Hid (R = (gn, q.data.toList, 0)) := HX.out.trans (if_neg (show ¬ ce ≠ 0 from fun e => e hce))
                subst hce
                go_wp2_with fail
                go_quiet (fail)
                go_wp2_with fail
                go_ret3
                exact ⟨ret_spot HX.out, on B5.out (below_draws _ _)⟩
              · have HX : Hid (R = (0, [], ce)) := HX.out.trans (if_pos hce)
                have t1 : (ce != 0) = true := by simpa using hce
                go_wp2_with fail
                go_ret3
                exact ⟨ret_spot (b := ⟨#[]⟩) HX.out, B5.out⟩
            · have HX : Hid (R = (0, [], 7)) := by have := HX.out; rw [if_pos hk, if_pos (by decide)] at this; exact this
              have tk : (x.kind != 1) = true := by simpa using hk
              clear hk
              go_wp2_with fail
              refine HA.out.mono ?_
              rintro e w5 ⟨rfl, hb5⟩
              have B5 := Lib.hid (on B4.out hb5)
              clear hb5 hcell4 z0 z1 HA
              go_wp2_with fail
              go_ret3
              exact ⟨ret_spot (b := ⟨#[]⟩) HX.out, B5.out⟩
          · have HX : Hid (R = (0, [], ge)) := by have := HX.out; rw [if_pos hg0, if_pos hg0] at this; exact this
            have t0 : (ge == 0) = false := by simpa using hg0
            have t1 : (ge != 0) = true := by simpa using hg0
            clear hg0 z0 z1 hcell4 HA
            go_wp2_with fail
            go_ret3
            exact ⟨ret_spot (b := ⟨#[]⟩) HX.out, B4.out⟩
      · have e0 : PL = [] := W04.flat_none h0
        subst e0
        have HX : Hid (R = (0, [], 6)) := HF.out.trans (if_pos (Or.inl rfl))
        obtain ⟨A, cc, rfl, -, -⟩ := T2.out.form
        clear hown2 hb2 h0 HF T2
        go_wp2_with fail
        go_ret3
        exact ⟨ret_spot (b := ⟨#[]⟩) HX.out, B2.out⟩
    · have hl : 1024 < s.data.toList.length := by rw [← Lib.size_eq]; omega
      have HF : Hid (spot t s.data.toList = (0, [], 11)) := by
        show _ = _
        unfold spot
        rw [if_neg hne, if_pos hl]
      generalize spot t s.data.toList = R at *
      clear hl hne
      go_enter Tryz.func75, Tryz.ntmps75
      go_wp2_with fail
      go_ret3
      exact ⟨ret_spot (b := ⟨#[]⟩) HF.out, (Below.refl _ _).alloc (Nat.le_refl _) _⟩
  · have hne : s.data.toList = [] := bytes_nil h0
    have e1 := list_none h0
    have e2 := list_nil h0
    have HF : Hid (spot t s.data.toList = (0, [], 5)) := by
      show _ = _
      unfold spot
      rw [if_pos hne]
    generalize spot t s.data.toList = R at *
    clear hne
    go_enter Tryz.func75, Tryz.ntmps75
    go_wp2_with fail
    go_ret3
    exact ⟨ret_spot (b := ⟨#[]⟩) HF.out, (Below.refl _ _).alloc (Nat.le_refl _) _⟩
end Go.Proofs.YtpihldcchjoinaaGreatDoor.W08
