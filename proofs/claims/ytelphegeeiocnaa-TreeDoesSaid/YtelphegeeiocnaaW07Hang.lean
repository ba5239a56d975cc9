/-
  Layer 7 (tree), walks: the landed code's hang and unhang: a node's name in a directory's list. The bounds stand in the statements.
-/
import Derived.Test.YtelphegeeiocnaaW07Mem
import Derived.BigRegion
namespace Go.Proofs.Ytelphegeeiocnaa.W07
open Go Go.RowKit Go.Proofs.Ytelphegeeiocnaa.Strs Go.Proofs.Ytelphegeeiocnaa.Recs Go.Proofs.Ytelphegeeiocnaa.M07 Go.Proofs.Ytelphegeeiocnaa.Maps Go.Proofs.Ytelphegeeiocnaa.Range
open Go.Proofs.Ytelphegeeiocnaa.M06 (Ent)
open Go.Proofs.Ytelphegeeiocnaa.W06 (Ents HandsE)
open Go.Proofs.Ytelphegeeiocnaa.Kit (ret_str ret_bool ret_int mk_of mk_bytes ba_ext below_draws on)

/-- behind a call that has written the tree's memory -/
def Left (F : Nat → Prop) (w w' : World) (sb mb : Nat) (g : Int → Nod) (last : Int) (m : Nat) : Prop :=
  ∃ F' lv', Mem F' w' sb mb g lv' last m ∧ Turns F w w' ∧ ∀ k, F' k → F k ∨ w.heap.size ≤ k
section
variable {F : Nat → Prop} {w w1 w2 : World} {sb mb : Nat} {g : Int → Nod} {lv : Int → Value} {last : Int} {m : Nat} {p : Nat} {x : Nod} {u : Value}
/-- a local copy of a node with another list in it, the tree as it was -/
theorem open_list (h : Mem F w sb mb g lv last m) (hb : Below w.heap.size w w1) (hp : w.heap.size ≤ p) (L : List Ent) (hbox : NodBox w1 p x u) (u' : Value) (hb2 : Below w1.heap.size w1 w2) (hu : Ents w2.heap.size w2 u' L) (hN : ∀ b o n c, u' = .slice (some ⟨b, o, none⟩) n c → w1.heap.size ≤ b) :
    Mem (More F w.heap.size (w2.setCell ⟨p, 3, none⟩ u')) (w2.setCell ⟨p, 3, none⟩ u') sb mb g lv last m ∧ NodBox (w2.setCell ⟨p, 3, none⟩ u') p { x with list := L } u' ∧ Ents (w2.setCell ⟨p, 3, none⟩ u').heap.size (w2.setCell ⟨p, 3, none⟩ u') u' L ∧ (∀ b o c d, 0 < L.length → u' = .slice (some ⟨b, o, none⟩) c d → More F w.heap.size (w2.setCell ⟨p, 3, none⟩ u') b) ∧ Below w.heap.size w (w2.setCell ⟨p, 3, none⟩ u') := by
  have h2 := h.below (on hb hb2)
  have hbx := hbox.below hb2
  have hB : Below w.heap.size w (w2.setCell ⟨p, 3, none⟩ u') := (on hb hb2).setCell hp u'
  have hu2 : Ents w2.heap.size (w2.setCell ⟨p, 3, none⟩ u') u' L := ents_keep hu fun b o c d _ _ e => Below.heap_setCell _ _ _ _ (by
    have h1 := hN b o c d e
    have h2 := hbox.lt
    show b ≠ p
    omega)
  have hu3 : Ents w2.heap.size (w2.setCell ⟨p, 3, none⟩ u') u' L := hu2
  refine ⟨(h.below hB).more _, hbx.set3 L u', by rw [set_size]; exact hu2, fun b o c d e0 e => ?_, hB⟩
  subst e
  obtain ⟨b', o', hl, e, hb', -⟩ := Recs.flat_ hu3 W06.entC_len (by omega) (k := 0) (by
    obtain ⟨A, c', e, -⟩ := hu3.form
    injection e with e1 e2
    omega)
  cases e
  exact Or.inr ⟨Nat.le_trans hb.size (hN b o c d rfl), by rw [set_size]; exact hb'⟩
set_option maxHeartbeats 2000000 in
set_option maxRecDepth 100000 in
theorem unhang_any (h : Mem F w sb mb g lv last m) (hs : Short g) (hm : m ≤ 1073741824) (d : Int) (s : ByteArray) (hd : (g d).kind ≠ 0) :
    Calls Try.prog 29 #[.pointer (some ⟨sb, 0, none⟩), .int .i64 d, .string s] w fun e w' => e = .returned (.tuple #[]) ∧ Left F w w' sb mb (unhangN g d s.data.toList) last m := by
  obtain ⟨A, c, e⟩ := h.form d
  have hE := h.list d
  have HL := Lib.hid (h.look d)
  rw [e] at hE HL
  have c0 := h.box.c0
  have HM := Lib.hid h.map
  have hsd := hs d
  have hwf := Lib.hid (h.wf hd)
  obtain ⟨w1, hw1⟩ : ∃ w1, w.alloc (.cells #[.int .i64 (g d).kind, .int .i64 (g d).up, .string ⟨(g d).data.toArray⟩, .slice A (g d).list.length c] 51) = w1 := ⟨_, rfl⟩
  have X1 : Hid (NodBox w1 w.heap.size (g d) (.slice A (g d).list.length c)) := by rw [← hw1]; exact NodBox.new _ _ _
  have B1 : Hid (Below w.heap.size w w1) := by rw [← hw1]; exact (Below.refl _ _).alloc (Nat.le_refl _) _
  have x3 := X1.out.c3
  have HC := Lib.hid (W06.cut_new (.slice A (g d).list.length c) (g d).list w1 s ((hE.below B1.out).more B1.out.size) (by omega))
  have H := Lib.hid h
  have HD := Lib.hid hd
  clear h hs e hE hsd hd
  generalize (g d).list.length = n0 at *
  go_enter Try.func29, Try.ntmps29
  go_wp2_with (at_lookup; refine wpList_look _ rfl _ _ 52 rfl 3 51 key_under map_under (zero_node _) mb m (held g lv) rfl HM.out d rfl (.agg #[.int .i64 (g d).kind, .int .i64 (g d).up, .string ⟨(g d).data.toArray⟩, .slice A n0 c]) HL.out ?_)
  clear hw1
  refine HC.out.mono ?_
  rintro e w2 ⟨u, rfl, hu, hnew, hb⟩
  obtain ⟨A2, c2, rfl, -, -⟩ := hu.form
  obtain ⟨q1, q2, q3, q4, q5⟩ := open_list H.out B1.out (Nat.le_refl _) _ X1.out _ hb hu hnew
  have frz := (X1.out.below hb).fr 3
  have old := (X1.out.below hb).c3
  clear hu hnew hb HM c0 x3
  generalize hL : (M06.cut (g d).list s.data.toList).length = n2 at *
  obtain ⟨w3, hw3⟩ : ∃ w3, w2.setCell ⟨w.heap.size, 3, none⟩ (.slice A2 n2 c2) = w3 := ⟨_, rfl⟩
  rw [hw3] at q1 q2 q3 q4 q5
  have M3 := Lib.hid q1
  have U3 := Lib.hid q3
  have N3 := Lib.hid q4
  have B3 := Lib.hid q5
  have y0 := q2.c0
  have y1 := q2.c1
  have y2 := q2.c2
  have y3 := q2.c3
  have c0 := q1.box.c0
  have hk := hwf.out
  clear q1 q3 q4 q5
  have hmp : MapIs w3.drew Try.prog 3 mb (held g lv) m := M3.out.map.keep rfl
  have hst := hmp.store (t := 52) (e := 51) key_under map_under (by unfold maxLen; omega) (n := d) hwf.out (.agg #[.int .i64 (g d).kind, .int .i64 (g d).up, .string ⟨(g d).data.toArray⟩, .slice A2 n2 c2])
  obtain ⟨w4, hrun, map4, turn4⟩ := hst
  go_wp2_with fail
  clear hw3
  go_region
  go_end0
  have e4 : (held g lv d).isSome = true := by rw [H.out.some_ HD.out]; rfl
  rw [if_pos e4] at map4
  exact ⟨rfl, _, _, Mem.stored (M3.out.keep (w' := w3.drew) (fun _ _ => rfl) (Nat.le_refl _)) (x := { g d with list := M06.cut (g d).list s.data.toList }) (u := .slice A2 n2 c2) HD.out U3.out (by rw [hL]; exact N3.out) map4 turn4,
    narrow (((Turns.new B3.out).trans (drew_turns _ _)).trans (turned_turns turn4 (Or.inl H.out.fm))), fun k hk => hk.imp id And.left⟩
/-- a local copy of a node with another directory in it, the tree as it was -/
theorem open_up (h : Mem F w sb mb g lv last m) (x : Nod) (u : Value) (d : Int) :
    Mem F ((w.alloc (.cells #[.int .i64 x.kind, .int .i64 x.up, .string ⟨x.data.toArray⟩, u] 51)).setCell ⟨w.heap.size, 1, none⟩ (.int .i64 d)) sb mb g lv last m ∧ NodBox ((w.alloc (.cells #[.int .i64 x.kind, .int .i64 x.up, .string ⟨x.data.toArray⟩, u] 51)).setCell ⟨w.heap.size, 1, none⟩ (.int .i64 d)) w.heap.size { x with up := d } u ∧ Below w.heap.size w ((w.alloc (.cells #[.int .i64 x.kind, .int .i64 x.up, .string ⟨x.data.toArray⟩, u] 51)).setCell ⟨w.heap.size, 1, none⟩ (.int .i64 d)) := by
  have hB : Below w.heap.size w ((w.alloc (.cells #[.int .i64 x.kind, .int .i64 x.up, .string ⟨x.data.toArray⟩, u] 51)).setCell ⟨w.heap.size, 1, none⟩ (.int .i64 d)) := ((Below.refl _ _).alloc (Nat.le_refl _) _).setCell (Nat.le_refl _) _
  exact ⟨h.below hB, (NodBox.new w x u).set1 d, hB⟩
set_option maxHeartbeats 4000000 in
set_option maxRecDepth 100000 in
theorem hang_any (h : Mem F w sb mb g lv last m) (hs : Short g) (hm : m ≤ 1073741824) (d : Int) (s : ByteArray) (n : Int) (hd : (g d).kind ≠ 0) (hn : (g n).kind ≠ 0) :
    Calls Try.prog 25 #[.pointer (some ⟨sb, 0, none⟩), .int .i64 d, .string s, .int .i64 n] w fun e w' => e = .returned (.tuple #[]) ∧ Left F w w' sb mb (hangN g d s.data.toList n) last m := by
  obtain ⟨A, c, e⟩ := h.form d
  have hE := h.list d
  have HL := Lib.hid (h.look d)
  rw [e] at hE HL
  have c0 := h.box.c0
  have HM := Lib.hid h.map
  have hsd := hs d
  have hwf := Lib.hid (h.wf hd)
  have hwn := Lib.hid (h.wf hn)
  obtain ⟨w1, hw1⟩ : ∃ w1, w.alloc (.cells #[.int .i64 (g d).kind, .int .i64 (g d).up, .string ⟨(g d).data.toArray⟩, .slice A (g d).list.length c] 51) = w1 := ⟨_, rfl⟩
  have X1 : Hid (NodBox w1 w.heap.size (g d) (.slice A (g d).list.length c)) := by rw [← hw1]; exact NodBox.new _ _ _
  have B1 : Hid (Below w.heap.size w w1) := by rw [← hw1]; exact (Below.refl _ _).alloc (Nat.le_refl _) _
  have x3 := X1.out.c3
  have HC := Lib.hid (W06.put_new (.slice A (g d).list.length c) (g d).list w1 s n ((hE.below B1.out).more B1.out.size) (by omega))
  have H := Lib.hid h
  have HD := Lib.hid hd
  have HN := Lib.hid hn
  clear h hs e hE hsd hd hn
  generalize (g d).list.length = n0 at *
  go_enter Try.func25, Try.ntmps25
  go_wp2_with (at_lookup; refine wpList_look _ rfl _ _ 52 rfl 3 51 key_under map_under (zero_node _) mb m (held g lv) rfl HM.out d rfl (.agg #[.int .i64 (g d).kind, .int .i64 (g d).up, .string ⟨(g d).data.toArray⟩, .slice A n0 c]) HL.out ?_)
  clear hw1
  refine HC.out.mono ?_
  rintro e w2 ⟨u, rfl, hu, hnew, hb⟩
  obtain ⟨A2, c2, rfl, -, -⟩ := hu.form
  obtain ⟨q1, q2, q3, q4, q5⟩ := open_list H.out B1.out (Nat.le_refl _) _ X1.out _ hb hu hnew
  have frz := (X1.out.below hb).fr 3
  have old := (X1.out.below hb).c3
  clear hu hnew hb HM c0 x3 HC X1 HL
  generalize hL : (M06.put (g d).list (s.data.toList, n)).length = n2 at *
  have HLL := Lib.hid hL
  clear hL
  obtain ⟨w3, hw3⟩ : ∃ w3, w2.setCell ⟨w.heap.size, 3, none⟩ (.slice A2 n2 c2) = w3 := ⟨_, rfl⟩
  rw [hw3] at q1 q2 q3 q4 q5
  have M3 := Lib.hid q1
  have U3 := Lib.hid q3
  have N3 := Lib.hid q4
  have B3 := Lib.hid q5
  have y0 := q2.c0
  have y1 := q2.c1
  have y2 := q2.c2
  have y3 := q2.c3
  have c0 := q1.box.c0
  clear q1 q2 q3 q4 q5
  have hmp : MapIs w3.drew Try.prog 3 mb (held g lv) m := M3.out.map.keep rfl
  have hst := hmp.store (t := 52) (e := 51) key_under map_under (by unfold maxLen; omega) (n := d) hwf.out (.agg #[.int .i64 (g d).kind, .int .i64 (g d).up, .string ⟨(g d).data.toArray⟩, .slice A2 n2 c2])
  obtain ⟨w4, hrun, map4, turn4⟩ := hst
  have e4 : (held g lv d).isSome = true := by rw [H.out.some_ HD.out]; rfl
  rw [if_pos e4] at map4
  have M4 := Lib.hid (Mem.stored (M3.out.keep (w' := w3.drew) (fun _ _ => rfl) (Nat.le_refl _)) (x := { g d with list := M06.put (g d).list (s.data.toList, n) }) (u := .slice A2 n2 c2) HD.out U3.out (by rw [HLL.out]; exact N3.out) map4 turn4)
  have T4 := Lib.hid (((Turns.new (T := fun k => F k ∨ w.heap.size ≤ k) B3.out).trans (drew_turns _ _)).trans (turned_turns turn4 (Or.inl H.out.fm)))
  clear map4 turn4 hmp e4
  go_wp2_with fail
  clear hw3
  go_region
  clear hrun y0 y1 y2 y3 c0 frz old
  -- the node itself
  obtain ⟨g1, hg1⟩ : ∃ g1, upd g d { g d with list := M06.put (g d).list (s.data.toList, n) } = g1 := ⟨_, rfl⟩
  have HG : Hid (hangN g d s.data.toList n = upd g1 n { g1 n with up := d }) := by rw [← hg1]; rfl
  have hk1 : Hid ((g1 n).kind ≠ 0) := by
    rw [← hg1]
    show (upd g d _ n).kind ≠ 0
    unfold upd
    split
    · exact HD.out
    · exact HN.out
  rw [hg1] at M4
  generalize upd lv d (.slice A2 n2 c2) = lv1 at *
  have HF : Hid (∀ k, More F w.heap.size w3 k → F k ∨ w.heap.size ≤ k) := fun k hk => hk.imp id And.left
  clear hg1 M3 U3 N3 B3
  generalize More F w.heap.size w3 = F1 at *
  obtain ⟨A4, c4, e⟩ := M4.out.form n
  have HL := Lib.hid (M4.out.look n)
  have U4 := Lib.hid (M4.out.list n)
  have N4 := Lib.hid (fun b o c d h0 => M4.out.at_ n b o c d h0)
  rw [e] at HL U4 N4
  have HM := Lib.hid M4.out.map
  have c0 := M4.out.box.c0
  generalize hL : (g1 n).list.length = n4 at *
  have HLL := Lib.hid hL
  clear hL e
  obtain ⟨q1, q2, q5⟩ := open_up M4.out (g1 n) (.slice A4 n4 c4) d
  obtain ⟨w6, hw6⟩ : ∃ w6, (w4.alloc (.cells #[.int .i64 (g1 n).kind, .int .i64 (g1 n).up, .string ⟨(g1 n).data.toArray⟩, .slice A4 n4 c4] 51)).setCell ⟨w4.heap.size, 1, none⟩ (.int .i64 d) = w6 := ⟨_, rfl⟩
  rw [hw6] at q1 q2 q5
  have M6 := Lib.hid q1
  have B6 := Lib.hid q5
  have y0 := q2.c0
  have y1 := q2.c1
  have y2 := q2.c2
  have y3 := q2.c3
  have d0 := q1.box.c0
  clear q1 q2 q5
  have hmp : MapIs w6.drew Try.prog 3 mb (held g1 lv1) m := M6.out.map.keep rfl
  have hst := hmp.store (t := 52) (e := 51) key_under map_under (by unfold maxLen; omega) (n := n) hwn.out (.agg #[.int .i64 (g1 n).kind, .int .i64 d, .string ⟨(g1 n).data.toArray⟩, .slice A4 n4 c4])
  obtain ⟨w7, hrun, map7, turn7⟩ := hst
  go_wp2_with (at_lookup; refine wpList_look _ rfl _ _ 52 rfl 3 51 key_under map_under (zero_node _) mb m (held g1 lv1) rfl HM.out n rfl (.agg #[.int .i64 (g1 n).kind, .int .i64 (g1 n).up, .string ⟨(g1 n).data.toArray⟩, .slice A4 n4 c4]) HL.out ?_)
  clear hw6
  go_region
  go_end0
  have e4 : (held g1 lv1 n).isSome = true := by rw [M4.out.some_ hk1.out]; rfl
  rw [if_pos e4] at map7
  rw [HG.out]
  exact ⟨rfl, _, _, Mem.stored (M6.out.keep (w' := w6.drew) (fun _ _ => rfl) (Nat.le_refl _)) (x := { g1 n with up := d }) (u := .slice A4 n4 c4) hk1.out ((U4.out.below B6.out).more B6.out.size) (by rw [HLL.out]; exact N4.out) map7 turn7,
    narrow (((T4.out.trans (Turns.new B6.out)).trans (drew_turns _ _)).trans (turned_turns turn7 (Or.inl H.out.fm))), HF.out⟩
end
end Go.Proofs.Ytelphegeeiocnaa.W07
