/-
  Texts joined, in build order, each with its own comment and its own conditions: W07Hang, W03Rune, W03May, W03Check, W07Check, W07New2.
-/
import Derived.Test.YtmpjjfhmkfchfaaDoorJ14
import Derived.BigRegion
import Derived.Test.YtmpjjfhmkfchfaaDoorJ02
import Derived.Laws.RangeAny
import Derived.LoopTactic
import Derived.BigQuiet
/-
  Layer 7 (tree), walks: the landed code's hang and unhang: a node's name in a directory's list. The bounds stand in the statements.
-/
namespace Go.Proofs.YtmpjjfhmkfchfaaDoor.W07
set_option maxRecDepth 100000
open Go Go.RowKit Go.Proofs.YtmpjjfhmkfchfaaDoor.Strs Go.Proofs.YtmpjjfhmkfchfaaDoor.Recs Go.Proofs.YtmpjjfhmkfchfaaDoor.M07 Go.Proofs.YtmpjjfhmkfchfaaDoor.Maps Go.Proofs.YtmpjjfhmkfchfaaDoor.Range
open Go.Proofs.YtmpjjfhmkfchfaaDoor.M06 (Ent)
open Go.Proofs.YtmpjjfhmkfchfaaDoor.W06 (Ents HandsE)
open Go.Proofs.YtmpjjfhmkfchfaaDoor.Kit (ret_str ret_bool ret_int mk_of mk_bytes ba_ext below_draws on)

/-- behind a call that has written the tree's memory -/
def Left (F : Nat → Prop) (w w' : World) (sb mb : Nat) (g : Int → Nod) (last : Int) (m : Nat) : Prop :=
  ∃ F' lv', Mem F' w' sb mb g lv' last m ∧ Turns F w w' ∧ ∀ k, F' k → F k ∨ w.heap.size ≤ k
section
variable {F : Nat → Prop} {w w1 w2 : World} {sb mb : Nat} {g : Int → Nod} {lv : Int → Value} {last : Int} {m : Nat} {p : Nat} {x : Nod} {u : Value}
/-- a local copy of a node with another list in it, the tree as it was -/
theorem open_list (h : Mem F w sb mb g lv last m) (hb : Below w.heap.size w w1) (hp : w.heap.size ≤ p) (L : List Ent) (hbox : NodBox w1 p x u) (u' : Value) (hb2 : Below w1.heap.size w1 w2) (hu : Ents w2.heap.size w2 u' L) (hN : ∀ b o n c, u' = .slice (some ⟨b, o, none⟩) n c → w1.heap.size ≤ b) :
    Mem (More F w.heap.size (w2.setCell ⟨p, 3, none⟩ u')) (w2.setCell ⟨p, 3, none⟩ u') sb mb g lv last m ∧ NodBox (w2.setCell ⟨p, 3, none⟩ u') p { x with list := L } u' ∧ Ents (w2.setCell ⟨p, 3, none⟩ u').heap.size (w2.setCell ⟨p, 3, none⟩ u') u' L ∧ (∀ b o c d, 0 < L.length → u' = .slice (some ⟨b, o, none⟩) c d → More F w.heap.size (w2.setCell ⟨p, 3, none⟩ u') b) ∧ Below w.heap.size w (w2.setCell ⟨p, 3, none⟩ u') := by
  have h2 := h.below (on hb hb2)
  have hbx := hbox.below hb2
  have hB : Below w.heap.size w (w2.setCell ⟨p, 3, none⟩ u') := (on hb hb2).setCell hp u'
  have hu2 : Ents w2.heap.size (w2.setCell ⟨p, 3, none⟩ u') u' L := ents_keep hu fun b o c d _ _ e => Below.heap_setCell _ _ _ _ (by
    have h1 := hN b o c d e
    have h2 := hbox.lt
    show b ≠ p
    omega)
  have hu3 : Ents w2.heap.size (w2.setCell ⟨p, 3, none⟩ u') u' L := hu2
  refine ⟨(h.below hB).more _, hbx.set3 L u', by rw [set_size]; exact hu2, fun b o c d e0 e => ?_, hB⟩
  subst e
  obtain ⟨b', o', hl, e, hb', -⟩ := Recs.flat_ hu3 W06.entC_len (by omega) (k := 0) (by
    obtain ⟨A, c', e, -⟩ := hu3.form
    injection e with e1 e2
    omega)
  cases e
  exact Or.inr ⟨Nat.le_trans hb.size (hN b o c d rfl), by rw [set_size]; exact hb'⟩
/-- a local copy of a node with another directory in it, the tree as it was -/
theorem open_up (h : Mem F w sb mb g lv last m) (x : Nod) (u : Value) (d : Int) :
    Mem F ((w.alloc (.cells #[.int .i64 x.kind, .int .i64 x.up, .string ⟨x.data.toArray⟩, u] 81)).setCell ⟨w.heap.size, 1, none⟩ (.int .i64 d)) sb mb g lv last m ∧ NodBox ((w.alloc (.cells #[.int .i64 x.kind, .int .i64 x.up, .string ⟨x.data.toArray⟩, u] 81)).setCell ⟨w.heap.size, 1, none⟩ (.int .i64 d)) w.heap.size { x with up := d } u ∧ Below w.heap.size w ((w.alloc (.cells #[.int .i64 x.kind, .int .i64 x.up, .string ⟨x.data.toArray⟩, u] 81)).setCell ⟨w.heap.size, 1, none⟩ (.int .i64 d)) := by
  have hB : Below w.heap.size w ((w.alloc (.cells #[.int .i64 x.kind, .int .i64 x.up, .string ⟨x.data.toArray⟩, u] 81)).setCell ⟨w.heap.size, 1, none⟩ (.int .i64 d)) := ((Below.refl _ _).alloc (Nat.le_refl _) _).setCell (Nat.le_refl _) _
  exact ⟨h.below hB, (NodBox.new w x u).set1 d, hB⟩
set_option maxHeartbeats 4000000 in
set_option maxRecDepth 100000 in
theorem hang_any (h : Mem F w sb mb g lv last m) (hs : Short g) (hm : m ≤ 1073741824) (d : Int) (s : ByteArray) (n : Int) (hd : (g d).kind ≠ 0) (hn : (g n).kind ≠ 0) :
    Calls Tryd.prog 46 #[.pointer (some ⟨sb, 0, none⟩), .int .i64 d, .string s, .int .i64 n] w fun e w' => e = .returned (.tuple #[]) ∧ Left F w w' sb mb (hangN g d s.data.toList n) last m := by
  obtain ⟨A, c, e⟩ := h.form d
  have hE := h.list d
  have HL := Lib.hid (h.look d)
  rw [e] at hE HL
  have c0 := h.box.c0
  have HM := Lib.hid h.map
  have hsd := hs d
  have hwf := Lib.hid (h.wf hd)
  have hwn := Lib.hid (h.wf hn)
  obtain ⟨w1, hw1⟩ : ∃ w1, w.alloc (.cells #[.int .i64 (g d).kind, .int .i64 (g d).up, .string ⟨(g d).data.toArray⟩, .slice A (g d).list.length c] 81) = w1 := ⟨_, rfl⟩
  have X1 : Hid (NodBox w1 w.heap.size (g d) (.slice A (g d).list.length c)) := by rw [← hw1]; exact NodBox.new _ _ _
  have B1 : Hid (Below w.heap.size w w1) := by rw [← hw1]; exact (Below.refl _ _).alloc (Nat.le_refl _) _
  have x3 := X1.out.c3
  have HC := Lib.hid (W06.put_new (.slice A (g d).list.length c) (g d).list w1 s n ((hE.below B1.out).more B1.out.size) (by omega))
  have H := Lib.hid h
  have HD := Lib.hid hd
  have HN := Lib.hid hn
  clear h hs e hE hsd hd hn
  generalize (g d).list.length = n0 at *
  go_enter Tryd.func46, Tryd.ntmps46
  go_wp2_with (at_lookup; refine wpList_look _ rfl _ _ 82 rfl 3 81 key_under map_under (zero_node _) mb m (held g lv) rfl HM.out d rfl (.agg #[.int .i64 (g d).kind, .int .i64 (g d).up, .string ⟨(g d).data.toArray⟩, .slice A n0 c]) HL.out ?_)
  clear hw1
  refine HC.out.mono ?_
  rintro e w2 ⟨u, rfl, hu, hnew, hb⟩
  obtain ⟨A2, c2, rfl, -, -⟩ := hu.form
  obtain ⟨q1, q2, q3, q4, q5⟩ := open_list H.out B1.out (Nat.le_refl _) _ X1.out _ hb hu hnew
  have frz := (X1.out.below hb).fr 3
  have old := (X1.out.below hb).c3
  clear hu hnew hb HM c0 x3 HC X1 HL
  generalize hL : (M06.put (g d).list (s.data.toList, n)).length = n2 at *
  have HLL := Lib.hid hL
  clear hL
  obtain ⟨w3, hw3⟩ : ∃ w3, w2.setCell ⟨w.heap.size, 3, none⟩ (.slice A2 n2 c2) = w3 := ⟨_, rfl⟩
  rw [hw3] at q1 q2 q3 q4 q5
  have M3 := Lib.hid q1
  have U3 := Lib.hid q3
  have N3 := Lib.hid q4
  have B3 := Lib.hid q5
  have y0 := q2.c0
  have y1 := q2.c1
  have y2 := q2.c2
  have y3 := q2.c3
  have c0 := q1.box.c0
  clear q1 q2 q3 q4 q5
  have hmp : MapIs w3.drew Tryd.prog 3 mb (held g lv) m := M3.out.map.keep rfl
  have hst := hmp.store (t := 82) (e := 81) key_under map_under (by unfold maxLen; omega) (n := d) hwf.out (.agg #[.int .i64 (g d).kind, .int .i64 (g d).up, .string ⟨(g d).data.toArray⟩, .slice A2 n2 c2])
  obtain ⟨w4, hrun, map4, turn4⟩ := hst
  have e4 : (held g lv d).isSome = true := by rw [H.out.some_ HD.out]; rfl
  rw [if_pos e4] at map4
  have M4 := Lib.hid (Mem.stored (M3.out.keep (w' := w3.drew) (fun _ _ => rfl) (Nat.le_refl _)) (x := { g d with list := M06.put (g d).list (s.data.toList, n) }) (u := .slice A2 n2 c2) HD.out U3.out (by rw [HLL.out]; exact N3.out) map4 turn4)
  have T4 := Lib.hid (((Turns.new (T := fun k => F k ∨ w.heap.size ≤ k) B3.out).trans (drew_turns _ _)).trans (turned_turns turn4 (Or.inl H.out.fm)))
  clear map4 turn4 hmp e4
  go_wp2_with fail
  clear hw3
  go_region
  clear hrun y0 y1 y2 y3 c0 frz old
  -- the node itself
  obtain ⟨g1, hg1⟩ : ∃ g1, upd g d { g d with list := M06.put (g d).list (s.data.toList, n) } = g1 := ⟨_, rfl⟩
  have HG : Hid (hangN g d s.data.toList n = upd g1 n { g1 n with up := d }) := by rw [← hg1]; rfl
  have hk1 : Hid ((g1 n).kind ≠ 0) := by
    rw [← hg1]
    show (upd g d _ n).kind ≠ 0
    unfold upd
    split
    · exact HD.out
    · exact HN.out
  rw [hg1] at M4
  generalize upd lv d (.slice A2 n2 c2) = lv1 at *
  have HF : Hid (∀ k, More F w.heap.size w3 k → F k ∨ w.heap.size ≤ k) := fun k hk => hk.imp id And.left
  clear hg1 M3 U3 N3 B3
  generalize More F w.heap.size w3 = F1 at *
  obtain ⟨A4, c4, e⟩ := M4.out.form n
  have HL := Lib.hid (M4.out.look n)
  have U4 := Lib.hid (M4.out.list n)
  have N4 := Lib.hid (fun b o c d h0 => M4.out.at_ n b o c d h0)
  rw [e] at HL U4 N4
  have HM := Lib.hid M4.out.map
  have c0 := M4.out.box.c0
  generalize hL : (g1 n).list.length = n4 at *
  have HLL := Lib.hid hL
  clear hL e
  obtain ⟨q1, q2, q5⟩ := open_up M4.out (g1 n) (.slice A4 n4 c4) d
  obtain ⟨w6, hw6⟩ : ∃ w6, (w4.alloc (.cells #[.int .i64 (g1 n).kind, .int .i64 (g1 n).up, .string ⟨(g1 n).data.toArray⟩, .slice A4 n4 c4] 81)).setCell ⟨w4.heap.size, 1, none⟩ (.int .i64 d) = w6 := ⟨_, rfl⟩
  rw [hw6] at q1 q2 q5
  have M6 := Lib.hid q1
  have B6 := Lib.hid q5
  have y0 := q2.c0
  have y1 := q2.c1
  have y2 := q2.c2
  have y3 := q2.c3
  have d0 := q1.box.c0
  clear q1 q2 q5
  have hmp : MapIs w6.drew Tryd.prog 3 mb (held g1 lv1) m := M6.out.map.keep rfl
  have hst := hmp.store (t := 82) (e := 81) key_under map_under (by unfold maxLen; omega) (n := n) hwn.out (.agg #[.int .i64 (g1 n).kind, .int .i64 d, .string ⟨(g1 n).data.toArray⟩, .slice A4 n4 c4])
  obtain ⟨w7, hrun, map7, turn7⟩ := hst
  go_wp2_with (at_lookup; refine wpList_look _ rfl _ _ 82 rfl 3 81 key_under map_under (zero_node _) mb m (held g1 lv1) rfl HM.out n rfl (.agg #[.int .i64 (g1 n).kind, .int .i64 (g1 n).up, .string ⟨(g1 n).data.toArray⟩, .slice A4 n4 c4]) HL.out ?_)
  clear hw6
  go_region
  go_end0
  have e4 : (held g1 lv1 n).isSome = true := by rw [M4.out.some_ hk1.out]; rfl
  rw [if_pos e4] at map7
  rw [HG.out]
  exact ⟨rfl, _, _, Mem.stored (M6.out.keep (w' := w6.drew) (fun _ _ => rfl) (Nat.le_refl _)) (x := { g1 n with up := d }) (u := .slice A4 n4 c4) hk1.out ((U4.out.below B6.out).more B6.out.size) (by rw [HLL.out]; exact N4.out) map7 turn7,
    narrow (((T4.out.trans (Turns.new B6.out)).trans (drew_turns _ _)).trans (turned_turns turn7 (Or.inl H.out.fm))), HF.out⟩
end
end Go.Proofs.YtmpjjfhmkfchfaaDoor.W07
/-
  Layer 3 (name), walks over a text's runes: hasOnly asks of each rune what its function says; a byte below 128 is a rune by itself, and what isn't is told by bytes of 128 and above alone. So what hasOnly answers is told by the text's bytes. No condition but those that each theorem bears.
-/
namespace Go.Proofs.YtmpjjfhmkfchfaaDoor.W03
open Go Go.RowKit Go.Proofs.YtmpjjfhmkfchfaaDoor.Strs Go.Proofs.YtmpjjfhmkfchfaaDoor.M03
open Go.Proofs.YtmpjjfhmkfchfaaDoor.Kit (ret_str ret_bool ret_int mk_of below_draws on take_next take_end byte_eq byte_ne)

theorem get_bang (s : ByteArray) (k : Nat) (h : k < s.size) : s.get! k = s[k] := by
  simp [ByteArray.get!, getElem!_pos, h]; rfl
/-- a rune of 128 and above lies over bytes of 128 and above -/
theorem decode_cover (s : ByteArray) (pos : Nat) (h : pos < s.size) (ha : 128 ≤ (s[pos]).toNat) :
    pos + (Utf8.decode s pos).2 ≤ s.size ∧ ∀ j, j < (Utf8.decode s pos).2 → 128 ≤ (s.get! (pos + j)).toNat := by
  have hn : ¬ (s[pos]).toNat < 128 := by omega
  have h0 : 128 ≤ (s.get! (pos + 0)).toNat := by rw [get_at s pos h]; exact ha
  simp only [Utf8.decode, get_at s pos h, hn, if_false, Bool.and_eq_true, decide_eq_true_eq, beq_iff_eq]
  repeat' split
  all_goals first
    | (refine ⟨by simp only []; omega, fun j hj => ?_⟩
       simp only [] at hj
       have hj4 : j = 0 ∨ j = 1 ∨ j = 2 ∨ j = 3 := by omega
       rcases hj4 with rfl | rfl | rfl | rfl <;> omega)
/-- what is asked of a rune is asked of the bytes: p of a byte below 128 is q of it as a rune, and all above are hi -/
structure Alike (q : Nat → Bool) (p : UInt8 → Bool) (hi : Bool) : Prop where
  low : ∀ c : UInt8, c.toNat < 128 → p c = q c.toNat
  high : ∀ c : UInt8, 128 ≤ c.toNat → p c = hi
  rune : ∀ r, 128 ≤ r → q r = hi
theorem alike_no {q : Nat → Bool} {p : UInt8 → Bool} {hi : Bool} (A : Alike q p hi) {s : ByteArray} {pos : Nat} (h : pos < s.size) (hq : q (Utf8.decode s pos).1 = false) : s.data.toList.all p = false := by
  have hk2 : pos < s.data.toList.length := by rw [← Lib.size_eq]; exact h
  have hp : p s[pos] = false := by
    by_cases ha : (s[pos]).toNat < 128
    · rw [decode_ascii s pos h ha] at hq; rw [A.low _ ha]; exact hq
    · have hd := decode_high s pos h (by omega)
      rw [A.rune _ hd.1] at hq
      rw [A.high _ (by omega)]; exact hq
  rw [List.all_eq_false]
  exact ⟨s.data.toList[pos], List.getElem_mem hk2, by show ¬ p s[pos] = true; rw [hp]; decide⟩
theorem all_span {p : UInt8 → Bool} {s : ByteArray} : ∀ (n pos : Nat), pos + n ≤ s.size → (s.data.toList.take pos).all p = true → (∀ j, j < n → p (s.get! (pos + j)) = true) → (s.data.toList.take (pos + n)).all p = true
  | 0, pos, _, h, _ => h
  | n + 1, pos, hn, h, hj => by
    have h1 := all_span n pos (by omega) h (fun j hj2 => hj j (by omega))
    have hlt : pos + n < s.size := by omega
    rw [show pos + (n + 1) = (pos + n) + 1 by omega, take_next s _ hlt, List.all_append, h1]
    have := hj n (by omega)
    rw [get_bang s _ hlt] at this
    simp [this]
theorem alike_yes {q : Nat → Bool} {p : UInt8 → Bool} {hi : Bool} (A : Alike q p hi) {s : ByteArray} {pos : Nat} (h : pos < s.size) (hq : q (Utf8.decode s pos).1 = true) (ht : (s.data.toList.take pos).all p = true) :
    pos + (Utf8.decode s pos).2 ≤ s.size ∧ (s.data.toList.take (pos + (Utf8.decode s pos).2)).all p = true := by
  by_cases ha : (s[pos]).toNat < 128
  · rw [decode_ascii s pos h ha] at hq ⊢
    refine ⟨h, ?_⟩
    show (s.data.toList.take (pos + 1)).all p = true
    rw [take_next s pos h, List.all_append, ht]
    have : p s[pos] = true := by rw [A.low _ ha]; exact hq
    simp [this]
  · have hd := decode_high s pos h (by omega)
    have hc := decode_cover s pos h (by omega)
    rw [A.rune _ hd.1] at hq
    exact ⟨hc.1, all_span _ pos hc.1 ht (fun j hj => by rw [A.high _ (hc.2 j hj)]; exact hq)⟩
theorem width_pos (s : ByteArray) (pos : Nat) (h : pos < s.size) : 1 ≤ (Utf8.decode s pos).2 := by
  by_cases ha : (s[pos]'h).toNat < 128
  · rw [decode_ascii s pos h ha]
    exact Nat.le_refl _
  · exact (decode_high s pos h (by omega)).2
end Go.Proofs.YtmpjjfhmkfchfaaDoor.W03
/-
  Layer 3 (name), walks of what is asked of a rune (mayStand, isPlain), and of hasOnly with each. No condition but those that each theorem bears.
-/
namespace Go.Proofs.YtmpjjfhmkfchfaaDoor.W03
set_option maxRecDepth 100000
open Go Go.RowKit Go.Proofs.YtmpjjfhmkfchfaaDoor.Strs Go.Proofs.YtmpjjfhmkfchfaaDoor.M03
open Go.Proofs.YtmpjjfhmkfchfaaDoor.Kit (ret_str ret_bool ret_int mk_of below_draws on take_next take_end byte_eq byte_ne)

def mayR (r : Nat) : Bool := decide (r ≠ 0) && decide (r ≠ 47)
def plainR (r : Nat) : Bool := (decide (97 ≤ r) && decide (r ≤ 122)) || (decide (65 ≤ r) && decide (r ≤ 90)) || (decide (48 ≤ r) && decide (r ≤ 57)) || decide (r = 46) || decide (r = 95) || decide (r = 43) || decide (r = 45)
def goodB (c : UInt8) : Bool := !badByte c
theorem may_alike : Alike mayR goodB true where
  low := fun c hc => by
    have h0 : (c = 0) ↔ c.toNat = 0 := ⟨fun e => by rw [e]; rfl, fun e => UInt8.toNat_inj.1 e⟩
    have h1 : (c = 47) ↔ c.toNat = 47 := ⟨fun e => by rw [e]; rfl, fun e => UInt8.toNat_inj.1 e⟩
    simp only [goodB, badByte, mayR, h0, h1]
    by_cases a : c.toNat = 0 <;> by_cases b : c.toNat = 47 <;> simp [a, b]
  high := fun c hc => by
    have h0 : ¬ c = 0 := fun e => by rw [e] at hc; revert hc; decide
    have h1 : ¬ c = 47 := fun e => by rw [e] at hc; revert hc; decide
    simp [goodB, badByte, h0, h1]
  rune := fun r hr => by
    have h0 : ¬ r = 0 := by omega
    have h1 : ¬ r = 47 := by omega
    simp [mayR, h0, h1]
theorem may_any (r : Nat) (w : World) :
    Calls Tryd.prog 71 #[.int .i32 r] w fun e w' => e = .returned (.bool (mayR r)) ∧ w' = w := by
  by_cases h0 : r = 0
  · subst h0
    go_enter Tryd.func71, Tryd.ntmps71
    go_wp2
    go_ret
    exact ⟨rfl, rfl⟩
  · have t0 : ((r : Int) != 0) = true := by rw [bne_iff_ne]; omega
    by_cases h1 : r = 47
    · subst h1
      go_enter Tryd.func71, Tryd.ntmps71
      go_wp2
      go_ret
      exact ⟨rfl, rfl⟩
    · have t1 : ((r : Int) != 47) = true := by rw [bne_iff_ne]; omega
      have HE : Hid (mayR r = true) := by show mayR r = true; simp [mayR, h0, h1]
      clear h0 h1
      go_enter Tryd.func71, Tryd.ntmps71
      go_wp2
      go_ret
      exact ⟨ret_bool HE.out.symm, rfl⟩
theorem plainR_yes {r : Nat} (h : (97 ≤ (r : Int) ∧ (r : Int) ≤ 122) ∨ (65 ≤ (r : Int) ∧ (r : Int) ≤ 90) ∨ (48 ≤ (r : Int) ∧ (r : Int) ≤ 57) ∨ (r : Int) = 46 ∨ (r : Int) = 95 ∨ (r : Int) = 43 ∨ (r : Int) = 45) : true = plainR r := by
  unfold plainR
  have e : (97 ≤ r ∧ r ≤ 122) ∨ (65 ≤ r ∧ r ≤ 90) ∨ (48 ≤ r ∧ r ≤ 57) ∨ r = 46 ∨ r = 95 ∨ r = 43 ∨ r = 45 := by omega
  rcases e with e | e | e | e | e | e | e <;> simp [e]
theorem plainR_not {r : Nat} (h : ¬ ((97 ≤ (r : Int) ∧ (r : Int) ≤ 122) ∨ (65 ≤ (r : Int) ∧ (r : Int) ≤ 90) ∨ (48 ≤ (r : Int) ∧ (r : Int) ≤ 57) ∨ (r : Int) = 46 ∨ (r : Int) = 95 ∨ (r : Int) = 43 ∨ (r : Int) = 45)) : false = plainR r := by
  cases hp : plainR r with
  | false => rfl
  | true =>
    unfold plainR at hp
    simp only [Bool.or_eq_true, Bool.and_eq_true, decide_eq_true_eq] at hp
    omega
theorem hasOnly_may (s : ByteArray) (w : World) :
    Calls Tryd.prog 70 #[.string s, .func (.func 71) #[] #[]] w fun e w' => e = .returned (.bool (s.data.toList.all goodB)) ∧ Below w.heap.size w w' := by
  have HF := Lib.hid (fun (r : Nat) (w : World) (_ : r ≤ 2147483647) => may_any r w)
  have A := may_alike
  generalize mayR = q at HF A
  generalize goodB = p at A ⊢
  go_enter Tryd.func70, Tryd.ntmps70
  go_wp2
  go_loopw [] (fun w' => ∃ pos : Nat, pos ≤ s.size ∧ w' = w.iter s pos ∧ Hid ((s.data.toList.take pos).all p = true)) (fun w' => s.size - w'.iterPos w.heap.size)
  case atStart => exact ⟨0, Nat.zero_le _, rfl, Lib.hid rfl⟩
  case round =>
    obtain ⟨pos, hp, rfl, ha⟩ := hrel
    by_cases hlt : pos < s.size
    · have hnx : ∀ ty, (Instr.next (.pointer (some ⟨w.heap.size, 0, none⟩)) true ty).run Tryd.prog (w.iter s pos) = _ := fun ty => run_next_any w s pos ty hlt
      have hwd := width_pos s pos hlt
      have hle := decode_le s pos
      have HQ := Lib.hid (fun h => alike_no A hlt h)
      have HY := Lib.hid (fun h => alike_yes A hlt h ha.out)
      generalize Utf8.decode s pos = d at *
      obtain ⟨r, n⟩ := d
      cases hq : q r with
      | true =>
        have HR := HF.out r
        rw [hq] at HR
        have HR := Lib.hid HR
        obtain ⟨hs, hn⟩ := HY.out hq
        have HN := Lib.hid hn
        clear hn hq
        go_wp2_with fail
        refine (HR.out _ (by omega)).mono ?_
        rintro e w' ⟨rfl, rfl⟩
        go_wp2
        go_roundw
        case rel => exact ⟨pos + n, hs, rfl, HN⟩
        case measure => simp; omega
      | false =>
        have HR := HF.out r
        rw [hq] at HR
        have HR := Lib.hid HR
        have HN := Lib.hid (HQ.out hq)
        clear hq
        go_wp2_with fail
        refine (HR.out _ (by omega)).mono ?_
        rintro e w' ⟨rfl, rfl⟩
        go_wp2
        go_ret
        exact ⟨ret_bool HN.out.symm, (Below.refl _ w).alloc (Nat.le_refl _) _⟩
    · have hnx : ∀ ty, (Instr.next (.pointer (some ⟨w.heap.size, 0, none⟩)) true ty).run Tryd.prog (w.iter s pos) = _ := fun ty => run_next_end w s pos ty hlt
      have HN : Hid (s.data.toList.all p = true) := by
        have := ha.out
        rw [take_end s pos hlt] at this
        exact this
      go_wp2
      go_ret
      exact ⟨ret_bool HN.out.symm, (Below.refl _ w).alloc (Nat.le_refl _) _⟩
end Go.Proofs.YtmpjjfhmkfchfaaDoor.W03
/-
  Layer 3 (name), walks: what the program's Check, Right and Plain return. No condition but those that each theorem bears.
-/
namespace Go.Proofs.YtmpjjfhmkfchfaaDoor.W03
set_option maxRecDepth 100000
open Go Go.RowKit Go.Proofs.YtmpjjfhmkfchfaaDoor.Strs Go.Proofs.YtmpjjfhmkfchfaaDoor.M03
open Go.Proofs.YtmpjjfhmkfchfaaDoor.Kit (ret_str ret_bool ret_int mk_of below_draws on list_full list_ne list_none list_nil)

def isPts (l : List UInt8) : Bool := (l == [46]) || (l == [46, 46])
theorem isPoints_any (s : ByteArray) (w : World) :
    Calls Tryd.prog 72 #[.string s] w fun e w' => e = .returned (.bool (isPts s.data.toList)) ∧ w' = w := by
  have HE : Hid (isPts s.data.toList = ((s.toList == [46]) || (s.toList == [46, 46]))) := by
    show isPts _ = _
    rw [Lib.toList_data]; rfl
  cases t1 : (s.toList == [46]) with
  | true =>
    have HX : Hid (isPts s.data.toList = true) := by show isPts _ = _; rw [HE.out, t1]; rfl
    clear HE
    go_enter Tryd.func72, Tryd.ntmps72
    go_wp2
    go_ret
    exact ⟨ret_bool HX.out.symm, rfl⟩
  | false =>
    cases t2 : (s.toList == [46, 46]) with
    | true =>
      have HX : Hid (isPts s.data.toList = true) := by show isPts _ = _; rw [HE.out, t1, t2]; rfl
      clear HE
      go_enter Tryd.func72, Tryd.ntmps72
      go_wp2
      go_ret
      exact ⟨ret_bool HX.out.symm, rfl⟩
    | false =>
      have HX : Hid (isPts s.data.toList = false) := by show isPts _ = _; rw [HE.out, t1, t2]; rfl
      clear HE
      go_enter Tryd.func72, Tryd.ntmps72
      go_wp2
      go_ret
      exact ⟨ret_bool HX.out.symm, rfl⟩
theorem check_of {s : ByteArray} (h0 : 0 < s.size) (h : ¬ (64 : Int) < s.size) : check s.data.toList = if s.data.toList.all goodB = true then (if isPts s.data.toList = true then 6 else 0) else 11 := by
  unfold check
  rw [← Lib.size_eq, if_neg (by omega), if_neg (by omega)]
  have e : s.data.toList.any badByte = !(s.data.toList.all goodB) := by
    rw [List.all_eq_not_any_not, Bool.not_not]
    congr 1
    funext c; simp [goodB]
  rw [e]
  cases s.data.toList.all goodB with
  | false => simp
  | true => simp [isPts]
theorem check_free (s : ByteArray) (w : World) :
    Calls Tryd.prog 54 #[.string s] w fun e w' => e = .returned (.int .i64 (check s.data.toList)) ∧ Below w.heap.size w w' := by
  by_cases h0 : 0 < s.size
  · have z0 := list_full h0
    have z1 := list_ne h0
    by_cases h64 : (64 : Int) < s.size
    · have HE := Lib.hid (check_long h0 h64)
      go_enter Tryd.func54, Tryd.ntmps54
      go_wp2
      go_ret
      exact ⟨ret_int HE.out, Below.refl _ _⟩
    · have HE := Lib.hid (check_of h0 h64)
      have HA := Lib.hid (hasOnly_may s)
      have HP := Lib.hid (isPoints_any s)
      generalize s.data.toList.all goodB = a at *
      generalize isPts s.data.toList = b at *
      have h65 : (s.size : Int) ≤ 64 := by omega
      clear h64
      cases a with
      | false =>
        go_enter Tryd.func54, Tryd.ntmps54
        go_wp2_with fail
        refine (HA.out _).mono ?_
        rintro e w1 ⟨rfl, hb1⟩
        go_wp2
        go_ret
        exact ⟨ret_int (by rw [HE.out]; rfl), hb1⟩
      | true =>
        go_enter Tryd.func54, Tryd.ntmps54
        go_wp2_with fail
        refine (HA.out _).mono ?_
        rintro e w1 ⟨rfl, hb1⟩
        cases b with
        | false =>
          go_wp2_with fail
          refine (HP.out _).mono ?_
          rintro e w2 ⟨rfl, rfl⟩
          go_wp2
          go_ret
          exact ⟨ret_int (by rw [HE.out]; rfl), hb1⟩
        | true =>
          go_wp2_with fail
          refine (HP.out _).mono ?_
          rintro e w2 ⟨rfl, rfl⟩
          go_wp2
          go_ret
          exact ⟨ret_int (by rw [HE.out]; rfl), hb1⟩
  · have z0 := list_none h0
    have z1 := list_nil h0
    have HE := Lib.hid (check_empty h0)
    go_enter Tryd.func54, Tryd.ntmps54
    go_wp2
    go_ret
    exact ⟨ret_int HE.out, Below.refl _ _⟩
theorem check_any (s : ByteArray) (_hs : s.size ≤ 140737488351232) (w : World) :
    Calls Tryd.prog 54 #[.string s] w fun e w' => e = .returned (.int .i64 (check s.data.toList)) ∧ Below w.heap.size w w' := check_free s w
theorem right_any (s : ByteArray) (hs : s.size ≤ 140737488351232) (w : World) :
    Calls Tryd.prog 42 #[.string s] w fun e w' => e = .returned (.bool (decide (check s.data.toList = 0))) ∧ Below w.heap.size w w' := by
  have HC := Lib.hid (check_any s hs)
  generalize check s.data.toList = c at *
  go_enter Tryd.func42, Tryd.ntmps42
  go_wp2_with fail
  refine (HC.out _).mono ?_
  rintro e w1 ⟨rfl, hb⟩
  go_wp2_with fail
  go_ret
  exact ⟨ret_bool (by by_cases h : c = 0 <;> simp [h]), hb⟩
theorem check_full {s : ByteArray} (h : check s.data.toList = 0) : 0 < s.size := by
  rcases Nat.eq_zero_or_pos s.size with e | e
  · exfalso; revert h; unfold check; rw [← Lib.size_eq, if_pos e]; decide
  · exact e
end Go.Proofs.YtmpjjfhmkfchfaaDoor.W03
/-
  Layer 7 (tree), walks: the landed code's checks: checkDir, checkData, checkPlace, within, checkMove, checkReplace. The bounds stand in the statements.
-/
namespace Go.Proofs.YtmpjjfhmkfchfaaDoor.W07
set_option maxRecDepth 100000
open Go Go.RowKit Go.Proofs.YtmpjjfhmkfchfaaDoor.Strs Go.Proofs.YtmpjjfhmkfchfaaDoor.Recs Go.Proofs.YtmpjjfhmkfchfaaDoor.M07 Go.Proofs.YtmpjjfhmkfchfaaDoor.Maps Go.Proofs.YtmpjjfhmkfchfaaDoor.Range
open Go.Proofs.YtmpjjfhmkfchfaaDoor.M06 (Ent)
open Go.Proofs.YtmpjjfhmkfchfaaDoor.M03 (check)
open Go.Proofs.YtmpjjfhmkfchfaaDoor.W06 (Ents HandsE)
open Go.Proofs.YtmpjjfhmkfchfaaDoor.Kit (ret_str ret_bool ret_int mk_of mk_bytes ba_ext below_draws on list_full list_ne list_none list_nil bytes_nil)

section
variable {F : Nat → Prop} {w w1 w2 : World} {sb mb : Nat} {g : Int → Nod} {lv : Int → Value} {last : Int} {m : Nat}
/-- why nothing can stand in a node -/
def dirN (x : Nod) : Int := if x.kind = 0 then 5 else if x.kind = 1 then 0 else 7
set_option maxHeartbeats 1000000 in
theorem checkDir_any (h : Mem F w sb mb g lv last m) (n : Int) : Calls Tryd.prog 63 #[.pointer (some ⟨sb, 0, none⟩), .int .i64 n] w fun e w' => e = .returned (.int .i64 (dirN (g n))) ∧ Below w.heap.size w w' := by
  obtain ⟨A, c, -, hc⟩ := h.node_ n
  have HC := Lib.hid hc
  have hf := nod_kind (g n).kind (g n).up ⟨(g n).data.toArray⟩ A (g n).list.length c
  have HD : Hid (dirN (g n) = if (g n).kind = 0 then 5 else if (g n).kind = 1 then 0 else 7) := rfl
  clear hc h
  generalize dirN (g n) = r at *
  generalize (g n).kind = k at *
  generalize (g n).up = up at *
  generalize (g n).data = data at *
  generalize (g n).list.length = ln at *
  by_cases h0 : k = 0
  · have HX : Hid (r = 5) := HD.out.trans (if_pos h0)
    subst h0
    go_enter Tryd.func63, Tryd.ntmps63
    go_wp2_with fail
    refine HC.out.mono ?_
    rintro e w1 ⟨rfl, hb⟩
    go_wp2_with fail
    go_ret
    exact ⟨ret_int HX.out.symm, hb⟩
  · by_cases h1 : k = 1
    · have HX : Hid (r = 0) := HD.out.trans ((if_neg h0).trans (if_pos h1))
      subst h1
      go_enter Tryd.func63, Tryd.ntmps63
      go_wp2_with fail
      refine HC.out.mono ?_
      rintro e w1 ⟨rfl, hb⟩
      go_wp2_with fail
      go_ret
      exact ⟨ret_int HX.out.symm, hb⟩
    · have HX : Hid (r = 7) := HD.out.trans ((if_neg h0).trans (if_neg h1))
      have t0 : (k == 0) = false := by simpa using h0
      have t1 : (k == 1) = false := by simpa using h1
      clear h0 h1
      go_enter Tryd.func63, Tryd.ntmps63
      go_wp2_with fail
      refine HC.out.mono ?_
      rintro e w1 ⟨rfl, hb⟩
      go_wp2_with fail
      go_ret
      exact ⟨ret_int HX.out.symm, hb⟩
set_option maxHeartbeats 1000000 in
theorem checkData_any (kind : Int) (s : ByteArray) (w : World) :
    Calls Tryd.prog 45 #[.int .i64 kind, .string s] w fun e w' => e = .returned (.int .i64 (mayErr kind s.data.toList)) ∧ w' = w := by
  have HL := Lib.hid (Lib.size_eq s)
  by_cases hk : kind = 1 ∨ kind = 2 ∨ kind = 3
  · have HM : Hid (mayErr kind s.data.toList = if (kind = 1 ∧ s.data.toList ≠ []) ∨ (kind = 3 ∧ s.data.toList = []) then 3 else if 65536 < s.data.toList.length then 4 else 0) := if_neg (by omega)
    by_cases h0 : 0 < s.size
    · have hf := list_full h0
      have hn := list_ne h0
      have hne : s.data.toList ≠ [] := Kit.bytes_ne h0
      have HX : Hid (kind ≠ 1 → mayErr kind s.data.toList = if 65536 < s.data.toList.length then 4 else 0) := fun h1 => HM.out.trans (if_neg (by rintro (e | e); exact h1 e.1; exact hne e.2))
      have HY : Hid (kind = 1 → mayErr kind s.data.toList = 3) := fun h1 => HM.out.trans (if_pos (Or.inl ⟨h1, hne⟩))
      rw [← HL.out] at HX
      clear hne HM
      generalize mayErr kind s.data.toList = r at *
      rcases hk with rfl | rfl | rfl
      · go_enter Tryd.func45, Tryd.ntmps45
        go_wp2_with fail
        go_ret
        exact ⟨ret_int (HY.out (by trivial)).symm, rfl⟩
      all_goals
        by_cases hbig : (65536 : Int) < s.size
        · have HZ : Hid (r = 4) := (HX.out (by decide)).trans (if_pos (by omega))
          go_enter Tryd.func45, Tryd.ntmps45
          go_wp2_with fail
          go_ret
          exact ⟨ret_int HZ.out.symm, rfl⟩
        · have HZ : Hid (r = 0) := (HX.out (by decide)).trans (if_neg (by omega))
          go_enter Tryd.func45, Tryd.ntmps45
          go_wp2_with fail
          go_ret
          exact ⟨ret_int HZ.out.symm, rfl⟩
    · have hf := list_none h0
      have hn := list_nil h0
      have hne : s.data.toList = [] := bytes_nil h0
      have hz : ¬ (65536 : Int) < s.size := by omega
      have HX : Hid (kind ≠ 3 → mayErr kind s.data.toList = 0) := fun h1 => HM.out.trans ((if_neg (by rintro (e | e); exact e.2 hne; exact h1 e.1)).trans (if_neg (by rw [hne]; simp)))
      have HY : Hid (kind = 3 → mayErr kind s.data.toList = 3) := fun h1 => HM.out.trans (if_pos (Or.inr ⟨h1, hne⟩))
      clear hne HM HL
      generalize mayErr kind s.data.toList = r at *
      rcases hk with rfl | rfl | rfl
      all_goals
        go_enter Tryd.func45, Tryd.ntmps45
        go_wp2_with fail
        go_ret
        exact ⟨ret_int (by first | exact (HX.out (by decide)).symm | exact (HY.out (by trivial)).symm), rfl⟩
  · have HX : Hid (mayErr kind s.data.toList = 2) := if_pos (by omega)
    have t1 : (kind == 1) = false := by simp; omega
    have t2 : (kind == 2) = false := by simp; omega
    have t3 : (kind == 3) = false := by simp; omega
    have k1 : (kind != 1) = true := by simp; omega
    have k2 : (kind != 2) = true := by simp; omega
    have k3 : (kind != 3) = true := by simp; omega
    clear hk
    generalize mayErr kind s.data.toList = r at *
    go_enter Tryd.func45, Tryd.ntmps45
    go_wp2_with fail
    go_ret
    exact ⟨ret_int HX.out.symm, rfl⟩
/-- a node's list, as Find is asked for a name in it -/
theorem Mem.find_ (h : Mem F w sb mb g lv last m) (hs : Short g) (n : Int) (s : ByteArray) : ∃ A c, lv n = .slice A (g n).list.length c ∧
    (Calls Tryd.prog 55 #[.pointer (some ⟨sb, 0, none⟩), .int .i64 n] w fun e w' => e = .returned (.agg #[.int .i64 (g n).kind, .int .i64 (g n).up, .string ⟨(g n).data.toArray⟩, .slice A (g n).list.length c]) ∧ Below w.heap.size w w') ∧
    (∀ w', Below w.heap.size w w' → Calls Tryd.prog 36 #[.slice A (g n).list.length c, .string s] w' fun e w2 => e = .returned (.tuple #[.int .i64 (M06.find (M06.all (g n).list) s.data.toList).1, .bool (M06.find (M06.all (g n).list) s.data.toList).2]) ∧ Below w'.heap.size w' w2) ∧
    (∀ w, (Instr.field 81 (.agg #[.int .i64 (g n).kind, .int .i64 (g n).up, .string ⟨(g n).data.toArray⟩, .slice A (g n).list.length c]) 3).run Tryd.prog w = .ok (.slice A (g n).list.length c) w) := by
  obtain ⟨A, c, e, hc⟩ := h.node_ n
  have hE := h.list n
  rw [e] at hE
  have hl := hs n
  exact ⟨A, c, e, hc, fun w' hb => W06.find_any _ _ w' s ((hE.below hb).more hb.size) (by omega), nod_list _ _ _ _ _ _⟩
/-- why no new node can stand in a directory by a name -/
def placeN (x : Nod) (s : Bytes) : Int := if dirN x ≠ 0 then dirN x else if check s ≠ 0 then check s else if (M06.find (M06.all x.list) s).2 = true then 6 else 0
set_option maxHeartbeats 2000000 in
theorem checkPlace_any (h : Mem F w sb mb g lv last m) (hs : Short g) (n : Int) (s : ByteArray) : Calls Tryd.prog 44 #[.pointer (some ⟨sb, 0, none⟩), .int .i64 n, .string s] w fun e w' => e = .returned (.int .i64 (placeN (g n) s.data.toList)) ∧ Below w.heap.size w w' := by
  have HD := Lib.hid (checkDir_any h n)
  have HK := Lib.hid (fun w' : World => W03.check_free s w')
  have HF := Lib.hid (fun (w' : World) (hb : Below w.heap.size w w') => (h.below hb).find_ hs n s)
  have HP : Hid (placeN (g n) s.data.toList = if dirN (g n) ≠ 0 then dirN (g n) else if check s.data.toList ≠ 0 then check s.data.toList else if (M06.find (M06.all (g n).list) s.data.toList).2 = true then 6 else 0) := rfl
  clear h hs
  generalize placeN (g n) s.data.toList = r at *
  generalize (M06.find (M06.all (g n).list) s.data.toList).2 = fd at *
  generalize (M06.find (M06.all (g n).list) s.data.toList).1 = fn at *
  generalize dirN (g n) = rd at *
  generalize check s.data.toList = rc at *
  by_cases hd : rd = 0
  · have HP : Hid (r = if rc ≠ 0 then rc else if fd = true then 6 else 0) := HP.out.trans (if_neg (show ¬ rd ≠ 0 from fun e => e hd))
    subst hd
    by_cases hc : rc = 0
    · have HP : Hid (r = if fd = true then 6 else 0) := HP.out.trans (if_neg (show ¬ rc ≠ 0 from fun e => e hc))
      subst hc
      go_enter Tryd.func44, Tryd.ntmps44
      go_wp2_with fail
      refine HD.out.mono ?_
      rintro e w1 ⟨rfl, hb⟩
      have B1 := Lib.hid hb
      clear hb
      go_wp2_with fail
      refine (HK.out w1).mono ?_
      rintro e w2 ⟨rfl, hb⟩
      have B2 := Lib.hid (on B1.out hb)
      clear hb
      obtain ⟨A, c, -, hn, hfd, hfl⟩ := HF.out w2 B2.out
      have HN := Lib.hid hn
      have HFD := Lib.hid hfd
      clear hn hfd
      go_wp2_with fail
      refine HN.out.mono ?_
      rintro e w3 ⟨rfl, hb⟩
      have HFD := Lib.hid (HFD.out w3 hb)
      have B3 := Lib.hid (on B2.out hb)
      clear hb
      go_wp2_with fail
      refine HFD.out.mono ?_
      rintro e w4 ⟨rfl, hb⟩
      have B4 := Lib.hid (on B3.out hb)
      clear hb HN HFD hfl HF
      cases fd with
      | true =>
        have HX : Hid (r = 6) := HP.out
        go_wp2_with fail
        go_ret
        exact ⟨ret_int HX.out.symm, B4.out⟩
      | false =>
        have HX : Hid (r = 0) := HP.out
        go_wp2_with fail
        go_ret
        exact ⟨ret_int HX.out.symm, B4.out⟩
    · have HX : Hid (r = rc) := HP.out.trans (if_pos hc)
      have t1 : (rc == 0) = false := by simpa using hc
      go_enter Tryd.func44, Tryd.ntmps44
      go_wp2_with fail
      refine HD.out.mono ?_
      rintro e w1 ⟨rfl, hb⟩
      have B1 := Lib.hid hb
      clear hb
      go_wp2_with fail
      refine (HK.out w1).mono ?_
      rintro e w2 ⟨rfl, hb⟩
      have B2 := Lib.hid (on B1.out hb)
      clear hb
      go_wp2_with fail
      go_ret
      exact ⟨ret_int HX.out.symm, B2.out⟩
  · have HX : Hid (r = rd) := HP.out.trans (if_pos hd)
    have t1 : (rd == 0) = false := by simpa using hd
    go_enter Tryd.func44, Tryd.ntmps44
    go_wp2_with fail
    refine HD.out.mono ?_
    rintro e w1 ⟨rfl, hb⟩
    have B1 := Lib.hid hb
    clear hb
    go_wp2_with fail
    go_ret
    exact ⟨ret_int HX.out.symm, B1.out⟩
end
end Go.Proofs.YtmpjjfhmkfchfaaDoor.W07
/-
  Layer 7 (tree), walks: the landed code's New and Set; what it is that a pointer leads to a tree. The bounds stand in the statements.
-/
namespace Go.Proofs.YtmpjjfhmkfchfaaDoor.W07
set_option maxRecDepth 100000
open Go Go.RowKit Go.Proofs.YtmpjjfhmkfchfaaDoor.Strs Go.Proofs.YtmpjjfhmkfchfaaDoor.Recs Go.Proofs.YtmpjjfhmkfchfaaDoor.M07 Go.Proofs.YtmpjjfhmkfchfaaDoor.Maps Go.Proofs.YtmpjjfhmkfchfaaDoor.Range
open Go.Proofs.YtmpjjfhmkfchfaaDoor.M06 (Ent)
open Go.Proofs.YtmpjjfhmkfchfaaDoor.M03 (check)
open Go.Proofs.YtmpjjfhmkfchfaaDoor.W06 (Ents HandsE)
open Go.Proofs.YtmpjjfhmkfchfaaDoor.Kit (ret_str ret_bool ret_int mk_of mk_bytes ba_ext below_draws on list_full list_ne list_none list_nil bytes_nil)

/-- in w the pointer v leads to a tree that reads as t and lies in the blocks of F -/
def Rep (F : Nat → Prop) (w : World) (v : Value) (t : Tr) : Prop := Right t ∧ ∃ sb mb lv, v = .pointer (some ⟨sb, 0, none⟩) ∧ Mem F w sb mb (plainN t) lv t.last t.L.length
section
variable {F : Nat → Prop} {w w' w1 w2 : World} {v : Value} {t : Tr}
theorem plain_short (hs : Small t) : Short (plainN t) := fun n => by
  show (listed t n).length ≤ _
  unfold listed
  have h1 := hs.1
  split
  · have := M07.list_len t.L n; omega
  · simp
theorem Rep.keep (h : Rep F w v t) (hk : ∀ k, F k → w'.heap[k]? = w.heap[k]?) (hs : w.heap.size ≤ w'.heap.size) : Rep F w' v t := by
  obtain ⟨hR, sb, mb, lv, e, h⟩ := h
  exact ⟨hR, sb, mb, lv, e, h.keep hk hs⟩
theorem Rep.low (h : Rep F w v t) : ∀ k, F k → k < w.heap.size := by
  obtain ⟨hR, sb, mb, lv, e, h⟩ := h
  exact h.low
/-- nothing but new memory has turned -/
theorem Rep.wrote (h : Rep F w v t) (hb : Below w.heap.size w w') : Wrote Rep F v t w w' :=
  ⟨F, h.keep (fun k hk => hb.block k (h.low k hk)) hb.size, Turns.new hb, fun _ => Or.inl⟩
theorem plain_new (n : Int) : plainN M07.new n = if n = 1 then ⟨1, 1, [], []⟩ else nod0 := by
  by_cases e : n = 1
  · subst e; rfl
  · rw [if_neg e]
    have h : nodeAt M07.new.L n = M07.zero := by
      show (if (1 : Int) = n then _ else _) = _
      rw [if_neg (fun h => e h.symm)]; rfl
    unfold plainN listed
    rw [h]; rfl
theorem mem_new {w w1 : World} {mb : Nat} (hmap : MapIs w1 Tryd.prog 3 mb (upd (fun _ => none) 1 (some (.agg #[.int .i64 1, .int .i64 1, .string ⟨#[]⟩, .slice none 0 0]))) 1) (hb : w.heap.size ≤ mb) :
    Mem (fun k => w.heap.size ≤ k ∧ k < w1.heap.size + 1) (w1.alloc (.cells #[.map (some mb), .int .i64 1] 84)) w1.heap.size mb (plainN M07.new) (fun _ => .slice none 0 0) 1 1 := by
  have hlt := hmap.lt
  refine ⟨heap_top _ _, ⟨by omega, by omega⟩, ⟨hb, by omega⟩, fun k hk => by rw [World.size_alloc]; exact hk.2, (hmap.alloc _).as (fun i => ?_) rfl, fun n hn => ⟨?_, rfl⟩, fun n => ?_, fun n b o c d _ e => by cases e⟩
  · unfold upd held
    rw [plain_new]
    by_cases e : i = 1
    · subst e; rfl
    · simp [e, nod0]
  · rw [plain_new] at hn ⊢
    by_cases e : n = 1
    · subst e; exact absurd hn (by decide)
    · rw [if_neg e]
  · rw [plain_new]
    by_cases e : n = 1
    · rw [if_pos e]; exact recs_nil _ _ _ _
    · rw [if_neg e]; exact recs_nil _ _ _ _
set_option maxHeartbeats 1000000 in
theorem new_any (w : World) : Calls Tryd.prog 19 #[] w fun e w' => ∃ v F, e = .returned v ∧ Rep F w' v M07.new ∧ (∀ k, F k → w.heap.size ≤ k) ∧ Below w.heap.size w w' := by
  have hmm := @run_makeMap Tryd.prog
  have hst := (map_made w Tryd.prog 3).store (t := 82) (e := 81) key_under map_under (by decide) (n := 1) (by decide) (.agg #[.int .i64 1, .int .i64 1, .string ⟨#[]⟩, .slice none 0 0])
  obtain ⟨w1, hrun, map1, turn1⟩ := hst
  have M1 := Lib.hid (mem_new (w := w) map1 (Nat.le_refl _))
  have B1 : Hid (Below w.heap.size w w1) := ((Below.refl w.heap.size w).alloc (Nat.le_refl _) _).grown turn1.grown (by simp) (fun k hk => by cases hk; exact Nat.le_refl _)
  clear map1 turn1
  go_enter Tryd.func19, Tryd.ntmps19
  go_wp2_with fail
  go_ret
  exact ⟨_, _, rfl, ⟨new_right, _, _, _, rfl, M1.out⟩, fun _ hk => hk.1, B1.out.alloc B1.out.size _⟩
end
end Go.Proofs.YtmpjjfhmkfchfaaDoor.W07
