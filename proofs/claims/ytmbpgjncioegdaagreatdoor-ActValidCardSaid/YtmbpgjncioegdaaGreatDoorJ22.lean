/-
  Texts joined, in build order, each with its own comment and its own conditions: W10Code, W10Do, W20Plan, W10Apply, W20Code.
-/
import Derived.Test.YtmbpgjncioegdaaGreatDoorJ21
import Derived.WideLaws
import Derived.BigQuiet
import Derived.Deep.RegionHeld3
import Derived.Test.YtmbpgjncioegdaaGreatDoorJ11
import Derived.Test.YtmbpgjncioegdaaGreatDoorJ13
import Derived.Test.YtmbpgjncioegdaaGreatDoorJ07
import Derived.Lib.MinMax
/-
  Layer 10 (fs), walks of the landed code: New, Plan, Count, Down, Up, Tree over any reading of a tree. The conditions stand in the statements.
-/
namespace Go.Proofs.YtmbpgjncioegdaaGreatDoor.W10
set_option maxRecDepth 100000
open Go Go.RowKit Go.Proofs.YtmbpgjncioegdaaGreatDoor.Strs Go.Proofs.YtmbpgjncioegdaaGreatDoor.Recs Go.Proofs.YtmbpgjncioegdaaGreatDoor.Range Go.Proofs.YtmbpgjncioegdaaGreatDoor.Maps
open Go.Proofs.YtmbpgjncioegdaaGreatDoor.M07 (Tr nodeAt Right)
open Go.Proofs.YtmbpgjncioegdaaGreatDoor.M09 Go.Proofs.YtmbpgjncioegdaaGreatDoor.M10
open Go.Proofs.YtmbpgjncioegdaaGreatDoor.W07 (Small Trees Wrote heap_top set_heap)
open Go.Proofs.YtmbpgjncioegdaaGreatDoor.W09 (Posix)
open Go.Proofs.YtmbpgjncioegdaaGreatDoor.Kit (ret_str ret_bool ret_int mk_of mk_bytes ba_ext below_draws on)

section
variable {Rep : Blocks → World → Value → Tr → Prop} {F Ft : Blocks} {w w' : World} {p : Nat} {v tv mv : Value} {x : Fs} {t : Tr}
theorem fs_new (C : Trees Rep) (h : Rep Ft w tv t) : FsAt Rep (fun k => Ft k ∨ k = w.heap.size) Ft (w.alloc (.cells #[tv, .map none, .int .i64 0, .bool false] 79)) w.heap.size tv (.map none) ⟨t, [], 0, false⟩ where
  box := FsBox.new _ _ _ _ _
  tree := C.below h (W07.below_one _ _)
  marks := Or.inl ⟨rfl, tab_nil⟩
  fp := Or.inr rfl
  tp := fun hk => by have := C.low h _ hk; omega
  sub := fun _ => Or.inl
  low := fun k hk => by
    have : (w.alloc (.cells #[tv, .map none, .int .i64 0, .bool false] 79)).heap.size = w.heap.size + 1 := World.size_alloc _ _
    rcases hk with hk | hk
    · have := C.low h _ hk; omega
    · omega
set_option maxHeartbeats 2000000 in
theorem new_any (C : Trees Rep) (hf : ∀ {F w v t}, Rep F w v t → ∃ a, v = .pointer (some a)) (h : Rep Ft w tv t) :
    Calls Tryz.prog 16 #[tv] w fun e w' => ∃ v F, e = .returned v ∧ RepF Rep F w' v ⟨t, [], 0, false⟩ ∧ (∀ k, F k → Ft k ∨ w.heap.size ≤ k) ∧ Below w.heap.size w w' := by
  have H := Lib.hid (fs_new C h)
  obtain ⟨a, rfl⟩ := hf h
  clear h
  go_enter Tryz.func16, Tryz.ntmps16
  go_wp2_with fail
  go_ret
  exact ⟨_, _, rfl, ⟨_, _, _, _, rfl, H.out⟩, fun k hk => hk.imp id (fun e => by omega), W07.below_one _ _⟩
set_option maxHeartbeats 2000000 in
theorem newNil_any (C : Trees Rep) (hf : ∀ {F w v t}, Rep F w v t → ∃ a, v = .pointer (some a)) (w : World) :
    Calls Tryz.prog 16 #[.pointer none] w fun e w' => ∃ v F, e = .returned v ∧ RepF Rep F w' v ⟨M07.new, [], 0, false⟩ ∧ (∀ k, F k → w.heap.size ≤ k) ∧ Below w.heap.size w w' := by
  have HN := Lib.hid (C.new w)
  go_enter Tryz.func16, Tryz.ntmps16
  go_wp2_with fail
  refine HN.out.mono ?_
  rintro e w1 ⟨tv, F1, rfl, h1, h2, h3⟩
  have H := Lib.hid (fs_new C h1)
  have B := Lib.hid h3
  obtain ⟨a, rfl⟩ := hf h1
  clear h1 h3
  go_wp2_with fail
  go_ret
  exact ⟨_, _, rfl, ⟨_, _, _, _, rfl, H.out⟩, fun k hk => hk.elim (h2 k) (fun e => by have := B.out.size; omega), on B.out (W07.below_one _ _)⟩
set_option maxHeartbeats 2000000 in
theorem count_any (h : RepF Rep F w v x) : Calls Tryz.prog 21 #[v] w fun e w' => e = .returned (.int .i64 x.count) ∧ Below w.heap.size w w' := by
  obtain ⟨Ft, p, tv, mv, rfl, h⟩ := h
  have c2 := h.box.c2
  clear h
  go_enter Tryz.func21, Tryz.ntmps21
  go_wp2_with fail
  go_ret
  exact ⟨rfl, Below.refl _ _⟩
set_option maxHeartbeats 2000000 in
theorem down_any (h : RepF Rep F w v x) : Calls Tryz.prog 22 #[v] w fun e w' => e = .returned (.bool x.down) ∧ Below w.heap.size w w' := by
  obtain ⟨Ft, p, tv, mv, rfl, h⟩ := h
  have c3 := h.box.c3
  clear h
  go_enter Tryz.func22, Tryz.ntmps22
  go_wp2_with fail
  go_ret
  exact ⟨rfl, Below.refl _ _⟩
set_option maxHeartbeats 2000000 in
theorem tree_any (h : RepF Rep F w v x) : Calls Tryz.prog 20 #[v] w fun e w' => ∃ tv Ft, e = .returned tv ∧ Rep Ft w' tv x.t ∧ (∀ k, Ft k → F k) ∧ Below w.heap.size w w' := by
  obtain ⟨Ft, p, tv, mv, rfl, h⟩ := h
  have c0 := h.box.c0
  have H := Lib.hid h
  clear h
  go_enter Tryz.func20, Tryz.ntmps20
  go_wp2_with fail
  go_ret
  exact ⟨tv, Ft, rfl, H.out.tree, H.out.sub, Below.refl _ _⟩
set_option maxHeartbeats 2000000 in
theorem plan_any (C : Trees Rep) (h : RepF Rep F w v x) (u : Value) (L : List Fl) (hL : Faults w.heap.size w u L) :
    Calls Tryz.prog 17 #[v, u] w fun e w' => e = .returned (.tuple #[]) ∧ Turned (RepF Rep) F v { x with faults := L, count := 0 } w w' := by
  obtain ⟨Ft, p, tv, mv, rfl, h⟩ := h
  have HB := Lib.hid (byChange_any u L w hL)
  have HH := Lib.hid h
  obtain ⟨A, c, rfl, -, -⟩ := hL.recs.form
  clear h hL
  go_enter Tryz.func17, Tryz.ntmps17
  go_wp2_with fail
  refine HB.out.mono ?_
  rintro e w1 ⟨mb, m, rfl, hmb, hT, hb⟩
  have hlt := hT.lt
  have h1 := (HH.out.below C hb).wider hlt
  have c0 := h1.box.c0
  have c1 := h1.box.c1
  have c2 := h1.box.c2
  have f1 := h1.box.fr 1
  have f2 := h1.box.fr 2
  have hpm : mb ≠ p := by have := HH.out.box.lt; omega
  have ht : Turns (fun k => k = p) w1 ((w1.setCell ⟨p, 1, none⟩ (.map (some mb))).setCell ⟨p, 2, none⟩ (.int .i64 0)) := (turns_one _ _ _ _).trans (turns_one _ _ _ _)
  have hm : Marks (fun k => F k ∨ k = mb) Ft ((w1.setCell ⟨p, 1, none⟩ (.map (some mb))).setCell ⟨p, 2, none⟩ (.int .i64 0)) p (.map (some mb)) L :=
    Or.inr ⟨mb, m, rfl, Or.inr rfl, fun hk => by have := HH.out.low _ (HH.out.sub _ hk); omega, hpm, hT.keep (ht.block mb hlt hpm)⟩
  have H := Lib.hid (h1.stored C ht (x' := { x with faults := L, count := 0 }) ((h1.box.set1 _).set2 _) rfl hm)
  have T := Lib.hid ht
  have B := Lib.hid hb
  clear h1 ht hm hT hb
  go_wp2_with fail
  go_end0
  refine ⟨rfl, fun k => F k ∨ k = mb, ⟨_, _, _, _, rfl, H.out⟩, ?_, fun k hk => hk.imp id (fun e => by omega)⟩
  exact (Turns.new B.out).trans (T.out.wider fun k e => by have : k = p := e; rw [this]; exact HH.out.fp)
end

/-! the calls of a nil pointer -/
end Go.Proofs.YtmbpgjncioegdaaGreatDoor.W10
/-
  Layer 10 (fs), walks of the landed code: Do, over any reading of a tree. The conditions stand in the statements.
-/
namespace Go.Proofs.YtmbpgjncioegdaaGreatDoor.W10
set_option maxRecDepth 100000
open Go Go.RowKit Go.Proofs.YtmbpgjncioegdaaGreatDoor.Strs Go.Proofs.YtmbpgjncioegdaaGreatDoor.Recs Go.Proofs.YtmbpgjncioegdaaGreatDoor.Range Go.Proofs.YtmbpgjncioegdaaGreatDoor.Maps
open Go.Proofs.YtmbpgjncioegdaaGreatDoor.M07 (Tr nodeAt Right)
open Go.Proofs.YtmbpgjncioegdaaGreatDoor.M09 Go.Proofs.YtmbpgjncioegdaaGreatDoor.M10
open Go.Proofs.YtmbpgjncioegdaaGreatDoor.W07 (Small Trees Wrote heap_top set_heap)
open Go.Proofs.YtmbpgjncioegdaaGreatDoor.W09 (Posix TaskBox)
open Go.Proofs.YtmbpgjncioegdaaGreatDoor.Kit (ret_str ret_bool ret_int mk_of mk_bytes ba_ext below_draws on)

section
variable {Rep : Blocks → World → Value → Tr → Prop} {F Ft : Blocks} {w w' : World} {p : Nat} {v tv mv : Value} {x : Fs} {t : Tr}
theorem do_down {k : Int} {a b : Bytes} (h : x.down = true) : doFs x k a b = (x, 17) := by unfold doFs; rw [if_pos h]
theorem do_kind {k : Int} {a b : Bytes} (h : x.down = false) (hk : ¬ (1 ≤ k ∧ k ≤ 6)) : doFs x k a b = (x, 2) := by
  unfold doFs
  rw [if_neg (by rw [h]; decide), if_pos (by omega)]
theorem do_fault {k : Int} {a b : Bytes} (h : x.down = false) (hk : 1 ≤ k ∧ k ≤ 6) (hf : fault x.faults (x.count + 1) ≠ 0) : doFs x k a b = ({ x with count := x.count + 1, down := decide (fault x.faults (x.count + 1) = 17) }, fault x.faults (x.count + 1)) := by
  unfold doFs
  rw [if_neg (by rw [h]; decide), if_neg (by omega), if_pos hf]
theorem do_task {k : Int} {a b : Bytes} (h : x.down = false) (hk : 1 ≤ k ∧ k ≤ 6) (hf : ¬ fault x.faults (x.count + 1) ≠ 0) : doFs x k a b = ({ x with t := (doTask x.t k a b).1, count := x.count + 1 }, (doTask x.t k a b).2) := by
  unfold doFs
  rw [if_neg (by rw [h]; decide), if_neg (by omega), if_neg hf]
theorem nil_nil (w : World) : (binOp BinOp.eql 99 .nilFunc .nilFunc).run Tryz.prog w = .ok (.bool true) w := by kernel_rfl
theorem way_nil (g : Nat) (w : World) : (binOp BinOp.eql 99 (way g) .nilFunc).run Tryz.prog w = .ok (.bool false) w := by kernel_rfl
theorem below_task (w : World) (k : Int) (s d : ByteArray) : Below w.heap.size w (w.alloc (.cells #[.int .i64 k, .string s, .string d] 59)) := W07.below_one _ _
theorem task_there (w : World) (k : Int) (s d : ByteArray) : TaskBox (w.alloc (.cells #[.int .i64 k, .string s, .string d] 59)) w.heap.size k s d := heap_top _ _
theorem doerOf_at {k : Int} {g : Nat} (hk : 1 ≤ k ∧ k ≤ 6) (hg : ways[k.toNat]? = some (way g)) (w : World) : Calls Tryz.prog 54 #[.int .i64 k] w fun e w' => e = .returned (way g) ∧ Below w.heap.size w w' :=
  (doerOf_any k hk w).mono fun e w' ⟨⟨v, he, hv⟩, hb⟩ => ⟨by rw [hg] at hv; rw [he, Option.some.inj hv], hb⟩
theorem fault_end {w3 : World} {tv : Value} (C : Trees Rep) (h : FsAt Rep F Ft w3 p tv mv { x with count := x.count + 1 }) (hu : Turns F w w3) (hp : F p) (n : Nat) (b : Bool) :
    Turned (RepF Rep) F (.pointer (some ⟨p, 0, none⟩)) { x with count := x.count + 1, down := b } w ((w3.drewN n).setCell ⟨p, 3, none⟩ (.bool b)) := by
  have h1 := h.keep C (w' := w3.drewN n) (fun _ _ => rfl) (Nat.le_refl _)
  have ht := turns_one (w3.drewN n) p 3 (.bool b)
  exact (h1.stored C ht (x' := { x with count := x.count + 1, down := b }) (h1.box.set3 b) rfl (h1.marks_turns ht)).turned ((hu.trans (Turns.draw _ _ _)).trans (ht.wider (T' := F) fun k e => by have : k = p := e; rw [this]; exact hp))
theorem task_end {w3 : World} {tv : Value} {g : Nat} {k : Int} (C : Trees Rep) (HD : Does Rep g k) (hg : W09.Good x.t) (h : FsAt Rep F Ft w3 p tv mv { x with count := x.count + 1 }) (hu : Turns F w w3) {q : Nat} (hq : ¬ F q) (s d : ByteArray) (hb : TaskBox w3 q k s d) (hs : s.size ≤ 1048576) (hd : d.size ≤ 1048576) (n : Nat) :
    Calls Tryz.prog g #[tv, .agg #[.int .i64 k, .string s, .string d]] (w3.drewN n) fun e w' => e = .returned (.int .i64 (doTask x.t k s.data.toList d.data.toList).2) ∧ (w'.cell? ⟨p, 0, none⟩ = some tv ∧ w'.cell? ⟨q, 0, none⟩ = some (.int .i64 k) ∧ w'.cell? ⟨q, 1, none⟩ = some (.string s) ∧ w'.cell? ⟨q, 2, none⟩ = some (.string d)) ∧ Turned (RepF Rep) F (.pointer (some ⟨p, 0, none⟩)) { x with t := (doTask x.t k s.data.toList d.data.toList).1, count := x.count + 1 } w w' := by
  have h1 := h.keep C (w' := w3.drewN n) (fun _ _ => rfl) (Nat.le_refl _)
  refine (HD h1.tree hg s d hs hd).mono ?_
  rintro e w' ⟨rfl, hw⟩
  have hw2 := hw
  obtain ⟨F', -, h2, -⟩ := hw2
  have b1 := h1.box.turns h2 h.tp
  have b2 : TaskBox w' q k s d := h2.keeps (show TaskBox (w3.drewN n) q k s d from hb) (fun hk => hq (h.sub _ hk))
  exact ⟨rfl, ⟨b1.c0, b2.c0, b2.c1, b2.c2⟩, Turned.from (hu.trans (Turns.draw _ _ _)) (h1.wrote C hw)⟩
set_option maxHeartbeats 4000000 in
theorem do_fault_way (C : Trees Rep) (hfull : ∀ {F w v t}, Rep F w v t → ∃ a, v = .pointer (some a)) {g : Nat} {k : Int} (hk : 1 ≤ k ∧ k ≤ 6) (hw : ways[k.toNat]? = some (way g)) (hf : fault x.faults (x.count + 1) ≠ 0) (h : FsAt Rep F Ft w p tv mv x) (hdn : x.down = false) (hc : Counts x) (s d : ByteArray) :
    Calls Tryz.prog 43 #[.pointer (some ⟨p, 0, none⟩), .agg #[.int .i64 k, .string s, .string d]] w fun e w' => e = .returned (.int .i64 (doFs x k s.data.toList d.data.toList).2) ∧ Turned (RepF Rep) F (.pointer (some ⟨p, 0, none⟩)) (doFs x k s.data.toList d.data.toList).1 w w' := by
  have B1 := Lib.hid (below_task w k s d)
  have TB := Lib.hid (task_there w k s d)
  have H1 := Lib.hid (h.below C B1.out)
  have HOF := Lib.hid (doerOf_at hk hw)
  obtain ⟨ta, rfl⟩ := hfull h.tree
  generalize hw1 : w.alloc (.cells #[.int .i64 k, .string s, .string d] 59) = w1 at *
  obtain ⟨q, hq⟩ : ∃ q, w.heap.size = q := ⟨_, rfl⟩
  rw [hq] at TB
  have hpq : q ≠ p := by have := h.box.lt; omega
  have c3 := H1.out.box.c3
  rw [hdn] at c3
  have k0 := TB.out.c0
  have hwn := way_nil g
  obtain ⟨hc1, hc2⟩ := hc
  have HFP := Lib.hid h.fp
  have HFQ : Hid (¬ F q) := Lib.hid (fun hk => by have := h.low _ hk; omega)
  clear h
  rw [do_fault hdn hk hf]
  simp only []
  go_enter Tryz.func43, Tryz.ntmps43
  go_wp2_with fail
  clear hw1
  refine (HOF.out _).mono ?_
  rintro e w2 ⟨rfl, hb⟩
  have H2 := H1.out.below C hb
  have T2 := Lib.hid (TB.out.below hb)
  have B2 := Lib.hid (on B1.out hb)
  have c2 := H2.box.c2
  have f2 := H2.box.fr 2
  have ht := turns_one w2 p 2 (.int .i64 (x.count + 1))
  have H3 := H2.stored C ht (x' := { x with count := x.count + 1 }) (H2.box.set2 _) rfl (H2.marks_turns ht)
  have T3 : Hid (TaskBox (w2.setCell ⟨p, 2, none⟩ (.int .i64 (x.count + 1))) q k s d) := Lib.hid (ht.keeps T2.out hpq)
  have U3 := Lib.hid ((Turns.new B2.out).trans (ht.wider (T' := F) fun k e => by have : k = p := e; rw [this]; exact HFP.out))
  obtain ⟨w3, hw3⟩ : ∃ w3, w2.setCell ⟨p, 2, none⟩ (.int .i64 (x.count + 1)) = w3 := ⟨_, rfl⟩
  rw [hw3] at H3 T3 U3
  have g0 := H3.box.c0
  have g1 := H3.box.c1
  have g2 := H3.box.c2
  have g3 := H3.box.c3
  have f3 := H3.box.fr 3
  have q0 := T3.out.c0
  have q1 := T3.out.c1
  have q2 := T3.out.c2
  have hask := H3.marks.ask (show (1 : Int) ≤ x.count + 1 by omega)
  have HM := Lib.hid H3
  rw [decide_eq_true hf] at hask
  clear H3 H2 hb ht
  go_wp2_with fail
  clear hw3
  go_quiet (fail)
  have hfin := Lib.hid (fun n => fault_end C HM.out U3.out HFP.out n (decide (fault x.faults (x.count + 1) = 17)))
  clear HM U3 T3 hask
  go_wp2_with fail
  go_ret
  exact ⟨rfl, hfin.out _⟩
set_option maxHeartbeats 4000000 in
theorem do_task_way (C : Trees Rep) (hfull : ∀ {F w v t}, Rep F w v t → ∃ a, v = .pointer (some a)) {g : Nat} {k : Int} (hk : 1 ≤ k ∧ k ≤ 6) (hw : ways[k.toNat]? = some (way g)) (eg : ∀ args w, (callFunc g args).run Tryz.prog w = .ok (.enter g args) w) (HD : Does Rep g k) (hg : W09.Good x.t) (hf : ¬ fault x.faults (x.count + 1) ≠ 0) (h : FsAt Rep F Ft w p tv mv x) (hdn : x.down = false) (hc : Counts x) (s d : ByteArray) (hs : s.size ≤ 1048576) (hd : d.size ≤ 1048576) :
    Calls Tryz.prog 43 #[.pointer (some ⟨p, 0, none⟩), .agg #[.int .i64 k, .string s, .string d]] w fun e w' => e = .returned (.int .i64 (doFs x k s.data.toList d.data.toList).2) ∧ Turned (RepF Rep) F (.pointer (some ⟨p, 0, none⟩)) (doFs x k s.data.toList d.data.toList).1 w w' := by
  have B1 := Lib.hid (below_task w k s d)
  have TB := Lib.hid (task_there w k s d)
  have H1 := Lib.hid (h.below C B1.out)
  have HOF := Lib.hid (doerOf_at hk hw)
  obtain ⟨ta, rfl⟩ := hfull h.tree
  generalize hw1 : w.alloc (.cells #[.int .i64 k, .string s, .string d] 59) = w1 at *
  obtain ⟨q, hq⟩ : ∃ q, w.heap.size = q := ⟨_, rfl⟩
  rw [hq] at TB
  have hpq : q ≠ p := by have := h.box.lt; omega
  have c3 := H1.out.box.c3
  rw [hdn] at c3
  have k0 := TB.out.c0
  have hwn := way_nil g
  obtain ⟨hc1, hc2⟩ := hc
  have HFP := Lib.hid h.fp
  have HFQ : Hid (¬ F q) := Lib.hid (fun hk => by have := h.low _ hk; omega)
  clear h
  rw [do_task hdn hk hf]
  simp only []
  go_enter Tryz.func43, Tryz.ntmps43
  go_wp2_with fail
  clear hw1
  refine (HOF.out _).mono ?_
  rintro e w2 ⟨rfl, hb⟩
  have H2 := H1.out.below C hb
  have T2 := Lib.hid (TB.out.below hb)
  have B2 := Lib.hid (on B1.out hb)
  have c2 := H2.box.c2
  have f2 := H2.box.fr 2
  have ht := turns_one w2 p 2 (.int .i64 (x.count + 1))
  have H3 := H2.stored C ht (x' := { x with count := x.count + 1 }) (H2.box.set2 _) rfl (H2.marks_turns ht)
  have T3 : Hid (TaskBox (w2.setCell ⟨p, 2, none⟩ (.int .i64 (x.count + 1))) q k s d) := Lib.hid (ht.keeps T2.out hpq)
  have U3 := Lib.hid ((Turns.new B2.out).trans (ht.wider (T' := F) fun k e => by have : k = p := e; rw [this]; exact HFP.out))
  obtain ⟨w3, hw3⟩ : ∃ w3, w2.setCell ⟨p, 2, none⟩ (.int .i64 (x.count + 1)) = w3 := ⟨_, rfl⟩
  rw [hw3] at H3 T3 U3
  have g0 := H3.box.c0
  have g1 := H3.box.c1
  have g2 := H3.box.c2
  have g3 := H3.box.c3
  have f3 := H3.box.fr 3
  have q0 := T3.out.c0
  have q1 := T3.out.c1
  have q2 := T3.out.c2
  have hask := H3.marks.ask (show (1 : Int) ≤ x.count + 1 by omega)
  have HM := Lib.hid H3
  rw [decide_eq_false hf] at hask
  clear H3 H2 hb ht
  go_wp2_with fail
  clear hw3
  go_quiet (fail)
  have hfin := Lib.hid (task_end C HD hg HM.out U3.out HFQ.out s d T3.out hs hd)
  clear HM U3 T3 hask
  go_wp2_with fail
  go_region_held3 (fun w' => w'.cell? ⟨p, 0, none⟩ = some (.pointer (some ta)) ∧ w'.cell? ⟨q, 0, none⟩ = some (.int .i64 k) ∧ w'.cell? ⟨q, 1, none⟩ = some (.string s) ∧ w'.cell? ⟨q, 2, none⟩ = some (.string d))
    (first | exact h8 | exact ⟨g0, q0, q1, q2⟩ | go_keep)
    (first | (refine (hfin.out _).mono ?_; rintro e w9 ⟨rfl, h8, h9⟩; have H9 := Lib.hid h9; clear h9))
  all_goals (
    go_wp2_with fail
    go_ret
    exact ⟨rfl, H9.out⟩)
set_option maxHeartbeats 4000000 in
theorem do_any (C : Trees Rep) (hfull : ∀ {F w v t}, Rep F w v t → ∃ a, v = .pointer (some a)) (S : Posix Rep) (h : RepF Rep F w v x) (hg : W09.Good x.t) (hc : Counts x) (k : Int) (s d : ByteArray) (hs : s.size ≤ 1048576) (hd : d.size ≤ 1048576) :
    Calls Tryz.prog 43 #[v, .agg #[.int .i64 k, .string s, .string d]] w fun e w' => e = .returned (.int .i64 (doFs x k s.data.toList d.data.toList).2) ∧ Turned (RepF Rep) F v (doFs x k s.data.toList d.data.toList).1 w w' := by
  obtain ⟨Ft, p, tv, mv, rfl, h⟩ := h
  have B1 := Lib.hid (below_task w k s d)
  have TB := Lib.hid (task_there w k s d)
  have H1 := Lib.hid (h.below C B1.out)
  have HH := Lib.hid h
  generalize hw1 : w.alloc (.cells #[.int .i64 k, .string s, .string d] 59) = w1 at *
  have c3 := H1.out.box.c3
  have k0 := TB.out.c0
  cases hdn : x.down with
  | true =>
    rw [do_down hdn]
    rw [hdn] at c3
    have HT : Hid (Turned (RepF Rep) F (.pointer (some ⟨p, 0, none⟩)) x w w1) := H1.out.turned (Turns.new B1.out)
    clear h hg hc
    go_enter Tryz.func43, Tryz.ntmps43
    go_wp2_with fail
    go_ret
    exact ⟨rfl, HT.out⟩
  | false =>
    rw [hdn] at c3
    by_cases hk : 1 ≤ k ∧ k ≤ 6
    · by_cases hf : fault x.faults (x.count + 1) ≠ 0
      · have hk2 : k = 1 ∨ k = 2 ∨ k = 3 ∨ k = 4 ∨ k = 5 ∨ k = 6 := by omega
        rcases hk2 with rfl | rfl | rfl | rfl | rfl | rfl
        all_goals exact do_fault_way C hfull hk rfl hf h hdn hc s d
      · have hk2 : k = 1 ∨ k = 2 ∨ k = 3 ∨ k = 4 ∨ k = 5 ∨ k = 6 := by omega
        rcases hk2 with rfl | rfl | rfl | rfl | rfl | rfl
        · exact do_task_way C hfull hk rfl (enters_of Tryz.func86 (by kernel_rfl) rfl) (does1_any C S) hg hf h hdn hc s d hs hd
        · exact do_task_way C hfull hk rfl (enters_of Tryz.func88 (by kernel_rfl) rfl) (does2_any C S) hg hf h hdn hc s d hs hd
        · exact do_task_way C hfull hk rfl (enters_of Tryz.func90 (by kernel_rfl) rfl) (does3_any C S) hg hf h hdn hc s d hs hd
        · exact do_task_way C hfull hk rfl (enters_of Tryz.func92 (by kernel_rfl) rfl) (does4_any C S) hg hf h hdn hc s d hs hd
        · exact do_task_way C hfull hk rfl (enters_of Tryz.func94 (by kernel_rfl) rfl) (does5_any C S) hg hf h hdn hc s d hs hd
        · exact do_task_way C hfull hk rfl (enters_of Tryz.func96 (by kernel_rfl) rfl) (does6_any C S) hg hf h hdn hc s d hs hd
    · rw [do_kind hdn hk]
      have HD := Lib.hid (doerOf_none k hk)
      have hnn := nil_nil
      clear h hg hc hk
      go_enter Tryz.func43, Tryz.ntmps43
      go_wp2_with fail
      clear hw1
      refine (HD.out _).mono ?_
      rintro e w2 ⟨rfl, hb⟩
      have HT : Hid (Turned (RepF Rep) F (.pointer (some ⟨p, 0, none⟩)) x w w2) := (H1.out.below C hb).turned (Turns.new (on B1.out hb))
      clear hb
      go_wp2_with fail
      go_ret
      exact ⟨rfl, HT.out⟩
end
end Go.Proofs.YtmbpgjncioegdaaGreatDoor.W10
/-
  Layer 20 (act), walks: which tasks may be a plan, by the program (checkPlan) and by the document (may): what each returns. New memory is laid, nothing that was there is changed. The conditions stand in the statements.
-/
namespace Go.Proofs.YtmbpgjncioegdaaGreatDoor.W20
set_option maxRecDepth 100000
open Go Go.RowKit Go.Proofs.YtmbpgjncioegdaaGreatDoor.Strs Go.Proofs.YtmbpgjncioegdaaGreatDoor.Recs Go.Proofs.YtmbpgjncioegdaaGreatDoor.Range
open Go.Proofs.YtmbpgjncioegdaaGreatDoor.M19 (right)
open Go.Proofs.YtmbpgjncioegdaaGreatDoor.M20
open Go.Proofs.YtmbpgjncioegdaaGreatDoor.W09 (Tk Tasks tkC_len TaskBox)
open Go.Proofs.YtmbpgjncioegdaaGreatDoor.W10 (below_task task_there)
open Go.Proofs.YtmbpgjncioegdaaGreatDoor.Kit (ret_str ret_bool ret_int mk_of mk_bytes ba_ext below_draws on)

/-- texts that a task's walk may have -/
def Texts (L : List Tk) : Prop := ∀ x ∈ L, x.path.length ≤ 1048576 ∧ x.text.length ≤ 1048576
theorem may_few {L : List Tk} {k : Nat} (hk : ¬ k < L.length) (h : rightTo L k) (h2 : L.length ≤ 10000) : may L = 0 := by rw [may_end hk h, if_neg (by omega)]
theorem may_many {L : List Tk} {k : Nat} (hk : ¬ k < L.length) (h : rightTo L k) (h2 : 10000 < L.length) : may L = 21 := by rw [may_end hk h, if_pos h2]
/-- a task's cells as a text's bytes -/
theorem task_cells {w : World} {b o : Nat} {y : Tk} (h0 : w.cell? ⟨b, o, none⟩ = some (.int .i64 y.kind)) (h1 : w.cell? ⟨b, o + 1, none⟩ = some (.string ⟨y.path.toArray⟩)) (h2 : w.cell? ⟨b, o + 2, none⟩ = some (.string ⟨y.text.toArray⟩)) (hx : y.path.length ≤ 1048576 ∧ y.text.length ≤ 1048576) :
    ∃ (k : Int) (p t : ByteArray), y = ⟨k, p.data.toList, t.data.toList⟩ ∧ w.cell? ⟨b, o, none⟩ = some (.int .i64 k) ∧ w.cell? ⟨b, o + 1, none⟩ = some (.string p) ∧ w.cell? ⟨b, o + 2, none⟩ = some (.string t) ∧ p.size ≤ 1048576 ∧ t.size ≤ 1048576 := by
  obtain ⟨k, p, t⟩ := y
  exact ⟨k, ⟨p.toArray⟩, ⟨t.toArray⟩, rfl, h0, h1, h2, by rw [Lib.size_eq]; exact hx.1, by rw [Lib.size_eq]; exact hx.2⟩
set_option maxHeartbeats 2000000 in
theorem check_any (v : Value) (L : List Tk) (w : World) (h : Tasks w.heap.size w v L) (hs : Texts L) :
    Calls Tryz.prog 28 #[v] w fun e w' => e = .returned (.int .i64 (may L)) ∧ Below w.heap.size w w' := by
  obtain ⟨A, c, rfl, hA1, hA2⟩ := h.form
  unfold maxLen at hA2
  have H := Lib.hid h
  have HS := Lib.hid hs
  clear h hs
  generalize hm : L.length = m at *
  have HM := Lib.hid hm
  clear hm
  go_enter Tryz.func28, Tryz.ntmps28
  go_wp2_with fail
  go_loopw [7] (fun i wr => ∃ k : Nat, k ≤ m ∧ i = .int .i64 k ∧ Hid (rightTo L k) ∧ Hid (Below w.heap.size w wr)) (fun i _ => m - (intOf i).toNat)
  case atStart => exact ⟨0, Nat.zero_le _, rfl, right_start _, Below.refl _ _⟩
  case round =>
    obtain ⟨k, hk, rfl, hr, hB⟩ := hrel
    by_cases hlt : k < m
    · obtain ⟨b, o, hl1, rfl, hbl, a0, a1, a2⟩ := Tasks.at_ (H.out.below hB.out) hlt
      have HN := Lib.hid (right_next hl1 hr.out)
      have HX := Lib.hid (may_no hl1)
      obtain ⟨yk, sp, st, hy, c0, c1, c2, hp, ht⟩ := task_cells a0 a1 a2 (HS.out _ (List.getElem_mem hl1))
      rw [hy] at HN HX
      have HR := Lib.hid (fun w' => W19.right_any yk sp st (by omega) (by omega) w')
      unfold W19.taskV at HR
      have B1 := Lib.hid (below_task wr yk sp st)
      have TB := Lib.hid (task_there wr yk sp st)
      obtain ⟨wB, hwB⟩ : ∃ wB, wr.alloc (.cells #[.int .i64 yk, .string sp, .string st] 59) = wB := ⟨_, rfl⟩
      rw [hwB] at B1 TB
      have k0 := TB.out.c0
      have k1 := TB.out.c1
      have k2 := TB.out.c2
      clear a0 a1 a2 hy hp ht hr
      generalize right ⟨yk, sp.data.toList, st.data.toList⟩ = r at *
      have BB := Lib.hid (on hB.out B1.out)
      cases r with
      | true =>
        replace HN := Lib.hid (HN.out rfl)
        go_wp2_with fail
        clear hwB
        refine (HR.out _).mono ?_
        rintro e w2 ⟨rfl, hb⟩
        have B2 := Lib.hid (on BB.out hb)
        clear hb
        go_wp2_with fail
        go_roundw
        case rel => exact ⟨k + 1, by omega, by go_num, HN, B2⟩
        case measure => simp [intOf]; omega
      | false =>
        replace HX := Lib.hid (HX.out rfl)
        go_wp2_with fail
        clear hwB
        refine (HR.out _).mono ?_
        rintro e w2 ⟨rfl, hb⟩
        have B2 := Lib.hid (on BB.out hb)
        clear hb
        go_wp2_with fail
        go_ret
        exact ⟨ret_int HX.out.symm, B2.out⟩
    · by_cases hmany : m ≤ 10000
      · have HX := Lib.hid (may_few (by rw [HM.out]; exact hlt) hr.out (by rw [HM.out]; exact hmany))
        have t1 : decide ((10000 : Int) < (m : Int)) = false := decide_eq_false (by omega)
        go_wp2_with fail
        go_ret
        exact ⟨ret_int HX.out.symm, hB.out⟩
      · have HX := Lib.hid (may_many (by rw [HM.out]; exact hlt) hr.out (by rw [HM.out]; omega))
        have t1 : decide ((10000 : Int) < (m : Int)) = true := decide_eq_true (by omega)
        go_wp2_with fail
        go_ret
        exact ⟨ret_int HX.out.symm, hB.out⟩
set_option maxHeartbeats 2000000 in
theorem refMay_any (v : Value) (L : List Tk) (B : Nat) (w : World) (h : Tasks B w v L) (hlow : B ≤ w.heap.size) (hs : Texts L) :
    Calls Tryz.prog 31 #[v] w fun e w' => e = .returned (.int .i64 (may L)) ∧ Below w.heap.size w w' := by
  obtain ⟨A, c, rfl, hA1, hA2⟩ := h.form
  unfold maxLen at hA2
  have H := Lib.hid (h.more hlow)
  have HS := Lib.hid hs
  clear h hs hlow
  generalize hm : L.length = m at *
  have HM := Lib.hid hm
  clear hm
  go_enter Tryz.func31, Tryz.ntmps31
  go_wp2_with fail
  go_loopw [3] (fun i wr => ∃ k : Nat, k ≤ m ∧ i = .int .i64 k ∧ Hid (rightTo L k) ∧ Hid (Below w.heap.size w wr)) (fun i _ => m - (intOf i).toNat)
  case atStart => exact ⟨0, Nat.zero_le _, rfl, right_start _, Below.refl _ _⟩
  case round =>
    obtain ⟨k, hk, rfl, hr, hB⟩ := hrel
    by_cases hlt : k < m
    · obtain ⟨b, o, hl1, rfl, hbl, a0, a1, a2⟩ := Tasks.at_ (H.out.below hB.out) hlt
      have HN := Lib.hid (right_next hl1 hr.out)
      have HX := Lib.hid (may_no hl1)
      obtain ⟨yk, sp, st, hy, c0, c1, c2, hp, ht⟩ := task_cells a0 a1 a2 (HS.out _ (List.getElem_mem hl1))
      rw [hy] at HN HX
      have HR := Lib.hid (fun w' => W19.refRight_any yk sp st (by omega) (by omega) w')
      unfold W19.taskV at HR
      clear a0 a1 a2 hy hp ht hr
      generalize right ⟨yk, sp.data.toList, st.data.toList⟩ = r at *
      cases r with
      | true =>
        replace HN := Lib.hid (HN.out rfl)
        go_wp2_with fail
        refine (HR.out _).mono ?_
        rintro e w2 ⟨rfl, hb⟩
        have B2 := Lib.hid (on hB.out hb)
        clear hb
        go_wp2_with fail
        go_roundw
        case rel => exact ⟨k + 1, by omega, by go_num, HN, B2⟩
        case measure => simp [intOf]; omega
      | false =>
        replace HX := Lib.hid (HX.out rfl)
        go_wp2_with fail
        refine (HR.out _).mono ?_
        rintro e w2 ⟨rfl, hb⟩
        have B2 := Lib.hid (on hB.out hb)
        clear hb
        go_wp2_with fail
        go_ret
        exact ⟨ret_int HX.out.symm, B2.out⟩
    · by_cases hmany : m ≤ 10000
      · have HX := Lib.hid (may_few (by rw [HM.out]; exact hlt) hr.out (by rw [HM.out]; exact hmany))
        have t1 : decide ((10000 : Int) < (m : Int)) = false := decide_eq_false (by omega)
        go_wp2_with fail
        go_ret
        exact ⟨ret_int HX.out.symm, hB.out⟩
      · have HX := Lib.hid (may_many (by rw [HM.out]; exact hlt) hr.out (by rw [HM.out]; omega))
        have t1 : decide ((10000 : Int) < (m : Int)) = true := decide_eq_true (by omega)
        go_wp2_with fail
        go_ret
        exact ⟨ret_int HX.out.symm, hB.out⟩
end Go.Proofs.YtmbpgjncioegdaaGreatDoor.W20
/-
  Layer 10 (fs), walks of the landed code: Apply, over any reading of a tree. The conditions stand in the statements.
-/
namespace Go.Proofs.YtmbpgjncioegdaaGreatDoor.W10
set_option maxRecDepth 100000
open Go Go.RowKit Go.Proofs.YtmbpgjncioegdaaGreatDoor.Strs Go.Proofs.YtmbpgjncioegdaaGreatDoor.Recs Go.Proofs.YtmbpgjncioegdaaGreatDoor.Range Go.Proofs.YtmbpgjncioegdaaGreatDoor.Maps
open Go.Proofs.YtmbpgjncioegdaaGreatDoor.M07 (Tr nodeAt Right)
open Go.Proofs.YtmbpgjncioegdaaGreatDoor.M09 Go.Proofs.YtmbpgjncioegdaaGreatDoor.M10
open Go.Proofs.YtmbpgjncioegdaaGreatDoor.W07 (Small Trees Wrote Off heap_top narrow)
open Go.Proofs.YtmbpgjncioegdaaGreatDoor.W09 (Posix TaskBox Tk Tasks tkC tkC_len Within)
open Go.Proofs.YtmbpgjncioegdaaGreatDoor.Kit (ret_str ret_bool ret_int mk_of mk_bytes ba_ext below_draws on)

theorem tasks_turns {F : Blocks} {B : Nat} {w w' : World} {v : Value} {L : List Tk} (h : Tasks B w v L) (ht : Turns F w w') (hoff : Off F v) : Tasks B w' v L := by
  by_cases h0 : 0 < L.length
  · obtain ⟨A, c, rfl, h1, h2⟩ := h.form
    obtain ⟨b, o, _, rfl, hb, hc0, _⟩ := Tasks.at_ h h0
    have hlt := World.block_lt_of_cell? w _ hc0
    exact Recs.other h fun p hp => World.cell?_of_block (ht.block _ (by rw [hp]; exact hlt) (by rw [hp]; exact hoff _ _ _ _ rfl))
  · have e : L = [] := List.length_eq_zero_iff.1 (by omega)
    subst e
    obtain ⟨A, c, rfl, h1, h2, h3⟩ := h
    exact ⟨A, c, rfl, h1, h2, fun h => absurd h (by simp)⟩
theorem task_none {t : Tr} {k : Int} {a b : Bytes} (h : ¬ (1 ≤ k ∧ k ≤ 6)) : doTask t k a b = (t, 2) := by
  unfold doTask
  rw [if_neg (by omega), if_neg (by omega), if_neg (by omega), if_neg (by omega), if_neg (by omega), if_neg (by omega)]
theorem done_stop {t0 t : Tr} {l : List Tk} {k : Nat} {y : Tk} (h : Done t0 l k t) (hy : l[k]? = some y) (he : (doTask t y.kind y.path y.text).2 ≠ 0) : applyAll t0 l = (t, k, (doTask t y.kind y.path y.text).2) := by
  obtain ⟨hk, rfl⟩ := List.getElem?_eq_some_iff.1 hy
  exact h.stop hk he
theorem done_next {t0 t : Tr} {l : List Tk} {k : Nat} {y : Tk} (h : Done t0 l k t) (hy : l[k]? = some y) (he : (doTask t y.kind y.path y.text).2 = 0) : Done t0 l (k + 1) (doTask t y.kind y.path y.text).1 := by
  obtain ⟨hk, rfl⟩ := List.getElem?_eq_some_iff.1 hy
  exact h.next hk he
section
variable {Rep : Blocks → World → Value → Tr → Prop}
theorem way_of (C : Trees Rep) (S : Posix Rep) {k : Int} (hk : 1 ≤ k ∧ k ≤ 6) : ∃ g, ways[k.toNat]? = some (way g) ∧ (∀ args w, (callFunc g args).run Tryz.prog w = .ok (.enter g args) w) ∧ Does Rep g k := by
  have hk2 : k = 1 ∨ k = 2 ∨ k = 3 ∨ k = 4 ∨ k = 5 ∨ k = 6 := by omega
  rcases hk2 with rfl | rfl | rfl | rfl | rfl | rfl
  · exact ⟨_, rfl, enters_of Tryz.func86 (by kernel_rfl) rfl, does1_any C S⟩
  · exact ⟨_, rfl, enters_of Tryz.func88 (by kernel_rfl) rfl, does2_any C S⟩
  · exact ⟨_, rfl, enters_of Tryz.func90 (by kernel_rfl) rfl, does3_any C S⟩
  · exact ⟨_, rfl, enters_of Tryz.func92 (by kernel_rfl) rfl, does4_any C S⟩
  · exact ⟨_, rfl, enters_of Tryz.func94 (by kernel_rfl) rfl, does5_any C S⟩
  · exact ⟨_, rfl, enters_of Tryz.func96 (by kernel_rfl) rfl, does6_any C S⟩
/-- where the loop stands -/
structure Way (Rep : Blocks → World → Value → Tr → Prop) (F : Blocks) (w wr : World) (tv u : Value) (T0 : Tr) (L : List Tk) (k : Nat) (t : Tr) (F' : Blocks) : Prop where
  rep : Rep F' wr tv t
  done : Done T0 L k t
  turns : Turns F w wr
  from_ : ∀ k, F' k → F k ∨ w.heap.size ≤ k
  tasks : Tasks w.heap.size wr u L
variable {F F' : Blocks} {w wr w2 w3 : World} {tv u : Value} {T0 t : Tr} {L : List Tk} {k : Nat}
theorem Way.off (h : Way Rep F w wr tv u T0 L k t F') (ho : Off F u) (h0 : 0 < L.length) : Off F' u := by
  obtain ⟨A, c, rfl, h1, h2⟩ := h.tasks.form
  obtain ⟨b, o, _, rfl, hb, _⟩ := Tasks.at_ h.tasks h0
  intro b' o' n' c' e hk
  cases e
  rcases h.from_ _ hk with h | h
  · exact ho _ _ _ _ rfl h
  · omega
theorem Way.new (C : Trees Rep) (h : Way Rep F w wr tv u T0 L k t F') (hb : Below wr.heap.size wr w2) : Way Rep F w w2 tv u T0 L k t F' :=
  ⟨C.below h.rep hb, h.done, h.turns.trans (Turns.new hb), h.from_, h.tasks.below (hb.mono h.turns.size)⟩
theorem Way.wrote (_C : Trees Rep) (h : Way Rep F w wr tv u T0 L k t F') (ho : Off F u) (h0 : 0 < L.length) {t' : Tr} {k' : Nat} (hw : Wrote Rep F' tv t' wr w2) (hd : Done T0 L k' t') : ∃ F2, Way Rep F w w2 tv u T0 L k' t' F2 := by
  have hoff := h.off ho h0
  obtain ⟨F2, h1, h2, h3⟩ := hw
  refine ⟨F2, h1, hd, ?_, fun k hk => (h3 k hk).elim (h.from_ k) (fun e => Or.inr (Nat.le_trans h.turns.size e)), tasks_turns h.tasks h2 hoff⟩
  refine narrow ((h.turns.wider fun _ => Or.inl).trans (h2.wider h.from_))
theorem Way.gives (h : Way Rep F w wr tv u T0 L k t F') : Wrote Rep F tv t w wr := ⟨F', h.rep, h.turns, h.from_⟩
set_option maxHeartbeats 8000000 in
theorem apply_any (C : Trees Rep) (hfull : ∀ {F w v t}, Rep F w v t → ∃ a, v = .pointer (some a)) (S : Posix Rep) (h : Rep F w tv T0) (n : Nat) (hn : Within T0 n) (hL : Tasks w.heap.size w u L) (ho : 0 < L.length → Off F u) (hm : n + L.length ≤ 1048576) (hs : ∀ x ∈ L, x.path.length ≤ 1048576 ∧ x.text.length ≤ 1048576) :
    Calls Tryz.prog 29 #[tv, u] w fun e w' => e = .returned (.tuple #[.int .i64 ((applyAll T0 L).2.1 : Int), .int .i64 (applyAll T0 L).2.2]) ∧ Wrote Rep F tv (applyAll T0 L).1 w w' := by
  have W0 : Hid (Way Rep F w w tv u T0 L 0 T0 F) := ⟨h, .start, Turns.refl _ _, fun _ => Or.inl, hL⟩
  obtain ⟨ta, rfl⟩ := hfull h
  obtain ⟨A, c, rfl, hA1, hA2⟩ := hL.form
  have HO := Lib.hid ho
  have HS := Lib.hid hs
  have HN := Lib.hid hn
  have HEnd := Lib.hid (fun t (hd : Done T0 L L.length t) => hd.all (by omega))
  have HStop := Lib.hid (fun k t y (hd : Done T0 L k t) (hy : L[k]? = some y) => done_stop hd hy)
  unfold maxLen at hA2
  clear h hL ho hs
  generalize hR : applyAll T0 L = R at *
  generalize hq : L.length = m at *
  have HM := Lib.hid hq
  clear hq hR
  go_enter Tryz.func29, Tryz.ntmps29
  go_wp2_with fail
  go_loopw [14] (fun i wr => ∃ (k : Nat) (t : Tr) (F' : Blocks), k ≤ m ∧ i = .int .i64 k ∧ Hid (Way Rep F w wr (.pointer (some ta)) (.slice A m c) T0 L k t F')) (fun i _ => m - (intOf i).toNat)
  case atStart => exact ⟨0, _, _, Nat.zero_le _, rfl, W0⟩
  case round =>
    clear W0
    obtain ⟨k, t, F', hk, rfl, hr⟩ := hrel
    by_cases hlt : k < m
    · obtain ⟨b, o, hl1, rfl, hbl, hc0, hc1, hc2⟩ := Tasks.at_ hr.out.tasks hlt
      have hxd := HS.out _ (List.getElem_mem hl1)
      have hy : L[k]? = some L[k] := List.getElem?_eq_getElem hl1
      have HStop := Lib.hid (fun hd => HStop.out k t _ hd hy)
      have HNext := Lib.hid (fun hd he => done_next (t0 := T0) (l := L) (t := t) hd hy he)
      have hL0 : 0 < m := by omega
      clear hy
      generalize L[k] = y at *
      obtain ⟨yk, yp, yt⟩ := y
      obtain ⟨sp, hsp⟩ : ∃ d : ByteArray, d.data.toList = yp := ⟨⟨yp.toArray⟩, rfl⟩
      obtain ⟨st, hst⟩ : ∃ d : ByteArray, d.data.toList = yt := ⟨⟨yt.toArray⟩, rfl⟩
      subst hsp hst
      have a0 : wr.cell? ⟨b, o + k * 3, none⟩ = some (.int .i64 yk) := hc0
      have a1 : wr.cell? ⟨b, o + k * 3 + 1, none⟩ = some (.string sp) := by have := hc1; rw [mk_bytes] at this; exact this
      have a2 : wr.cell? ⟨b, o + k * 3 + 2, none⟩ = some (.string st) := by have := hc2; rw [mk_bytes] at this; exact this
      have hps : sp.size ≤ 1048576 := by have := hxd.1; rw [← Lib.size_eq] at this; omega
      have hts : st.size ≤ 1048576 := by have := hxd.2; rw [← Lib.size_eq] at this; omega
      have B1 := Lib.hid (below_task wr yk sp st)
      have TB := Lib.hid (task_there wr yk sp st)
      obtain ⟨wB, hwB⟩ : ∃ wB, wr.alloc (.cells #[.int .i64 yk, .string sp, .string st] 59) = wB := ⟨_, rfl⟩
      rw [hwB] at B1 TB
      have k0 := TB.out.c0
      have HG : Hid (W09.Good t) := Lib.hid ((hr.out.done.within HN.out).good (by omega))
      clear hc0 hc1 hc2 hxd
      by_cases hkd : 1 ≤ yk ∧ yk ≤ 6
      · obtain ⟨g, hg1, eg, hD⟩ := way_of C S hkd
        have HOF := Lib.hid (doerOf_at hkd hg1)
        have hwn := way_nil g
        go_wp2_with fail
        clear hwB
        refine (HOF.out _).mono ?_
        rintro e w2 ⟨rfl, hb⟩
        have W2 := Lib.hid (hr.out.new C (on B1.out hb))
        have T2 := TB.out.below hb
        have x0 := T2.c0
        have x1 := T2.c1
        have x2 := T2.c2
        have HDO := Lib.hid (hD W2.out.rep HG.out sp st hps hts)
        have HER := Lib.hid (@do_err t yk sp.data.toList st.data.toList)
        generalize doTask t yk sp.data.toList st.data.toList = Q at *
        obtain ⟨T', fe⟩ := Q
        clear hb T2
        go_wp2_with fail
        refine HDO.out.mono ?_
        rintro e w3 ⟨rfl, hw⟩
        have hw : Wrote Rep F' (.pointer (some ta)) T' w2 w3 := hw
        by_cases hfe : fe = 0
        · subst hfe
          obtain ⟨F2, W3⟩ := W2.out.wrote C (HO.out hL0) (by omega) hw (HNext.out W2.out.done rfl)
          have W3 := Lib.hid W3
          clear hw
          go_wp2_with fail
          go_roundw
          case rel => exact ⟨k + 1, T', F2, by omega, by go_num, W3⟩
          case measure => simp [intOf]; omega
        · have HT : T' = t := HER.out hfe
          subst HT
          obtain ⟨F2, W3⟩ := W2.out.wrote C (HO.out hL0) (by omega) hw W2.out.done
          have W3 := Lib.hid W3
          have HR := HStop.out W2.out.done hfe
          have tn : (fe != 0) = true := by simp [hfe]
          clear hw hfe
          go_wp2_with fail
          go_ret2
          rw [HR]
          exact ⟨rfl, W3.out.gives⟩
      · have HOF := Lib.hid (doerOf_none yk hkd)
        have hnn := nil_nil
        have hT := task_none (t := t) (a := sp.data.toList) (b := st.data.toList) hkd
        have HR := HStop.out hr.out.done (by rw [hT]; show (2 : Int) ≠ 0; decide)
        rw [hT] at HR
        have HR := Lib.hid HR
        clear hT hkd
        go_wp2_with fail
        clear hwB
        refine (HOF.out _).mono ?_
        rintro e w2 ⟨rfl, hb⟩
        have W2 := Lib.hid (hr.out.new C (on B1.out hb))
        clear hb
        go_wp2_with fail
        go_ret2
        rw [HR.out]
        exact ⟨rfl, W2.out.gives⟩
    · have hkm : k = m := by omega
      subst hkm
      have HR := Lib.hid (HEnd.out t hr.out.done)
      go_wp2_with fail
      go_ret2
      rw [HR.out]
      exact ⟨rfl, hr.out.gives⟩
set_option maxHeartbeats 2000000 in
theorem applyNil_any (w : World) (u : Value) (h : ∃ A n c, u = .slice A n c) : Calls Tryz.prog 29 #[.pointer none, u] w fun e w' => e = .returned (.tuple #[.int .i64 0, .int .i64 1]) ∧ Below w.heap.size w w' := by
  obtain ⟨A, n, c, rfl⟩ := h
  go_enter Tryz.func29, Tryz.ntmps29
  go_wp2_with fail
  go_ret2
  exact ⟨rfl, Below.refl _ _⟩
end
end Go.Proofs.YtmbpgjncioegdaaGreatDoor.W10
/-
  Layer 20 (act), walks of the landed code: Valid, After, each, Run, over any reading of a tree and of an FS. The conditions stand in the statements.
-/
namespace Go.Proofs.YtmbpgjncioegdaaGreatDoor.W20
set_option maxRecDepth 100000
open Go Go.RowKit Go.Proofs.YtmbpgjncioegdaaGreatDoor.Strs Go.Proofs.YtmbpgjncioegdaaGreatDoor.Recs Go.Proofs.YtmbpgjncioegdaaGreatDoor.Range
open Go.Proofs.YtmbpgjncioegdaaGreatDoor.M07 (Tr nodeAt Right)
open Go.Proofs.YtmbpgjncioegdaaGreatDoor.M09 Go.Proofs.YtmbpgjncioegdaaGreatDoor.M10 Go.Proofs.YtmbpgjncioegdaaGreatDoor.M20
open Go.Proofs.YtmbpgjncioegdaaGreatDoor.W07 (Small Trees Wrote Off narrow)
open Go.Proofs.YtmbpgjncioegdaaGreatDoor.W09 (Tk Tasks tkC_len TaskBox Within)
open Go.Proofs.YtmbpgjncioegdaaGreatDoor.W10 (Fss Applies Turned Counts below_task task_there tasks_turns)
open Go.Proofs.YtmbpgjncioegdaaGreatDoor.Kit (ret_str ret_bool ret_int mk_of mk_bytes ba_ext below_draws on)

abbrev Blocks := Nat → Prop
theorem off_new {F : Blocks} {B : Nat} {w : World} {v : Value} {L : List Tk} (h : Tasks B w v L) (h0 : 0 < L.length) (hF : ∀ k, F k → B ≤ k) : Off F v := by
  obtain ⟨A, c, rfl, -, -⟩ := h.form
  obtain ⟨b, o, _, rfl, hb, _⟩ := Tasks.at_ h h0
  intro b' o' n' c' e hk
  cases e
  have := hF _ hk
  omega
theorem firsts_at {L : List Tk} {j : Int} : ∃ k : Nat, k ≤ L.length ∧ min (max j 0) (L.length : Int) = (k : Int) ∧ firsts L j = L.take k :=
  ⟨(min (max j 0) (L.length : Int)).toNat, by omega, by omega, rfl⟩
section
variable {Rep : Blocks → World → Value → Tr → Prop} {RepF : Blocks → World → Value → Fs → Prop} {F F' F2 : Blocks} {w wr w2 : World} {tv v u : Value} {t : Tr} {L : List Tk} {k : Nat}
set_option maxHeartbeats 4000000 in
theorem valid_any (C : Trees Rep) (X : Applies Rep) (hfull : ∀ {F w v t}, Rep F w v t → ∃ a, v = .pointer (some a)) (h : Rep F w tv t) (n : Nat) (hn : Within t n) (hL : Tasks w.heap.size w u L) (hm : n + L.length ≤ 1048576) (hs : Texts L) :
    Calls Tryz.prog 11 #[tv, u] w fun e w' => e = .returned (.tuple #[.int .i64 ((valid t L).1 : Int), .int .i64 (valid t L).2]) ∧ Below w.heap.size w w' := by
  obtain ⟨ta, rfl⟩ := hfull h
  obtain ⟨A, c, rfl, hA1, hA2⟩ := hL.form
  unfold maxLen at hA2
  have HCP := Lib.hid (check_any _ L w hL hs)
  have H := Lib.hid h
  have HL := Lib.hid hL
  have HC := Lib.hid (fun (w1 : World) (hb : Below w.heap.size w w1) => C.copy (C.below H.out hb) (hn.good (by omega)).small)
  have HA := Lib.hid (fun (F1 : Blocks) (w2 : World) (v1 : Value) (hr : Rep F1 w2 v1 t) (hF : ∀ k, F1 k → w.heap.size ≤ k) (hb : Below w.heap.size w w2) => X.apply hr n hn _ L ((HL.out.below hb).more hb.size) (fun h0 => off_new HL.out h0 hF) hm hs)
  have hv := @valid_no t L
  have hv2 := @valid_ok t L
  generalize valid t L = V at *
  generalize applyAll t L = R at *
  generalize may L = m at *
  have HV := Lib.hid hv
  have HV2 := Lib.hid hv2
  generalize L.length = q at *
  clear h hL hs hm hv hv2 hn
  by_cases h0 : m = 0
  · subst h0
    replace HV2 := Lib.hid (HV2.out rfl)
    go_enter Tryz.func11, Tryz.ntmps11
    go_wp2_with fail
    refine HCP.out.mono ?_
    rintro e w1 ⟨rfl, hb1⟩
    have B1 := Lib.hid hb1
    have HC1 := Lib.hid (HC.out w1 hb1)
    clear hb1
    go_wp2_with fail
    refine HC1.out.mono ?_
    rintro e w2 ⟨v1, F1, rfl, h2, hF2, hb2⟩
    have B2 := Lib.hid (on B1.out hb2)
    have HF2 : Hid (∀ k, F1 k → w.heap.size ≤ k) := fun k hk => Nat.le_trans B1.out.size (hF2 k hk)
    have HA2 := Lib.hid (HA.out F1 w2 v1 h2 HF2.out B2.out)
    clear h2 hF2 hb2
    go_wp2_with fail
    refine HA2.out.mono ?_
    rintro e w3 ⟨rfl, F3, -, t3, -⟩
    have B3 := Lib.hid (B2.out.trans (t3.below HF2.out B2.out.size))
    clear t3
    go_wp2_with fail
    go_ret2
    rw [HV2.out]
    exact ⟨rfl, B3.out⟩
  · have HV := Lib.hid (HV.out h0)
    have tn : (m != 0) = true := by simp [h0]
    clear h0
    go_enter Tryz.func11, Tryz.ntmps11
    go_wp2_with fail
    refine HCP.out.mono ?_
    rintro e w1 ⟨rfl, hb1⟩
    have B1 := Lib.hid hb1
    clear hb1
    go_wp2_with fail
    go_ret2
    rw [HV.out]
    exact ⟨rfl, B1.out⟩
set_option maxHeartbeats 1000000 in
theorem validNil_any (w : World) (u : Value) : Calls Tryz.prog 11 #[.pointer none, u] w fun e w' => e = .returned (.tuple #[.int .i64 0, .int .i64 1]) ∧ Below w.heap.size w w' := by
  go_enter Tryz.func11, Tryz.ntmps11
  go_wp2_with fail
  go_ret2
  exact ⟨rfl, Below.refl _ _⟩
set_option maxHeartbeats 4000000 in
theorem after_any (C : Trees Rep) (X : Applies Rep) (hfull : ∀ {F w v t}, Rep F w v t → ∃ a, v = .pointer (some a)) (h : Rep F w tv t) (n : Nat) (hn : Within t n) (hL : Tasks w.heap.size w u L) (hm : n + L.length ≤ 1048576) (hs : Texts L) (j : Int) :
    Calls Tryz.prog 15 #[tv, u, .int .i64 j] w fun e w' => ∃ v F', e = .returned v ∧ Rep F' w' v (after t L j) ∧ (∀ k, F' k → w.heap.size ≤ k) ∧ Below w.heap.size w w' := by
  obtain ⟨ta, rfl⟩ := hfull h
  obtain ⟨A, c, rfl, hA1, hA2⟩ := hL.form
  unfold maxLen at hA2
  obtain ⟨k, hk, hj, hf⟩ := @firsts_at L j
  have H := Lib.hid h
  have HL := Lib.hid hL
  have HT := Lib.hid (hL.take hk)
  have HC := Lib.hid (C.copy h (hn.good (by omega)).small)
  have hkl : (L.take k).length = k := by rw [List.length_take]; omega
  have HA := Lib.hid (fun (F1 : Blocks) (w2 : World) (v1 : Value) (hr : Rep F1 w2 v1 t) (hF : ∀ k, F1 k → w.heap.size ≤ k) (hb : Below w.heap.size w w2) => X.apply hr n hn _ (L.take k) ((HT.out.below hb).more hb.size) (fun h0 => off_new HT.out h0 hF) (by omega) (fun x hx => hs x (List.mem_of_mem_take hx)))
  unfold after
  rw [hf]
  generalize applyAll t (L.take k) = R at *
  have hkc : (k : Int) ≤ (c : Int) := by omega
  have HQ := Lib.hid hkl
  clear h hL hs hm hn hf hkl
  generalize L.length = q at *
  go_enter Tryz.func15, Tryz.ntmps15
  go_wp2_with fail
  refine HC.out.mono ?_
  rintro e w2 ⟨v1, F1, rfl, h2, hF2, hb2⟩
  obtain ⟨a1, rfl⟩ := hfull h2
  have B2 := Lib.hid hb2
  have HF2 := Lib.hid hF2
  have HA2 := Lib.hid (HA.out F1 w2 _ h2 HF2.out B2.out)
  clear h2 hF2 hb2
  go_wp2_with fail
  refine HA2.out.mono ?_
  rintro e w3 ⟨rfl, F3, h3, t3, s3⟩
  have B3 := Lib.hid (B2.out.trans (t3.below HF2.out B2.out.size))
  have H3 := Lib.hid h3
  have HF3 : Hid (∀ k, F3 k → w.heap.size ≤ k) := fun k hk => (s3 k hk).elim (HF2.out k) (fun e => Nat.le_trans B2.out.size e)
  clear h3 t3 s3
  go_wp2_with fail
  go_ret
  exact ⟨_, F3, rfl, H3.out, HF3.out, B3.out⟩
set_option maxHeartbeats 1000000 in
theorem afterNil_any (w : World) (u : Value) (j : Int) : Calls Tryz.prog 15 #[.pointer none, u, .int .i64 j] w fun e w' => e = .returned (.pointer none) ∧ Below w.heap.size w w' := by
  go_enter Tryz.func15, Tryz.ntmps15
  go_wp2_with fail
  go_ret
  exact ⟨rfl, Below.refl _ _⟩
/-- where the loop stands -/
structure WayF (RepF : Blocks → World → Value → Fs → Prop) (F : Blocks) (w wr : World) (v u : Value) (x0 : Fs) (L : List Tk) (k : Nat) (x : Fs) (F' : Blocks) : Prop where
  rep : RepF F' wr v x
  ran : Ran x0 L k x
  turns : Turns F w wr
  from_ : ∀ k, F' k → F k ∨ w.heap.size ≤ k
  tasks : Tasks w.heap.size wr u L
theorem WayF.off {x0 x : Fs} (h : WayF RepF F w wr v u x0 L k x F') (ho : Off F u) (h0 : 0 < L.length) : Off F' u := by
  obtain ⟨A, c, rfl, h1, h2⟩ := h.tasks.form
  obtain ⟨b, o, _, rfl, hb, _⟩ := Tasks.at_ h.tasks h0
  intro b' o' n' c' e hk
  cases e
  rcases h.from_ _ hk with h | h
  · exact ho _ _ _ _ rfl h
  · omega
theorem WayF.new {x0 x : Fs} (C : Fss Rep RepF) (h : WayF RepF F w wr v u x0 L k x F') (hb : Below wr.heap.size wr w2) : WayF RepF F w w2 v u x0 L k x F' :=
  ⟨C.below h.rep hb, h.ran, h.turns.trans (Turns.new hb), h.from_, h.tasks.below (hb.mono h.turns.size)⟩
theorem WayF.turned {x0 x x' : Fs} (h : WayF RepF F w wr v u x0 L k x F') (ho : Off F u) (h0 : 0 < L.length) {k' : Nat} (hw : Turned RepF F' v x' wr w2) (hd : Ran x0 L k' x') : ∃ F2, WayF RepF F w w2 v u x0 L k' x' F2 := by
  have hoff := h.off ho h0
  obtain ⟨F2, h1, h2, h3⟩ := hw
  refine ⟨F2, h1, hd, ?_, fun k hk => (h3 k hk).elim (h.from_ k) (fun e => Or.inr (Nat.le_trans h.turns.size e)), tasks_turns h.tasks h2 hoff⟩
  exact narrow ((h.turns.wider fun _ => Or.inl).trans (h2.wider h.from_))
theorem WayF.stops {x0 x x' : Fs} (h : WayF RepF F w wr v u x0 L k x F') (hw : Turned RepF F' v x' wr w2) : Turned RepF F v x' w w2 := by
  obtain ⟨F2, h1, h2, h3⟩ := hw
  refine ⟨F2, h1, ?_, fun k hk => (h3 k hk).elim (h.from_ k) (fun e => Or.inr (Nat.le_trans h.turns.size e))⟩
  exact narrow ((h.turns.wider fun _ => Or.inl).trans (h2.wider h.from_))
theorem WayF.gives {x0 x : Fs} (h : WayF RepF F w wr v u x0 L k x F') : Turned RepF F v x w wr := ⟨F', h.rep, h.turns, h.from_⟩
set_option maxHeartbeats 8000000 in
theorem each_any (C : Fss Rep RepF) {x0 : Fs} (h : RepF F w v x0) (n : Nat) (hn : Within x0.t n) (hL : Tasks w.heap.size w u L) (ho : 0 < L.length → Off F u) (hm : n + L.length ≤ 1048576) (hs : Texts L) (hc : 0 ≤ x0.count ∧ x0.count + L.length ≤ 1073741824) :
    Calls Tryz.prog 42 #[u, .func (.func 43) #[v] #[]] w fun e w' => e = .returned (.tuple #[.int .i64 ((runAll x0 L).2.1 : Int), .int .i64 (runAll x0 L).2.2]) ∧ Turned RepF F v (runAll x0 L).1 w w' := by
  have W0 : Hid (WayF RepF F w w v u x0 L 0 x0 F) := ⟨h, .start, Turns.refl _ _, fun _ => Or.inl, hL⟩
  obtain ⟨ad, rfl⟩ := C.full h
  obtain ⟨A, c, rfl, hA1, hA2⟩ := hL.form
  have HO := Lib.hid ho
  have HS := Lib.hid hs
  have HN := Lib.hid hn
  have HCN := Lib.hid hc
  have HEnd := Lib.hid (fun x (hd : Ran x0 L L.length x) => hd.all (by omega))
  have HStop := Lib.hid (fun k x y (hd : Ran x0 L k x) (hy : L[k]? = some y) => ran_stop hd hy)
  unfold maxLen at hA2
  clear h hL ho hs hn hc
  generalize hR : runAll x0 L = R at *
  generalize hq : L.length = m at *
  have HM := Lib.hid hq
  clear hq hR
  go_enter Tryz.func42, Tryz.ntmps42
  go_wp2_with fail
  go_loopw [11] (fun i wr => ∃ (k : Nat) (x : Fs) (F' : Blocks), k ≤ m ∧ i = .int .i64 k ∧ Hid (WayF RepF F w wr (.pointer (some ad)) (.slice A m c) x0 L k x F')) (fun i _ => m - (intOf i).toNat)
  case atStart => exact ⟨0, _, _, Nat.zero_le _, rfl, W0⟩
  case round =>
    clear W0
    obtain ⟨k, x, F', hk, rfl, hr⟩ := hrel
    by_cases hlt : k < m
    · obtain ⟨b, o, hl1, rfl, hbl, a0, a1, a2⟩ := Tasks.at_ hr.out.tasks hlt
      have hy : L[k]? = some L[k] := List.getElem?_eq_getElem hl1
      have HStop := Lib.hid (fun hd => HStop.out k x _ hd hy)
      have HNext := Lib.hid (fun hd he => ran_next (f0 := x0) (l := L) (f := x) hd hy he)
      have hL0 : 0 < m := by omega
      obtain ⟨yk, sp, st, hyy, c0, c1, c2, hp, ht⟩ := task_cells a0 a1 a2 (HS.out _ (List.getElem_mem hl1))
      rw [hyy] at HStop HNext
      clear hy hyy a0 a1 a2
      have B1 := Lib.hid (below_task wr yk sp st)
      have TB := Lib.hid (task_there wr yk sp st)
      obtain ⟨wB, hwB⟩ : ∃ wB, wr.alloc (.cells #[.int .i64 yk, .string sp, .string st] 59) = wB := ⟨_, rfl⟩
      rw [hwB] at B1 TB
      have k0 := TB.out.c0
      have k1 := TB.out.c1
      have k2 := TB.out.c2
      have HG : Hid (W09.Good x.t) := Lib.hid ((hr.out.ran.within HN.out).good (by omega))
      have hcx := hr.out.ran.counts
      have HC : Hid (Counts x) := Lib.hid ⟨by have := HCN.out.1; omega, by have := HCN.out.2; omega⟩
      have W2 := Lib.hid (hr.out.new C B1.out)
      have HDO := Lib.hid (C.do_ W2.out.rep HG.out HC.out yk sp st hp ht)
      clear hcx hp ht
      generalize doFs x yk sp.data.toList st.data.toList = Q at *
      obtain ⟨x', fe⟩ := Q
      go_wp2_with fail
      clear hwB
      refine HDO.out.mono ?_
      rintro e w3 ⟨rfl, hw⟩
      have hw : Turned RepF F' (.pointer (some ad)) x' wB w3 := hw
      by_cases hfe : fe = 0
      · subst hfe
        obtain ⟨F2, W3⟩ := W2.out.turned (HO.out hL0) (by omega) hw (HNext.out W2.out.ran rfl)
        have W3 := Lib.hid W3
        clear hw
        go_wp2_with fail
        go_roundw
        case rel => exact ⟨k + 1, x', F2, by omega, by go_num, W3⟩
        case measure => simp [intOf]; omega
      · have W3 := Lib.hid (W2.out.stops hw)
        have HR := Lib.hid (HStop.out W2.out.ran hfe)
        have tn : (fe != 0) = true := by simp [hfe]
        clear hw hfe
        go_wp2_with fail
        go_ret2
        rw [HR.out]
        exact ⟨rfl, W3.out⟩
    · have hkm : k = m := by omega
      subst hkm
      have HR := Lib.hid (HEnd.out x hr.out.ran)
      go_wp2_with fail
      go_ret2
      rw [HR.out]
      exact ⟨rfl, hr.out.gives⟩
set_option maxHeartbeats 4000000 in
theorem run_any (C : Fss Rep RepF) {x0 : Fs} (h : RepF F w v x0) (n : Nat) (hn : Within x0.t n) (hL : Tasks w.heap.size w u L) (ho : 0 < L.length → Off F u) (hm : n + L.length ≤ 1048576) (hs : Texts L) (hc : 0 ≤ x0.count ∧ x0.count + L.length ≤ 1073741824) :
    Calls Tryz.prog 18 #[v, u] w fun e w' => e = .returned (.tuple #[.int .i64 ((run x0 L).2.1 : Int), .int .i64 (run x0 L).2.2]) ∧ Turned RepF F v (run x0 L).1 w w' := by
  obtain ⟨ad, rfl⟩ := C.full h
  have HCP := Lib.hid (check_any _ L w hL hs)
  have H := Lib.hid h
  have HL := Lib.hid hL
  have HE := Lib.hid (fun (w1 : World) (hb : Below w.heap.size w w1) => each_any C (C.below H.out hb) n hn ((HL.out.below hb).more hb.size) ho hm hs hc)
  have HT := Lib.hid (fun (w1 : World) (hb : Below w.heap.size w w1) => W10.turned_none C H.out hb)
  have hv := @run_no x0 L
  have hv2 := @run_ok x0 L
  generalize run x0 L = V at *
  generalize runAll x0 L = R at *
  generalize may L = m at *
  have HV := Lib.hid hv
  have HV2 := Lib.hid hv2
  obtain ⟨A, c, rfl, hA1, hA2⟩ := HL.out.form
  generalize L.length = q at *
  clear h hL hs hm hv hv2 hn ho hc hA1 hA2
  by_cases h0 : m = 0
  · subst h0
    replace HV2 := Lib.hid (HV2.out rfl)
    go_enter Tryz.func18, Tryz.ntmps18
    go_wp2_with fail
    refine HCP.out.mono ?_
    rintro e w1 ⟨rfl, hb1⟩
    have B1 := Lib.hid hb1
    have HE1 := Lib.hid (HE.out w1 hb1)
    clear hb1
    go_wp2_with fail
    refine HE1.out.mono ?_
    rintro e w2 ⟨rfl, ht⟩
    have HT2 := Lib.hid (Turned.after B1.out ht)
    clear ht
    go_wp2_with fail
    go_ret2
    rw [HV2.out]
    exact ⟨rfl, HT2.out⟩
  · have HV := Lib.hid (HV.out h0)
    have tn : (m != 0) = true := by simp [h0]
    clear h0
    go_enter Tryz.func18, Tryz.ntmps18
    go_wp2_with fail
    refine HCP.out.mono ?_
    rintro e w1 ⟨rfl, hb1⟩
    have HT1 := Lib.hid (HT.out w1 hb1)
    clear hb1
    go_wp2_with fail
    go_ret2
    rw [HV.out]
    exact ⟨rfl, HT1.out⟩
set_option maxHeartbeats 1000000 in
theorem runNil_any (w : World) (u : Value) : Calls Tryz.prog 18 #[.pointer none, u] w fun e w' => e = .returned (.tuple #[.int .i64 0, .int .i64 1]) ∧ Below w.heap.size w w' := by
  go_enter Tryz.func18, Tryz.ntmps18
  go_wp2_with fail
  go_ret2
  exact ⟨rfl, Below.refl _ _⟩
end
end Go.Proofs.YtmbpgjncioegdaaGreatDoor.W20
