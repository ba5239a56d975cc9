/-
  Texts joined, in build order, each with its own comment and its own conditions: W10Do, W10Apply, W09More, W09Laws, W10Inst, W10LawA, OpenFsActs.
-/
import Derived.Test.YtolhniepejhmfaaGreatDoorJ32
import Derived.BigQuiet
import Derived.Deep.RegionHeld3
import Derived.Test.YtolhniepejhmfaaGreatDoorJ15
import Derived.Test.YtolhniepejhmfaaGreatDoorJ18
import Derived.Test.YtolhniepejhmfaaGreatDoorJ30
import Derived.Test.YtolhniepejhmfaaGreatDoorJ28
import Derived.Test.YtolhniepejhmfaaGreatDoorJ23
import Derived.Test.YtolhniepejhmfaaGreatDoorJ31
import Derived.Test.YtolhniepejhmfaaGreatDoorJ01
/-
  Layer 10 (fs), walks of the landed code: Do, over any reading of a tree. The conditions stand in the statements.
-/
namespace Go.Proofs.YtolhniepejhmfaaGreatDoor.W10
set_option maxRecDepth 100000
open Go Go.RowKit Go.Proofs.YtolhniepejhmfaaGreatDoor.Strs Go.Proofs.YtolhniepejhmfaaGreatDoor.Recs Go.Proofs.YtolhniepejhmfaaGreatDoor.Range Go.Proofs.YtolhniepejhmfaaGreatDoor.Maps
open Go.Proofs.YtolhniepejhmfaaGreatDoor.M07 (Tr nodeAt Right)
open Go.Proofs.YtolhniepejhmfaaGreatDoor.M09 Go.Proofs.YtolhniepejhmfaaGreatDoor.M10
open Go.Proofs.YtolhniepejhmfaaGreatDoor.W07 (Small Trees Wrote heap_top set_heap)
open Go.Proofs.YtolhniepejhmfaaGreatDoor.W09 (Posix TaskBox)
open Go.Proofs.YtolhniepejhmfaaGreatDoor.Kit (ret_str ret_bool ret_int mk_of mk_bytes ba_ext below_draws on)

section
variable {Rep : Blocks → World → Value → Tr → Prop} {F Ft : Blocks} {w w' : World} {p : Nat} {v tv mv : Value} {x : Fs} {t : Tr}
theorem do_down {k : Int} {a b : Bytes} (h : x.down = true) : doFs x k a b = (x, 17) := by unfold doFs; rw [if_pos h]
theorem do_kind {k : Int} {a b : Bytes} (h : x.down = false) (hk : ¬ (1 ≤ k ∧ k ≤ 6)) : doFs x k a b = (x, 2) := by
  unfold doFs
  rw [if_neg (by rw [h]; decide), if_pos (by omega)]
theorem do_fault {k : Int} {a b : Bytes} (h : x.down = false) (hk : 1 ≤ k ∧ k ≤ 6) (hf : fault x.faults (x.count + 1) ≠ 0) : doFs x k a b = ({ x with count := x.count + 1, down := decide (fault x.faults (x.count + 1) = 17) }, fault x.faults (x.count + 1)) := by
  unfold doFs
  rw [if_neg (by rw [h]; decide), if_neg (by omega), if_pos hf]
theorem do_task {k : Int} {a b : Bytes} (h : x.down = false) (hk : 1 ≤ k ∧ k ≤ 6) (hf : ¬ fault x.faults (x.count + 1) ≠ 0) : doFs x k a b = ({ x with t := (doTask x.t k a b).1, count := x.count + 1 }, (doTask x.t k a b).2) := by
  unfold doFs
  rw [if_neg (by rw [h]; decide), if_neg (by omega), if_neg hf]
theorem nil_nil (w : World) : (binOp BinOp.eql 71 .nilFunc .nilFunc).run Tryz.prog w = .ok (.bool true) w := by kernel_rfl
theorem way_nil (g : Nat) (w : World) : (binOp BinOp.eql 71 (way g) .nilFunc).run Tryz.prog w = .ok (.bool false) w := by kernel_rfl
theorem below_task (w : World) (k : Int) (s d : ByteArray) : Below w.heap.size w (w.alloc (.cells #[.int .i64 k, .string s, .string d] 39)) := W07.below_one _ _
theorem task_there (w : World) (k : Int) (s d : ByteArray) : TaskBox (w.alloc (.cells #[.int .i64 k, .string s, .string d] 39)) w.heap.size k s d := heap_top _ _
theorem doerOf_at {k : Int} {g : Nat} (hk : 1 ≤ k ∧ k ≤ 6) (hg : ways[k.toNat]? = some (way g)) (w : World) : Calls Tryz.prog 27 #[.int .i64 k] w fun e w' => e = .returned (way g) ∧ Below w.heap.size w w' :=
  (doerOf_any k hk w).mono fun e w' ⟨⟨v, he, hv⟩, hb⟩ => ⟨by rw [hg] at hv; rw [he, Option.some.inj hv], hb⟩
theorem fault_end {w3 : World} {tv : Value} (C : Trees Rep) (h : FsAt Rep F Ft w3 p tv mv { x with count := x.count + 1 }) (hu : Turns F w w3) (hp : F p) (n : Nat) (b : Bool) :
    Turned (RepF Rep) F (.pointer (some ⟨p, 0, none⟩)) { x with count := x.count + 1, down := b } w ((w3.drewN n).setCell ⟨p, 3, none⟩ (.bool b)) := by
  have h1 := h.keep C (w' := w3.drewN n) (fun _ _ => rfl) (Nat.le_refl _)
  have ht := turns_one (w3.drewN n) p 3 (.bool b)
  exact (h1.stored C ht (x' := { x with count := x.count + 1, down := b }) (h1.box.set3 b) rfl (h1.marks_turns ht)).turned ((hu.trans (Turns.draw _ _ _)).trans (ht.wider (T' := F) fun k e => by have : k = p := e; rw [this]; exact hp))
theorem task_end {w3 : World} {tv : Value} {g : Nat} {k : Int} (C : Trees Rep) (HD : Does Rep g k) (hg : W09.Good x.t) (h : FsAt Rep F Ft w3 p tv mv { x with count := x.count + 1 }) (hu : Turns F w w3) {q : Nat} (hq : ¬ F q) (s d : ByteArray) (hb : TaskBox w3 q k s d) (hs : s.size ≤ 1048576) (hd : d.size ≤ 1048576) (n : Nat) :
    Calls Tryz.prog g #[tv, .agg #[.int .i64 k, .string s, .string d]] (w3.drewN n) fun e w' => e = .returned (.int .i64 (doTask x.t k s.data.toList d.data.toList).2) ∧ (w'.cell? ⟨p, 0, none⟩ = some tv ∧ w'.cell? ⟨q, 0, none⟩ = some (.int .i64 k) ∧ w'.cell? ⟨q, 1, none⟩ = some (.string s) ∧ w'.cell? ⟨q, 2, none⟩ = some (.string d)) ∧ Turned (RepF Rep) F (.pointer (some ⟨p, 0, none⟩)) { x with t := (doTask x.t k s.data.toList d.data.toList).1, count := x.count + 1 } w w' := by
  have h1 := h.keep C (w' := w3.drewN n) (fun _ _ => rfl) (Nat.le_refl _)
  refine (HD h1.tree hg s d hs hd).mono ?_
  rintro e w' ⟨rfl, hw⟩
  have hw2 := hw
  obtain ⟨F', -, h2, -⟩ := hw2
  have b1 := h1.box.turns h2 h.tp
  have b2 : TaskBox w' q k s d := h2.keeps (show TaskBox (w3.drewN n) q k s d from hb) (fun hk => hq (h.sub _ hk))
  exact ⟨rfl, ⟨b1.c0, b2.c0, b2.c1, b2.c2⟩, Turned.from (hu.trans (Turns.draw _ _ _)) (h1.wrote C hw)⟩
set_option maxHeartbeats 4000000 in
theorem do_fault_way (C : Trees Rep) (hfull : ∀ {F w v t}, Rep F w v t → ∃ a, v = .pointer (some a)) {g : Nat} {k : Int} (hk : 1 ≤ k ∧ k ≤ 6) (hw : ways[k.toNat]? = some (way g)) (hf : fault x.faults (x.count + 1) ≠ 0) (h : FsAt Rep F Ft w p tv mv x) (hdn : x.down = false) (hc : Counts x) (s d : ByteArray) :
    Calls Tryz.prog 12 #[.pointer (some ⟨p, 0, none⟩), .agg #[.int .i64 k, .string s, .string d]] w fun e w' => e = .returned (.int .i64 (doFs x k s.data.toList d.data.toList).2) ∧ Turned (RepF Rep) F (.pointer (some ⟨p, 0, none⟩)) (doFs x k s.data.toList d.data.toList).1 w w' := by
  have B1 := Lib.hid (below_task w k s d)
  have TB := Lib.hid (task_there w k s d)
  have H1 := Lib.hid (h.below C B1.out)
  have HOF := Lib.hid (doerOf_at hk hw)
  obtain ⟨ta, rfl⟩ := hfull h.tree
  generalize hw1 : w.alloc (.cells #[.int .i64 k, .string s, .string d] 39) = w1 at *
  obtain ⟨q, hq⟩ : ∃ q, w.heap.size = q := ⟨_, rfl⟩
  rw [hq] at TB
  have hpq : q ≠ p := by have := h.box.lt; omega
  have c3 := H1.out.box.c3
  rw [hdn] at c3
  have k0 := TB.out.c0
  have hwn := way_nil g
  obtain ⟨hc1, hc2⟩ := hc
  have HFP := Lib.hid h.fp
  have HFQ : Hid (¬ F q) := Lib.hid (fun hk => by have := h.low _ hk; omega)
  clear h
  rw [do_fault hdn hk hf]
  simp only []
  go_enter Tryz.func12, Tryz.ntmps12
  go_wp2_with fail
  clear hw1
  refine (HOF.out _).mono ?_
  rintro e w2 ⟨rfl, hb⟩
  have H2 := H1.out.below C hb
  have T2 := Lib.hid (TB.out.below hb)
  have B2 := Lib.hid (on B1.out hb)
  have c2 := H2.box.c2
  have f2 := H2.box.fr 2
  have ht := turns_one w2 p 2 (.int .i64 (x.count + 1))
  have H3 := H2.stored C ht (x' := { x with count := x.count + 1 }) (H2.box.set2 _) rfl (H2.marks_turns ht)
  have T3 : Hid (TaskBox (w2.setCell ⟨p, 2, none⟩ (.int .i64 (x.count + 1))) q k s d) := Lib.hid (ht.keeps T2.out hpq)
  have U3 := Lib.hid ((Turns.new B2.out).trans (ht.wider (T' := F) fun k e => by have : k = p := e; rw [this]; exact HFP.out))
  obtain ⟨w3, hw3⟩ : ∃ w3, w2.setCell ⟨p, 2, none⟩ (.int .i64 (x.count + 1)) = w3 := ⟨_, rfl⟩
  rw [hw3] at H3 T3 U3
  have g0 := H3.box.c0
  have g1 := H3.box.c1
  have g2 := H3.box.c2
  have g3 := H3.box.c3
  have f3 := H3.box.fr 3
  have q0 := T3.out.c0
  have q1 := T3.out.c1
  have q2 := T3.out.c2
  have hask := H3.marks.ask (show (1 : Int) ≤ x.count + 1 by omega)
  have HM := Lib.hid H3
  rw [decide_eq_true hf] at hask
  clear H3 H2 hb ht
  go_wp2_with fail
  clear hw3
  go_quiet (fail)
  have hfin := Lib.hid (fun n => fault_end C HM.out U3.out HFP.out n (decide (fault x.faults (x.count + 1) = 17)))
  clear HM U3 T3 hask
  go_wp2_with fail
  go_ret
  exact ⟨rfl, hfin.out _⟩
set_option maxHeartbeats 4000000 in
theorem do_task_way (C : Trees Rep) (hfull : ∀ {F w v t}, Rep F w v t → ∃ a, v = .pointer (some a)) {g : Nat} {k : Int} (hk : 1 ≤ k ∧ k ≤ 6) (hw : ways[k.toNat]? = some (way g)) (eg : ∀ args w, (callFunc g args).run Tryz.prog w = .ok (.enter g args) w) (HD : Does Rep g k) (hg : W09.Good x.t) (hf : ¬ fault x.faults (x.count + 1) ≠ 0) (h : FsAt Rep F Ft w p tv mv x) (hdn : x.down = false) (hc : Counts x) (s d : ByteArray) (hs : s.size ≤ 1048576) (hd : d.size ≤ 1048576) :
    Calls Tryz.prog 12 #[.pointer (some ⟨p, 0, none⟩), .agg #[.int .i64 k, .string s, .string d]] w fun e w' => e = .returned (.int .i64 (doFs x k s.data.toList d.data.toList).2) ∧ Turned (RepF Rep) F (.pointer (some ⟨p, 0, none⟩)) (doFs x k s.data.toList d.data.toList).1 w w' := by
  have B1 := Lib.hid (below_task w k s d)
  have TB := Lib.hid (task_there w k s d)
  have H1 := Lib.hid (h.below C B1.out)
  have HOF := Lib.hid (doerOf_at hk hw)
  obtain ⟨ta, rfl⟩ := hfull h.tree
  generalize hw1 : w.alloc (.cells #[.int .i64 k, .string s, .string d] 39) = w1 at *
  obtain ⟨q, hq⟩ : ∃ q, w.heap.size = q := ⟨_, rfl⟩
  rw [hq] at TB
  have hpq : q ≠ p := by have := h.box.lt; omega
  have c3 := H1.out.box.c3
  rw [hdn] at c3
  have k0 := TB.out.c0
  have hwn := way_nil g
  obtain ⟨hc1, hc2⟩ := hc
  have HFP := Lib.hid h.fp
  have HFQ : Hid (¬ F q) := Lib.hid (fun hk => by have := h.low _ hk; omega)
  clear h
  rw [do_task hdn hk hf]
  simp only []
  go_enter Tryz.func12, Tryz.ntmps12
  go_wp2_with fail
  clear hw1
  refine (HOF.out _).mono ?_
  rintro e w2 ⟨rfl, hb⟩
  have H2 := H1.out.below C hb
  have T2 := Lib.hid (TB.out.below hb)
  have B2 := Lib.hid (on B1.out hb)
  have c2 := H2.box.c2
  have f2 := H2.box.fr 2
  have ht := turns_one w2 p 2 (.int .i64 (x.count + 1))
  have H3 := H2.stored C ht (x' := { x with count := x.count + 1 }) (H2.box.set2 _) rfl (H2.marks_turns ht)
  have T3 : Hid (TaskBox (w2.setCell ⟨p, 2, none⟩ (.int .i64 (x.count + 1))) q k s d) := Lib.hid (ht.keeps T2.out hpq)
  have U3 := Lib.hid ((Turns.new B2.out).trans (ht.wider (T' := F) fun k e => by have : k = p := e; rw [this]; exact HFP.out))
  obtain ⟨w3, hw3⟩ : ∃ w3, w2.setCell ⟨p, 2, none⟩ (.int .i64 (x.count + 1)) = w3 := ⟨_, rfl⟩
  rw [hw3] at H3 T3 U3
  have g0 := H3.box.c0
  have g1 := H3.box.c1
  have g2 := H3.box.c2
  have g3 := H3.box.c3
  have f3 := H3.box.fr 3
  have q0 := T3.out.c0
  have q1 := T3.out.c1
  have q2 := T3.out.c2
  have hask := H3.marks.ask (show (1 : Int) ≤ x.count + 1 by omega)
  have HM := Lib.hid H3
  rw [decide_eq_false hf] at hask
  clear H3 H2 hb ht
  go_wp2_with fail
  clear hw3
  go_quiet (fail)
  have hfin := Lib.hid (task_end C HD hg HM.out U3.out HFQ.out s d T3.out hs hd)
  clear HM U3 T3 hask
  go_wp2_with fail
  go_region_held3 (fun w' => w'.cell? ⟨p, 0, none⟩ = some (.pointer (some ta)) ∧ w'.cell? ⟨q, 0, none⟩ = some (.int .i64 k) ∧ w'.cell? ⟨q, 1, none⟩ = some (.string s) ∧ w'.cell? ⟨q, 2, none⟩ = some (.string d))
    (first | exact h8 | exact ⟨g0, q0, q1, q2⟩ | go_keep)
    (first | (refine (hfin.out _).mono ?_; rintro e w9 ⟨rfl, h8, h9⟩; have H9 := Lib.hid h9; clear h9))
  all_goals (
    go_wp2_with fail
    go_ret
    exact ⟨rfl, H9.out⟩)
set_option maxHeartbeats 4000000 in
theorem do_any (C : Trees Rep) (hfull : ∀ {F w v t}, Rep F w v t → ∃ a, v = .pointer (some a)) (S : Posix Rep) (h : RepF Rep F w v x) (hg : W09.Good x.t) (hc : Counts x) (k : Int) (s d : ByteArray) (hs : s.size ≤ 1048576) (hd : d.size ≤ 1048576) :
    Calls Tryz.prog 12 #[v, .agg #[.int .i64 k, .string s, .string d]] w fun e w' => e = .returned (.int .i64 (doFs x k s.data.toList d.data.toList).2) ∧ Turned (RepF Rep) F v (doFs x k s.data.toList d.data.toList).1 w w' := by
  obtain ⟨Ft, p, tv, mv, rfl, h⟩ := h
  have B1 := Lib.hid (below_task w k s d)
  have TB := Lib.hid (task_there w k s d)
  have H1 := Lib.hid (h.below C B1.out)
  have HH := Lib.hid h
  generalize hw1 : w.alloc (.cells #[.int .i64 k, .string s, .string d] 39) = w1 at *
  have c3 := H1.out.box.c3
  have k0 := TB.out.c0
  cases hdn : x.down with
  | true =>
    rw [do_down hdn]
    rw [hdn] at c3
    have HT : Hid (Turned (RepF Rep) F (.pointer (some ⟨p, 0, none⟩)) x w w1) := H1.out.turned (Turns.new B1.out)
    clear h hg hc
    go_enter Tryz.func12, Tryz.ntmps12
    go_wp2_with fail
    go_ret
    exact ⟨rfl, HT.out⟩
  | false =>
    rw [hdn] at c3
    by_cases hk : 1 ≤ k ∧ k ≤ 6
    · by_cases hf : fault x.faults (x.count + 1) ≠ 0
      · have hk2 : k = 1 ∨ k = 2 ∨ k = 3 ∨ k = 4 ∨ k = 5 ∨ k = 6 := by omega
        rcases hk2 with rfl | rfl | rfl | rfl | rfl | rfl
        all_goals exact do_fault_way C hfull hk rfl hf h hdn hc s d
      · have hk2 : k = 1 ∨ k = 2 ∨ k = 3 ∨ k = 4 ∨ k = 5 ∨ k = 6 := by omega
        rcases hk2 with rfl | rfl | rfl | rfl | rfl | rfl
        · exact do_task_way C hfull hk rfl (enters_of Tryz.func55 (by kernel_rfl) rfl) (does1_any C S) hg hf h hdn hc s d hs hd
        · exact do_task_way C hfull hk rfl (enters_of Tryz.func57 (by kernel_rfl) rfl) (does2_any C S) hg hf h hdn hc s d hs hd
        · exact do_task_way C hfull hk rfl (enters_of Tryz.func59 (by kernel_rfl) rfl) (does3_any C S) hg hf h hdn hc s d hs hd
        · exact do_task_way C hfull hk rfl (enters_of Tryz.func61 (by kernel_rfl) rfl) (does4_any C S) hg hf h hdn hc s d hs hd
        · exact do_task_way C hfull hk rfl (enters_of Tryz.func63 (by kernel_rfl) rfl) (does5_any C S) hg hf h hdn hc s d hs hd
        · exact do_task_way C hfull hk rfl (enters_of Tryz.func65 (by kernel_rfl) rfl) (does6_any C S) hg hf h hdn hc s d hs hd
    · rw [do_kind hdn hk]
      have HD := Lib.hid (doerOf_none k hk)
      have hnn := nil_nil
      clear h hg hc hk
      go_enter Tryz.func12, Tryz.ntmps12
      go_wp2_with fail
      clear hw1
      refine (HD.out _).mono ?_
      rintro e w2 ⟨rfl, hb⟩
      have HT : Hid (Turned (RepF Rep) F (.pointer (some ⟨p, 0, none⟩)) x w w2) := (H1.out.below C hb).turned (Turns.new (on B1.out hb))
      clear hb
      go_wp2_with fail
      go_ret
      exact ⟨rfl, HT.out⟩
end
end Go.Proofs.YtolhniepejhmfaaGreatDoor.W10
/-
  Layer 10 (fs), walks of the landed code: Apply, over any reading of a tree. The conditions stand in the statements.
-/
namespace Go.Proofs.YtolhniepejhmfaaGreatDoor.W10
set_option maxRecDepth 100000
open Go Go.RowKit Go.Proofs.YtolhniepejhmfaaGreatDoor.Strs Go.Proofs.YtolhniepejhmfaaGreatDoor.Recs Go.Proofs.YtolhniepejhmfaaGreatDoor.Range Go.Proofs.YtolhniepejhmfaaGreatDoor.Maps
open Go.Proofs.YtolhniepejhmfaaGreatDoor.M07 (Tr nodeAt Right)
open Go.Proofs.YtolhniepejhmfaaGreatDoor.M09 Go.Proofs.YtolhniepejhmfaaGreatDoor.M10
open Go.Proofs.YtolhniepejhmfaaGreatDoor.W07 (Small Trees Wrote Off heap_top narrow)
open Go.Proofs.YtolhniepejhmfaaGreatDoor.W09 (Posix TaskBox Tk Tasks tkC tkC_len Within)
open Go.Proofs.YtolhniepejhmfaaGreatDoor.Kit (ret_str ret_bool ret_int mk_of mk_bytes ba_ext below_draws on)

theorem tasks_turns {F : Blocks} {B : Nat} {w w' : World} {v : Value} {L : List Tk} (h : Tasks B w v L) (ht : Turns F w w') (hoff : Off F v) : Tasks B w' v L := by
  by_cases h0 : 0 < L.length
  · obtain ⟨A, c, rfl, h1, h2⟩ := h.form
    obtain ⟨b, o, _, rfl, hb, hc0, _⟩ := Tasks.at_ h h0
    have hlt := World.block_lt_of_cell? w _ hc0
    exact Recs.other h fun p hp => World.cell?_of_block (ht.block _ (by rw [hp]; exact hlt) (by rw [hp]; exact hoff _ _ _ _ rfl))
  · have e : L = [] := List.length_eq_zero_iff.1 (by omega)
    subst e
    obtain ⟨A, c, rfl, h1, h2, h3⟩ := h
    exact ⟨A, c, rfl, h1, h2, fun h => absurd h (by simp)⟩
theorem task_none {t : Tr} {k : Int} {a b : Bytes} (h : ¬ (1 ≤ k ∧ k ≤ 6)) : doTask t k a b = (t, 2) := by
  unfold doTask
  rw [if_neg (by omega), if_neg (by omega), if_neg (by omega), if_neg (by omega), if_neg (by omega), if_neg (by omega)]
theorem done_stop {t0 t : Tr} {l : List Tk} {k : Nat} {y : Tk} (h : Done t0 l k t) (hy : l[k]? = some y) (he : (doTask t y.kind y.path y.text).2 ≠ 0) : applyAll t0 l = (t, k, (doTask t y.kind y.path y.text).2) := by
  obtain ⟨hk, rfl⟩ := List.getElem?_eq_some_iff.1 hy
  exact h.stop hk he
theorem done_next {t0 t : Tr} {l : List Tk} {k : Nat} {y : Tk} (h : Done t0 l k t) (hy : l[k]? = some y) (he : (doTask t y.kind y.path y.text).2 = 0) : Done t0 l (k + 1) (doTask t y.kind y.path y.text).1 := by
  obtain ⟨hk, rfl⟩ := List.getElem?_eq_some_iff.1 hy
  exact h.next hk he
section
variable {Rep : Blocks → World → Value → Tr → Prop}
theorem way_of (C : Trees Rep) (S : Posix Rep) {k : Int} (hk : 1 ≤ k ∧ k ≤ 6) : ∃ g, ways[k.toNat]? = some (way g) ∧ (∀ args w, (callFunc g args).run Tryz.prog w = .ok (.enter g args) w) ∧ Does Rep g k := by
  have hk2 : k = 1 ∨ k = 2 ∨ k = 3 ∨ k = 4 ∨ k = 5 ∨ k = 6 := by omega
  rcases hk2 with rfl | rfl | rfl | rfl | rfl | rfl
  · exact ⟨_, rfl, enters_of Tryz.func55 (by kernel_rfl) rfl, does1_any C S⟩
  · exact ⟨_, rfl, enters_of Tryz.func57 (by kernel_rfl) rfl, does2_any C S⟩
  · exact ⟨_, rfl, enters_of Tryz.func59 (by kernel_rfl) rfl, does3_any C S⟩
  · exact ⟨_, rfl, enters_of Tryz.func61 (by kernel_rfl) rfl, does4_any C S⟩
  · exact ⟨_, rfl, enters_of Tryz.func63 (by kernel_rfl) rfl, does5_any C S⟩
  · exact ⟨_, rfl, enters_of Tryz.func65 (by kernel_rfl) rfl, does6_any C S⟩
/-- where the loop stands -/
structure Way (Rep : Blocks → World → Value → Tr → Prop) (F : Blocks) (w wr : World) (tv u : Value) (T0 : Tr) (L : List Tk) (k : Nat) (t : Tr) (F' : Blocks) : Prop where
  rep : Rep F' wr tv t
  done : Done T0 L k t
  turns : Turns F w wr
  from_ : ∀ k, F' k → F k ∨ w.heap.size ≤ k
  tasks : Tasks w.heap.size wr u L
variable {F F' : Blocks} {w wr w2 w3 : World} {tv u : Value} {T0 t : Tr} {L : List Tk} {k : Nat}
theorem Way.off (h : Way Rep F w wr tv u T0 L k t F') (ho : Off F u) (h0 : 0 < L.length) : Off F' u := by
  obtain ⟨A, c, rfl, h1, h2⟩ := h.tasks.form
  obtain ⟨b, o, _, rfl, hb, _⟩ := Tasks.at_ h.tasks h0
  intro b' o' n' c' e hk
  cases e
  rcases h.from_ _ hk with h | h
  · exact ho _ _ _ _ rfl h
  · omega
theorem Way.new (C : Trees Rep) (h : Way Rep F w wr tv u T0 L k t F') (hb : Below wr.heap.size wr w2) : Way Rep F w w2 tv u T0 L k t F' :=
  ⟨C.below h.rep hb, h.done, h.turns.trans (Turns.new hb), h.from_, h.tasks.below (hb.mono h.turns.size)⟩
theorem Way.wrote (_C : Trees Rep) (h : Way Rep F w wr tv u T0 L k t F') (ho : Off F u) (h0 : 0 < L.length) {t' : Tr} {k' : Nat} (hw : Wrote Rep F' tv t' wr w2) (hd : Done T0 L k' t') : ∃ F2, Way Rep F w w2 tv u T0 L k' t' F2 := by
  have hoff := h.off ho h0
  obtain ⟨F2, h1, h2, h3⟩ := hw
  refine ⟨F2, h1, hd, ?_, fun k hk => (h3 k hk).elim (h.from_ k) (fun e => Or.inr (Nat.le_trans h.turns.size e)), tasks_turns h.tasks h2 hoff⟩
  refine narrow ((h.turns.wider fun _ => Or.inl).trans (h2.wider h.from_))
theorem Way.gives (h : Way Rep F w wr tv u T0 L k t F') : Wrote Rep F tv t w wr := ⟨F', h.rep, h.turns, h.from_⟩
set_option maxHeartbeats 8000000 in
theorem apply_any (C : Trees Rep) (hfull : ∀ {F w v t}, Rep F w v t → ∃ a, v = .pointer (some a)) (S : Posix Rep) (h : Rep F w tv T0) (n : Nat) (hn : Within T0 n) (hL : Tasks w.heap.size w u L) (ho : 0 < L.length → Off F u) (hm : n + L.length ≤ 1048576) (hs : ∀ x ∈ L, x.path.length ≤ 1048576 ∧ x.text.length ≤ 1048576) :
    Calls Tryz.prog 19 #[tv, u] w fun e w' => e = .returned (.tuple #[.int .i64 ((applyAll T0 L).2.1 : Int), .int .i64 (applyAll T0 L).2.2]) ∧ Wrote Rep F tv (applyAll T0 L).1 w w' := by
  have W0 : Hid (Way Rep F w w tv u T0 L 0 T0 F) := ⟨h, .start, Turns.refl _ _, fun _ => Or.inl, hL⟩
  obtain ⟨ta, rfl⟩ := hfull h
  obtain ⟨A, c, rfl, hA1, hA2⟩ := hL.form
  have HO := Lib.hid ho
  have HS := Lib.hid hs
  have HN := Lib.hid hn
  have HEnd := Lib.hid (fun t (hd : Done T0 L L.length t) => hd.all (by omega))
  have HStop := Lib.hid (fun k t y (hd : Done T0 L k t) (hy : L[k]? = some y) => done_stop hd hy)
  unfold maxLen at hA2
  clear h hL ho hs
  generalize hR : applyAll T0 L = R at *
  generalize hq : L.length = m at *
  have HM := Lib.hid hq
  clear hq hR
  go_enter Tryz.func19, Tryz.ntmps19
  go_wp2_with fail
  go_loopw [14] (fun i wr => ∃ (k : Nat) (t : Tr) (F' : Blocks), k ≤ m ∧ i = .int .i64 k ∧ Hid (Way Rep F w wr (.pointer (some ta)) (.slice A m c) T0 L k t F')) (fun i _ => m - (intOf i).toNat)
  case atStart => exact ⟨0, _, _, Nat.zero_le _, rfl, W0⟩
  case round =>
    clear W0
    obtain ⟨k, t, F', hk, rfl, hr⟩ := hrel
    by_cases hlt : k < m
    · obtain ⟨b, o, hl1, rfl, hbl, hc0, hc1, hc2⟩ := Tasks.at_ hr.out.tasks hlt
      have hxd := HS.out _ (List.getElem_mem hl1)
      have hy : L[k]? = some L[k] := List.getElem?_eq_getElem hl1
      have HStop := Lib.hid (fun hd => HStop.out k t _ hd hy)
      have HNext := Lib.hid (fun hd he => done_next (t0 := T0) (l := L) (t := t) hd hy he)
      have hL0 : 0 < m := by omega
      clear hy
      generalize L[k] = y at *
      obtain ⟨yk, yp, yt⟩ := y
      obtain ⟨sp, hsp⟩ : ∃ d : ByteArray, d.data.toList = yp := ⟨⟨yp.toArray⟩, rfl⟩
      obtain ⟨st, hst⟩ : ∃ d : ByteArray, d.data.toList = yt := ⟨⟨yt.toArray⟩, rfl⟩
      subst hsp hst
      have a0 : wr.cell? ⟨b, o + k * 3, none⟩ = some (.int .i64 yk) := hc0
      have a1 : wr.cell? ⟨b, o + k * 3 + 1, none⟩ = some (.string sp) := by have := hc1; rw [mk_bytes] at this; exact this
      have a2 : wr.cell? ⟨b, o + k * 3 + 2, none⟩ = some (.string st) := by have := hc2; rw [mk_bytes] at this; exact this
      have hps : sp.size ≤ 1048576 := by have := hxd.1; rw [← Lib.size_eq] at this; omega
      have hts : st.size ≤ 1048576 := by have := hxd.2; rw [← Lib.size_eq] at this; omega
      have B1 := Lib.hid (below_task wr yk sp st)
      have TB := Lib.hid (task_there wr yk sp st)
      obtain ⟨wB, hwB⟩ : ∃ wB, wr.alloc (.cells #[.int .i64 yk, .string sp, .string st] 39) = wB := ⟨_, rfl⟩
      rw [hwB] at B1 TB
      have k0 := TB.out.c0
      have HG : Hid (W09.Good t) := Lib.hid ((hr.out.done.within HN.out).good (by omega))
      clear hc0 hc1 hc2 hxd
      by_cases hkd : 1 ≤ yk ∧ yk ≤ 6
      · obtain ⟨g, hg1, eg, hD⟩ := way_of C S hkd
        have HOF := Lib.hid (doerOf_at hkd hg1)
        have hwn := way_nil g
        go_wp2_with fail
        clear hwB
        refine (HOF.out _).mono ?_
        rintro e w2 ⟨rfl, hb⟩
        have W2 := Lib.hid (hr.out.new C (on B1.out hb))
        have T2 := TB.out.below hb
        have x0 := T2.c0
        have x1 := T2.c1
        have x2 := T2.c2
        have HDO := Lib.hid (hD W2.out.rep HG.out sp st hps hts)
        have HER := Lib.hid (@do_err t yk sp.data.toList st.data.toList)
        generalize doTask t yk sp.data.toList st.data.toList = Q at *
        obtain ⟨T', fe⟩ := Q
        clear hb T2
        go_wp2_with fail
        refine HDO.out.mono ?_
        rintro e w3 ⟨rfl, hw⟩
        have hw : Wrote Rep F' (.pointer (some ta)) T' w2 w3 := hw
        by_cases hfe : fe = 0
        · subst hfe
          obtain ⟨F2, W3⟩ := W2.out.wrote C (HO.out hL0) (by omega) hw (HNext.out W2.out.done rfl)
          have W3 := Lib.hid W3
          clear hw
          go_wp2_with fail
          go_roundw
          case rel => exact ⟨k + 1, T', F2, by omega, by go_num, W3⟩
          case measure => simp [intOf]; omega
        · have HT : T' = t := HER.out hfe
          subst HT
          obtain ⟨F2, W3⟩ := W2.out.wrote C (HO.out hL0) (by omega) hw W2.out.done
          have W3 := Lib.hid W3
          have HR := HStop.out W2.out.done hfe
          have tn : (fe != 0) = true := by simp [hfe]
          clear hw hfe
          go_wp2_with fail
          go_ret2
          rw [HR]
          exact ⟨rfl, W3.out.gives⟩
      · have HOF := Lib.hid (doerOf_none yk hkd)
        have hnn := nil_nil
        have hT := task_none (t := t) (a := sp.data.toList) (b := st.data.toList) hkd
        have HR := HStop.out hr.out.done (by rw [hT]; show (2 : Int) ≠ 0; decide)
        rw [hT] at HR
        have HR := Lib.hid HR
        clear hT hkd
        go_wp2_with fail
        clear hwB
        refine (HOF.out _).mono ?_
        rintro e w2 ⟨rfl, hb⟩
        have W2 := Lib.hid (hr.out.new C (on B1.out hb))
        clear hb
        go_wp2_with fail
        go_ret2
        rw [HR.out]
        exact ⟨rfl, W2.out.gives⟩
    · have hkm : k = m := by omega
      subst hkm
      have HR := Lib.hid (HEnd.out t hr.out.done)
      go_wp2_with fail
      go_ret2
      rw [HR.out]
      exact ⟨rfl, hr.out.gives⟩
set_option maxHeartbeats 2000000 in
theorem applyNil_any (w : World) (u : Value) (h : ∃ A n c, u = .slice A n c) : Calls Tryz.prog 19 #[.pointer none, u] w fun e w' => e = .returned (.tuple #[.int .i64 0, .int .i64 1]) ∧ Below w.heap.size w w' := by
  obtain ⟨A, n, c, rfl⟩ := h
  go_enter Tryz.func19, Tryz.ntmps19
  go_wp2_with fail
  go_ret2
  exact ⟨rfl, Below.refl _ _⟩
end
end Go.Proofs.YtolhniepejhmfaaGreatDoor.W10
/-
  Layer 9 (posix), walks over the contracts: the laws PosixMoves and PosixNone: each returns true; nothing that was there is changed. The conditions stand in the statements.
-/
namespace Go.Proofs.YtolhniepejhmfaaGreatDoor.W09
open Go Go.RowKit Go.Proofs.YtolhniepejhmfaaGreatDoor.Strs Go.Proofs.YtolhniepejhmfaaGreatDoor.Recs Go.Proofs.YtolhniepejhmfaaGreatDoor.Range
open Go.Proofs.YtolhniepejhmfaaGreatDoor.M07 (Tr Nd nodeAt inDir Right listDir)
open Go.Proofs.YtolhniepejhmfaaGreatDoor.M08 Go.Proofs.YtolhniepejhmfaaGreatDoor.M09
open Go.Proofs.YtolhniepejhmfaaGreatDoor.W07 (Small Trees Wrote Nodes nodeV TreeBox heap_top)
open Go.Proofs.YtolhniepejhmfaaGreatDoor.W08 (Sn Snodes snC snC_len isFew few_is made Seeks)
open Go.Proofs.YtolhniepejhmfaaGreatDoor.Kit (ret_str ret_bool ret_int mk_of mk_bytes ba_ext below_draws on)

end Go.Proofs.YtolhniepejhmfaaGreatDoor.W09
/-
  Layer 9 (posix): the landed code keeps the contracts that the laws ask ('Posix', 'NoPosix': XW09Code); so the laws hold. Conditions: none but those that each theorem bears.
-/
namespace Go.Proofs.YtolhniepejhmfaaGreatDoor.W09
open Go Go.RowKit Go.Proofs.YtolhniepejhmfaaGreatDoor.Strs Go.Proofs.YtolhniepejhmfaaGreatDoor.Recs
open Go.Proofs.YtolhniepejhmfaaGreatDoor.W07 (trees)
open Go.Proofs.YtolhniepejhmfaaGreatDoor.W08 (Sn Snodes)

end Go.Proofs.YtolhniepejhmfaaGreatDoor.W09
/-
  Layer 10 (fs): the landed code meets the contracts of layer 10 ('fss', 'applies'). No condition.
-/
namespace Go.Proofs.YtolhniepejhmfaaGreatDoor.W10
open Go Go.RowKit
open Go.Proofs.YtolhniepejhmfaaGreatDoor.W07 (Trees)

theorem full_tree {F : Blocks} {w : World} {v : Value} {t : M07.Tr} (h : W07.Rep F w v t) : ∃ a, v = .pointer (some a) := by
  obtain ⟨-, sb, mb, lv, rfl, -⟩ := h
  exact ⟨_, rfl⟩
theorem fss : Fss W07.Rep (RepF W07.Rep) where
  keep := fun ⟨Ft, p, tv, mv, e, h⟩ hk hs => ⟨Ft, p, tv, mv, e, h.keep W07.trees hk hs⟩
  low := fun ⟨_, _, _, _, _, h⟩ => h.low
  right := fun ⟨_, _, _, _, _, h⟩ => W07.trees.right h.tree
  full := fun ⟨_, p, _, _, e, _⟩ => ⟨⟨p, 0, none⟩, e⟩
  new := fun h => new_any W07.trees full_tree h
  newNil := fun w => newNil_any W07.trees full_tree w
  plan := fun h u L hL => plan_any W07.trees h u L hL
  do_ := fun h hg hc k p s hp hs => do_any W07.trees full_tree W09.posix h hg hc k p s hp hs
  count := fun h => count_any h
  down := fun h => down_any h
  up := fun h => up_any W07.trees h
  tree := fun h => tree_any h
theorem applies : Applies W07.Rep where
  apply := fun h n hn _ _ hL ho hm hs => apply_any W07.trees full_tree W09.posix h n hn hL ho hm hs
  applyNil := fun w u h => applyNil_any w u h
end Go.Proofs.YtolhniepejhmfaaGreatDoor.W10
/-
  Layer 10 (fs): the landed code keeps the contracts that the law FsApplies asks ('fss', 'applies': XW10Inst); so the law holds. Conditions: none but those that the theorem bears.
-/
namespace Go.Proofs.YtolhniepejhmfaaGreatDoor.W10
open Go Go.RowKit Go.Proofs.YtolhniepejhmfaaGreatDoor.Strs Go.Proofs.YtolhniepejhmfaaGreatDoor.Recs
open Go.Proofs.YtolhniepejhmfaaGreatDoor.W07 (trees)
open Go.Proofs.YtolhniepejhmfaaGreatDoor.W08 (Sn Snodes)
open Go.Proofs.YtolhniepejhmfaaGreatDoor.W09 (Tk Tasks)

theorem fsApplies_law (w : World) (v : Value) (L : List Sn) (h : Snodes w.heap.size w v L) (y : Value) (K : List Tk) (hK : Tasks w.heap.size w y K) :
    Calls Tryz.prog 4 #[v, y] w fun e w' => e = .returned (.bool true) ∧ Below w.heap.size w w' := fsApplies_over trees applies fss w v y L h K hK
end Go.Proofs.YtolhniepejhmfaaGreatDoor.W10
/-
  Arguments that are acts on an FS, slices of them, opened: each act's own faults are opened, too. For this program's types; no condition but those that each theorem bears.
-/
namespace Go.Proofs.YtolhniepejhmfaaGreatDoor.W10
open Go Go.RowKit Go.ChangeShapes Go.WideShapes Go.Deep Go.Joins
open Go.Proofs.YtolhniepejhmfaaGreatDoor.Strs (strV)
open Go.Proofs.YtolhniepejhmfaaGreatDoor.Recs
open Go.Proofs.YtolhniepejhmfaaGreatDoor.M10
open Go.Proofs.YtolhniepejhmfaaGreatDoor.W09 (Tk tkC tk_read tk_cells)
open Go.Proofs.YtolhniepejhmfaaGreatDoor.Kit (mk_bytes)

section
variable {H : Type} {enc : TypeId × Value → H} {W : World} {base : Nat}
/-- a slice of records, as a part of a datum: what each element is may use that its places lie in memory -/
theorem open_recs_at {α : Type} {encA : α → List Value} {sz : Nat} {Q : α → Prop} {P : Program} {t e : TypeId} {fuel : Nat} {cs : List Value} {x : DataW H × List MemPlace}
    (ht : P.underlying t = some (.slice e)) (hc : P.cellsOf e = sz) (h0 : 0 < sz)
    (hel : ∀ (n : Nat) (cs : List Value) (x : DataW H × List MemPlace), cs.length = sz → DataW.trod enc P W 0 (fun _ => true) true n e cs = some x → (∀ q ∈ x.2, q.block < W.heap.size) → ∃ r : α, cs = encA r ∧ Q r)
    (h : DataW.trod enc P W 0 (fun _ => true) true fuel t cs = some x) (hlt : ∀ q ∈ x.2, q.block < W.heap.size) :
    ∃ (v : Value) (L : List α), cs = [v] ∧ Recs encA sz W.heap.size W v L ∧ ∀ r ∈ L, Q r := by
  rcases open_slice ht h with ⟨hcs, hx⟩ | ⟨a, len, cap, m, n, D, Pl, hcs, _, hl, hm, hz, hx, hi⟩
  · exact ⟨_, [], hcs, recs_nil _ _ _ _, fun r hr => by simp at hr⟩
  · simp only [if_true] at hz
    subst hz
    have hx2 : x.2 = MemPlace.row a (m * P.cellsOf e) ++ (List.range m).flatMap Pl := by rw [hx]
    have each : ∀ i, i < len → ∃ r : α, (∀ j, j < sz → W.cell? (a.add (i * sz + j)) = (encA r)[j]?) ∧ Q r := by
      intro i hi2
      obtain ⟨cs', h1, h2⟩ := hi i (by omega)
      rw [hc] at h1
      obtain ⟨_, hlen, hcell⟩ := World.cells?_some h1
      obtain ⟨r, hr, hq⟩ := hel _ _ _ hlen h2 (fun q hq => hlt q (by rw [hx2]; exact List.mem_append_right _ (List.mem_flatMap.2 ⟨i, List.mem_range.2 (by omega), hq⟩)))
      refine ⟨r, fun j hj => ?_, hq⟩
      have := hcell j hj
      rw [hr, Go.Deep.add_add] at this
      exact this
    obtain ⟨L, hL, hP⟩ := choose_list len each
    refine ⟨_, L, hcs, ⟨some a, m, by rw [hL], by rw [hL]; exact hl, hm, fun hn => ⟨a, rfl, ?_, fun k hk j hj => (hP k hk).1 j hj⟩⟩, fun r hr => ?_⟩
    · rw [hL] at hn
      obtain ⟨b, off, spot⟩ := a
      refine hlt (.cell b off) ?_
      rw [hx2]
      refine List.mem_append_left _ (MemPlace.mem_row.2 ⟨0, ?_, by simp⟩)
      rw [hc]
      exact Nat.mul_pos (by omega) h0
    · obtain ⟨i, hi2, e⟩ := List.getElem_of_mem hr
      rw [← e]; exact (hP i hi2).2
theorem fl_struct : ∃ f0 f1 : Field, Tryz.prog.underlying 61 = some (.struct #[f0, f1]) ∧ f0.type = 3 ∧ f1.type = 43 ∧ oneCellFields Tryz.prog #[f0, f1] = true :=
  ⟨_, _, Tryz.underlying61, rfl, rfl, by kernel_rfl⟩
theorem fl_cells : Tryz.prog.cellsOf 61 = 2 := by kernel_rfl
theorem two_of_list {α : Type} : ∀ {l : List α}, l.length = 2 → ∃ a b, l = [a, b]
  | [a, b], _ => ⟨a, b, rfl⟩
theorem five_of_list {α : Type} : ∀ {l : List α}, l.length = 5 → ∃ a b c d e, l = [a, b, c, d, e]
  | [a, b, c, d, e], _ => ⟨a, b, c, d, e, rfl⟩
theorem fl_read (n : Nat) (cs : List Value) (x : DataW H × List MemPlace) (hl : cs.length = 2) (h : DataW.trod enc Tryz.prog W 0 (fun _ => true) true n 61 cs = some x) (_ : ∀ q ∈ x.2, q.block < W.heap.size) : ∃ r : Fl, cs = flC r ∧ (Lit.int .i64 r.at_).wf = true := by
  obtain ⟨f0, f1, hs, e0, e1, hone⟩ := fl_struct
  obtain ⟨o0, k0⟩ := hone_of hone 0 f0 rfl
  obtain ⟨o1, k1⟩ := hone_of hone 1 f1 rfl
  obtain ⟨xs, m, _, _, _, hxl, hf⟩ := DataW.trod_struct hs h
  have hxl2 : xs.length = 2 := hxl
  have g0 := hf 0 f0 rfl
  have g1 := hf 1 f1 rfl
  rw [o0, k0, e0, List.getElem?_eq_getElem (by omega)] at g0
  rw [o1, k1, e1, List.getElem?_eq_getElem (by omega)] at g1
  obtain ⟨c0, c1, rfl⟩ := two_of_list hl
  obtain ⟨z0, q0, _, hw⟩ := DataW.trod_int Tryz.underlying3 g0
  obtain ⟨z1, q1, _, _⟩ := DataW.trod_int Tryz.underlying43 g1
  simp at q0 q1
  subst q0 q1
  exact ⟨⟨z0, z1⟩, rfl, hw⟩
theorem ac_struct : ∃ f0 f1 f2 : Field, Tryz.prog.underlying 41 = some (.struct #[f0, f1, f2]) ∧ f0.type = 3 ∧ f1.type = 35 ∧ f2.type = 39 ∧ f0.offset = 0 ∧ f1.offset = 1 ∧ f2.offset = 2 :=
  ⟨_, _, _, Tryz.underlying41, rfl, rfl, rfl, by kernel_rfl, by kernel_rfl, by kernel_rfl⟩
theorem ac_cells : Tryz.prog.cellsOf 41 = 5 := by kernel_rfl
theorem int_cells : Tryz.prog.cellsOf 3 = 1 := by kernel_rfl
theorem faults_cells : Tryz.prog.cellsOf 35 = 1 := by kernel_rfl
theorem ac_read (n : Nat) (cs : List Value) (x : DataW H × List MemPlace) (hl : cs.length = 5) (h : DataW.trod enc Tryz.prog W 0 (fun _ => true) true n 41 cs = some x) (hx : ∀ q ∈ x.2, q.block < W.heap.size) : ∃ r : Ac, cs = acC r ∧ Faults W.heap.size W r.fv r.faults := by
  obtain ⟨f0, f1, f2, hs, e0, e1, e2, o0, o1, o2⟩ := ac_struct
  obtain ⟨xs, m, _, hxe, _, hxl, hf⟩ := DataW.trod_struct hs h
  have hxl3 : xs.length = 3 := hxl
  have g0 := hf 0 f0 rfl
  have g1 := hf 1 f1 rfl
  have g2 := hf 2 f2 rfl
  rw [o0, e0, int_cells, List.getElem?_eq_getElem (by omega)] at g0
  rw [o1, e1, faults_cells, List.getElem?_eq_getElem (by omega)] at g1
  rw [o2, e2, tk_cells, List.getElem?_eq_getElem (by omega)] at g2
  obtain ⟨c0, c1, c2, c3, c4, rfl⟩ := five_of_list hl
  obtain ⟨z0, q0, _, _⟩ := DataW.trod_int Tryz.underlying3 g0
  have hin : ∀ q ∈ (xs[1]'(by omega)).2, q.block < W.heap.size := fun q hq => hx q (by rw [hxe]; exact List.mem_flatMap.2 ⟨xs[1]'(by omega), List.getElem_mem _, hq⟩)
  obtain ⟨v, L, q1, hr, hw⟩ := open_recs_at Tryz.underlying35 fl_cells (by omega) fl_read g1 hin
  obtain ⟨tk, q2, _⟩ := tk_read _ _ _ (by rfl) g2
  simp at q0 q1 q2
  subst q0 q1
  refine ⟨⟨z0, _, L, tk⟩, ?_, hr, hw⟩
  have q3 : [c2, c3, c4] = tkC tk := by simpa using q2
  show [_, _, c2, c3, c4] = _
  show _ :: _ :: [c2, c3, c4] = _
  rw [q3]; rfl
set_option maxRecDepth 100000 in
theorem open_fsacts {v : Value} {d : DataW H} {p : List MemPlace} (hok : Value.okWide Tryz.prog W .any base 23 v) (h : DataW.Trod enc Tryz.prog W 0 (fun _ => true) true 23 v d p) (hlt : ∀ x ∈ p, x.block < W.heap.size) :
    ∃ L : List Ac, Acts W.heap.size W v L ∧ ∀ r ∈ L, Faults W.heap.size W r.fv r.faults := by
  obtain ⟨a0, len, cap, rfl⟩ := okWide_slice Tryz.underlying23 hok
  obtain ⟨fuel, hf⟩ := h
  obtain ⟨v2, L, q, hr, hw⟩ := open_recs_at Tryz.underlying23 ac_cells (by omega) ac_read hf hlt
  have e : v2 = .slice a0 len cap := by have := q.symm; simpa [Value.cells] using this
  subst e
  exact ⟨L, ⟨hr, hw⟩, hw⟩
end
end Go.Proofs.YtolhniepejhmfaaGreatDoor.W10
