/-
  Texts joined, in build order, each with its own comment and its own conditions: W10Do, W10Apply, W09More, W09Put, W07Lives, W07Goes, W09Does, W09Laws, W10Inst, W10LawN.
-/
import Derived.Test.YtolhniepejhmfaaDoorJ21
import Derived.BigQuiet
import Derived.Deep.RegionHeld3
import Derived.Test.YtolhniepejhmfaaDoorJ07
import Derived.Test.YtolhniepejhmfaaDoorJ10
import Derived.Test.YtolhniepejhmfaaDoorJ06
import Derived.Test.YtolhniepejhmfaaDoorJ03
import Derived.Test.YtolhniepejhmfaaDoorJ20
import Derived.Test.YtolhniepejhmfaaDoorJ15
/-
  Layer 10 (fs), walks of the landed code: Do, over any reading of a tree. The conditions stand in the statements.
-/
namespace Go.Proofs.YtolhniepejhmfaaDoor.W10
set_option maxRecDepth 100000
open Go Go.RowKit Go.Proofs.YtolhniepejhmfaaDoor.Strs Go.Proofs.YtolhniepejhmfaaDoor.Recs Go.Proofs.YtolhniepejhmfaaDoor.Range Go.Proofs.YtolhniepejhmfaaDoor.Maps
open Go.Proofs.YtolhniepejhmfaaDoor.M07 (Tr nodeAt Right)
open Go.Proofs.YtolhniepejhmfaaDoor.M09 Go.Proofs.YtolhniepejhmfaaDoor.M10
open Go.Proofs.YtolhniepejhmfaaDoor.W07 (Small Trees Wrote heap_top set_heap)
open Go.Proofs.YtolhniepejhmfaaDoor.W09 (Posix TaskBox)
open Go.Proofs.YtolhniepejhmfaaDoor.Kit (ret_str ret_bool ret_int mk_of mk_bytes ba_ext below_draws on)

section
variable {Rep : Blocks → World → Value → Tr → Prop} {F Ft : Blocks} {w w' : World} {p : Nat} {v tv mv : Value} {x : Fs} {t : Tr}
theorem do_down {k : Int} {a b : Bytes} (h : x.down = true) : doFs x k a b = (x, 17) := by unfold doFs; rw [if_pos h]
theorem do_kind {k : Int} {a b : Bytes} (h : x.down = false) (hk : ¬ (1 ≤ k ∧ k ≤ 6)) : doFs x k a b = (x, 2) := by
  unfold doFs
  rw [if_neg (by rw [h]; decide), if_pos (by omega)]
theorem do_fault {k : Int} {a b : Bytes} (h : x.down = false) (hk : 1 ≤ k ∧ k ≤ 6) (hf : fault x.faults (x.count + 1) ≠ 0) : doFs x k a b = ({ x with count := x.count + 1, down := decide (fault x.faults (x.count + 1) = 17) }, fault x.faults (x.count + 1)) := by
  unfold doFs
  rw [if_neg (by rw [h]; decide), if_neg (by omega), if_pos hf]
theorem do_task {k : Int} {a b : Bytes} (h : x.down = false) (hk : 1 ≤ k ∧ k ≤ 6) (hf : ¬ fault x.faults (x.count + 1) ≠ 0) : doFs x k a b = ({ x with t := (doTask x.t k a b).1, count := x.count + 1 }, (doTask x.t k a b).2) := by
  unfold doFs
  rw [if_neg (by rw [h]; decide), if_neg (by omega), if_neg hf]
theorem nil_nil (w : World) : (binOp BinOp.eql 41 .nilFunc .nilFunc).run Tryd.prog w = .ok (.bool true) w := by kernel_rfl
theorem way_nil (g : Nat) (w : World) : (binOp BinOp.eql 41 (way g) .nilFunc).run Tryd.prog w = .ok (.bool false) w := by kernel_rfl
theorem below_task (w : World) (k : Int) (s d : ByteArray) : Below w.heap.size w (w.alloc (.cells #[.int .i64 k, .string s, .string d] 23)) := W07.below_one _ _
theorem task_there (w : World) (k : Int) (s d : ByteArray) : TaskBox (w.alloc (.cells #[.int .i64 k, .string s, .string d] 23)) w.heap.size k s d := heap_top _ _
theorem doerOf_at {k : Int} {g : Nat} (hk : 1 ≤ k ∧ k ≤ 6) (hg : ways[k.toNat]? = some (way g)) (w : World) : Calls Tryd.prog 12 #[.int .i64 k] w fun e w' => e = .returned (way g) ∧ Below w.heap.size w w' :=
  (doerOf_any k hk w).mono fun e w' ⟨⟨v, he, hv⟩, hb⟩ => ⟨by rw [hg] at hv; rw [he, Option.some.inj hv], hb⟩
theorem fault_end {w3 : World} {tv : Value} (C : Trees Rep) (h : FsAt Rep F Ft w3 p tv mv { x with count := x.count + 1 }) (hu : Turns F w w3) (hp : F p) (n : Nat) (b : Bool) :
    Turned (RepF Rep) F (.pointer (some ⟨p, 0, none⟩)) { x with count := x.count + 1, down := b } w ((w3.drewN n).setCell ⟨p, 3, none⟩ (.bool b)) := by
  have h1 := h.keep C (w' := w3.drewN n) (fun _ _ => rfl) (Nat.le_refl _)
  have ht := turns_one (w3.drewN n) p 3 (.bool b)
  exact (h1.stored C ht (x' := { x with count := x.count + 1, down := b }) (h1.box.set3 b) rfl (h1.marks_turns ht)).turned ((hu.trans (Turns.draw _ _ _)).trans (ht.wider (T' := F) fun k e => by have : k = p := e; rw [this]; exact hp))
theorem task_end {w3 : World} {tv : Value} {g : Nat} {k : Int} (C : Trees Rep) (HD : Does Rep g k) (hg : W09.Good x.t) (h : FsAt Rep F Ft w3 p tv mv { x with count := x.count + 1 }) (hu : Turns F w w3) {q : Nat} (hq : ¬ F q) (s d : ByteArray) (hb : TaskBox w3 q k s d) (hs : s.size ≤ 1048576) (hd : d.size ≤ 1048576) (n : Nat) :
    Calls Tryd.prog g #[tv, .agg #[.int .i64 k, .string s, .string d]] (w3.drewN n) fun e w' => e = .returned (.int .i64 (doTask x.t k s.data.toList d.data.toList).2) ∧ (w'.cell? ⟨p, 0, none⟩ = some tv ∧ w'.cell? ⟨q, 0, none⟩ = some (.int .i64 k) ∧ w'.cell? ⟨q, 1, none⟩ = some (.string s) ∧ w'.cell? ⟨q, 2, none⟩ = some (.string d)) ∧ Turned (RepF Rep) F (.pointer (some ⟨p, 0, none⟩)) { x with t := (doTask x.t k s.data.toList d.data.toList).1, count := x.count + 1 } w w' := by
  have h1 := h.keep C (w' := w3.drewN n) (fun _ _ => rfl) (Nat.le_refl _)
  refine (HD h1.tree hg s d hs hd).mono ?_
  rintro e w' ⟨rfl, hw⟩
  have hw2 := hw
  obtain ⟨F', -, h2, -⟩ := hw2
  have b1 := h1.box.turns h2 h.tp
  have b2 : TaskBox w' q k s d := h2.keeps (show TaskBox (w3.drewN n) q k s d from hb) (fun hk => hq (h.sub _ hk))
  exact ⟨rfl, ⟨b1.c0, b2.c0, b2.c1, b2.c2⟩, Turned.from (hu.trans (Turns.draw _ _ _)) (h1.wrote C hw)⟩
set_option maxHeartbeats 4000000 in
theorem do_fault_way (C : Trees Rep) (hfull : ∀ {F w v t}, Rep F w v t → ∃ a, v = .pointer (some a)) {g : Nat} {k : Int} (hk : 1 ≤ k ∧ k ≤ 6) (hw : ways[k.toNat]? = some (way g)) (hf : fault x.faults (x.count + 1) ≠ 0) (h : FsAt Rep F Ft w p tv mv x) (hdn : x.down = false) (hc : Counts x) (s d : ByteArray) :
    Calls Tryd.prog 6 #[.pointer (some ⟨p, 0, none⟩), .agg #[.int .i64 k, .string s, .string d]] w fun e w' => e = .returned (.int .i64 (doFs x k s.data.toList d.data.toList).2) ∧ Turned (RepF Rep) F (.pointer (some ⟨p, 0, none⟩)) (doFs x k s.data.toList d.data.toList).1 w w' := by
  have B1 := Lib.hid (below_task w k s d)
  have TB := Lib.hid (task_there w k s d)
  have H1 := Lib.hid (h.below C B1.out)
  have HOF := Lib.hid (doerOf_at hk hw)
  obtain ⟨ta, rfl⟩ := hfull h.tree
  generalize hw1 : w.alloc (.cells #[.int .i64 k, .string s, .string d] 23) = w1 at *
  obtain ⟨q, hq⟩ : ∃ q, w.heap.size = q := ⟨_, rfl⟩
  rw [hq] at TB
  have hpq : q ≠ p := by have := h.box.lt; omega
  have c3 := H1.out.box.c3
  rw [hdn] at c3
  have k0 := TB.out.c0
  have hwn := way_nil g
  obtain ⟨hc1, hc2⟩ := hc
  have HFP := Lib.hid h.fp
  have HFQ : Hid (¬ F q) := Lib.hid (fun hk => by have := h.low _ hk; omega)
  clear h
  rw [do_fault hdn hk hf]
  simp only []
  go_enter Tryd.func6, Tryd.ntmps6
  go_wp2_with fail
  clear hw1
  refine (HOF.out _).mono ?_
  rintro e w2 ⟨rfl, hb⟩
  have H2 := H1.out.below C hb
  have T2 := Lib.hid (TB.out.below hb)
  have B2 := Lib.hid (on B1.out hb)
  have c2 := H2.box.c2
  have f2 := H2.box.fr 2
  have ht := turns_one w2 p 2 (.int .i64 (x.count + 1))
  have H3 := H2.stored C ht (x' := { x with count := x.count + 1 }) (H2.box.set2 _) rfl (H2.marks_turns ht)
  have T3 : Hid (TaskBox (w2.setCell ⟨p, 2, none⟩ (.int .i64 (x.count + 1))) q k s d) := Lib.hid (ht.keeps T2.out hpq)
  have U3 := Lib.hid ((Turns.new B2.out).trans (ht.wider (T' := F) fun k e => by have : k = p := e; rw [this]; exact HFP.out))
  obtain ⟨w3, hw3⟩ : ∃ w3, w2.setCell ⟨p, 2, none⟩ (.int .i64 (x.count + 1)) = w3 := ⟨_, rfl⟩
  rw [hw3] at H3 T3 U3
  have g0 := H3.box.c0
  have g1 := H3.box.c1
  have g2 := H3.box.c2
  have g3 := H3.box.c3
  have f3 := H3.box.fr 3
  have q0 := T3.out.c0
  have q1 := T3.out.c1
  have q2 := T3.out.c2
  have hask := H3.marks.ask (show (1 : Int) ≤ x.count + 1 by omega)
  have HM := Lib.hid H3
  rw [decide_eq_true hf] at hask
  clear H3 H2 hb ht
  go_wp2_with fail
  clear hw3
  go_quiet (fail)
  have hfin := Lib.hid (fun n => fault_end C HM.out U3.out HFP.out n (decide (fault x.faults (x.count + 1) = 17)))
  clear HM U3 T3 hask
  go_wp2_with fail
  go_ret
  exact ⟨rfl, hfin.out _⟩
set_option maxHeartbeats 4000000 in
theorem do_task_way (C : Trees Rep) (hfull : ∀ {F w v t}, Rep F w v t → ∃ a, v = .pointer (some a)) {g : Nat} {k : Int} (hk : 1 ≤ k ∧ k ≤ 6) (hw : ways[k.toNat]? = some (way g)) (eg : ∀ args w, (callFunc g args).run Tryd.prog w = .ok (.enter g args) w) (HD : Does Rep g k) (hg : W09.Good x.t) (hf : ¬ fault x.faults (x.count + 1) ≠ 0) (h : FsAt Rep F Ft w p tv mv x) (hdn : x.down = false) (hc : Counts x) (s d : ByteArray) (hs : s.size ≤ 1048576) (hd : d.size ≤ 1048576) :
    Calls Tryd.prog 6 #[.pointer (some ⟨p, 0, none⟩), .agg #[.int .i64 k, .string s, .string d]] w fun e w' => e = .returned (.int .i64 (doFs x k s.data.toList d.data.toList).2) ∧ Turned (RepF Rep) F (.pointer (some ⟨p, 0, none⟩)) (doFs x k s.data.toList d.data.toList).1 w w' := by
  have B1 := Lib.hid (below_task w k s d)
  have TB := Lib.hid (task_there w k s d)
  have H1 := Lib.hid (h.below C B1.out)
  have HOF := Lib.hid (doerOf_at hk hw)
  obtain ⟨ta, rfl⟩ := hfull h.tree
  generalize hw1 : w.alloc (.cells #[.int .i64 k, .string s, .string d] 23) = w1 at *
  obtain ⟨q, hq⟩ : ∃ q, w.heap.size = q := ⟨_, rfl⟩
  rw [hq] at TB
  have hpq : q ≠ p := by have := h.box.lt; omega
  have c3 := H1.out.box.c3
  rw [hdn] at c3
  have k0 := TB.out.c0
  have hwn := way_nil g
  obtain ⟨hc1, hc2⟩ := hc
  have HFP := Lib.hid h.fp
  have HFQ : Hid (¬ F q) := Lib.hid (fun hk => by have := h.low _ hk; omega)
  clear h
  rw [do_task hdn hk hf]
  simp only []
  go_enter Tryd.func6, Tryd.ntmps6
  go_wp2_with fail
  clear hw1
  refine (HOF.out _).mono ?_
  rintro e w2 ⟨rfl, hb⟩
  have H2 := H1.out.below C hb
  have T2 := Lib.hid (TB.out.below hb)
  have B2 := Lib.hid (on B1.out hb)
  have c2 := H2.box.c2
  have f2 := H2.box.fr 2
  have ht := turns_one w2 p 2 (.int .i64 (x.count + 1))
  have H3 := H2.stored C ht (x' := { x with count := x.count + 1 }) (H2.box.set2 _) rfl (H2.marks_turns ht)
  have T3 : Hid (TaskBox (w2.setCell ⟨p, 2, none⟩ (.int .i64 (x.count + 1))) q k s d) := Lib.hid (ht.keeps T2.out hpq)
  have U3 := Lib.hid ((Turns.new B2.out).trans (ht.wider (T' := F) fun k e => by have : k = p := e; rw [this]; exact HFP.out))
  obtain ⟨w3, hw3⟩ : ∃ w3, w2.setCell ⟨p, 2, none⟩ (.int .i64 (x.count + 1)) = w3 := ⟨_, rfl⟩
  rw [hw3] at H3 T3 U3
  have g0 := H3.box.c0
  have g1 := H3.box.c1
  have g2 := H3.box.c2
  have g3 := H3.box.c3
  have f3 := H3.box.fr 3
  have q0 := T3.out.c0
  have q1 := T3.out.c1
  have q2 := T3.out.c2
  have hask := H3.marks.ask (show (1 : Int) ≤ x.count + 1 by omega)
  have HM := Lib.hid H3
  rw [decide_eq_false hf] at hask
  clear H3 H2 hb ht
  go_wp2_with fail
  clear hw3
  go_quiet (fail)
  have hfin := Lib.hid (task_end C HD hg HM.out U3.out HFQ.out s d T3.out hs hd)
  clear HM U3 T3 hask
  go_wp2_with fail
  go_region_held3 (fun w' => w'.cell? ⟨p, 0, none⟩ = some (.pointer (some ta)) ∧ w'.cell? ⟨q, 0, none⟩ = some (.int .i64 k) ∧ w'.cell? ⟨q, 1, none⟩ = some (.string s) ∧ w'.cell? ⟨q, 2, none⟩ = some (.string d))
    (first | exact h8 | exact ⟨g0, q0, q1, q2⟩ | go_keep)
    (first | (refine (hfin.out _).mono ?_; rintro e w9 ⟨rfl, h8, h9⟩; have H9 := Lib.hid h9; clear h9))
  all_goals (
    go_wp2_with fail
    go_ret
    exact ⟨rfl, H9.out⟩)
set_option maxHeartbeats 4000000 in
theorem do_any (C : Trees Rep) (hfull : ∀ {F w v t}, Rep F w v t → ∃ a, v = .pointer (some a)) (S : Posix Rep) (h : RepF Rep F w v x) (hg : W09.Good x.t) (hc : Counts x) (k : Int) (s d : ByteArray) (hs : s.size ≤ 1048576) (hd : d.size ≤ 1048576) :
    Calls Tryd.prog 6 #[v, .agg #[.int .i64 k, .string s, .string d]] w fun e w' => e = .returned (.int .i64 (doFs x k s.data.toList d.data.toList).2) ∧ Turned (RepF Rep) F v (doFs x k s.data.toList d.data.toList).1 w w' := by
  obtain ⟨Ft, p, tv, mv, rfl, h⟩ := h
  have B1 := Lib.hid (below_task w k s d)
  have TB := Lib.hid (task_there w k s d)
  have H1 := Lib.hid (h.below C B1.out)
  have HH := Lib.hid h
  generalize hw1 : w.alloc (.cells #[.int .i64 k, .string s, .string d] 23) = w1 at *
  have c3 := H1.out.box.c3
  have k0 := TB.out.c0
  cases hdn : x.down with
  | true =>
    rw [do_down hdn]
    rw [hdn] at c3
    have HT : Hid (Turned (RepF Rep) F (.pointer (some ⟨p, 0, none⟩)) x w w1) := H1.out.turned (Turns.new B1.out)
    clear h hg hc
    go_enter Tryd.func6, Tryd.ntmps6
    go_wp2_with fail
    go_ret
    exact ⟨rfl, HT.out⟩
  | false =>
    rw [hdn] at c3
    by_cases hk : 1 ≤ k ∧ k ≤ 6
    · by_cases hf : fault x.faults (x.count + 1) ≠ 0
      · have hk2 : k = 1 ∨ k = 2 ∨ k = 3 ∨ k = 4 ∨ k = 5 ∨ k = 6 := by omega
        rcases hk2 with rfl | rfl | rfl | rfl | rfl | rfl
        all_goals exact do_fault_way C hfull hk rfl hf h hdn hc s d
      · have hk2 : k = 1 ∨ k = 2 ∨ k = 3 ∨ k = 4 ∨ k = 5 ∨ k = 6 := by omega
        rcases hk2 with rfl | rfl | rfl | rfl | rfl | rfl
        · exact do_task_way C hfull hk rfl (enters_of Tryd.func17 (by kernel_rfl) rfl) (does1_any C S) hg hf h hdn hc s d hs hd
        · exact do_task_way C hfull hk rfl (enters_of Tryd.func19 (by kernel_rfl) rfl) (does2_any C S) hg hf h hdn hc s d hs hd
        · exact do_task_way C hfull hk rfl (enters_of Tryd.func21 (by kernel_rfl) rfl) (does3_any C S) hg hf h hdn hc s d hs hd
        · exact do_task_way C hfull hk rfl (enters_of Tryd.func23 (by kernel_rfl) rfl) (does4_any C S) hg hf h hdn hc s d hs hd
        · exact do_task_way C hfull hk rfl (enters_of Tryd.func25 (by kernel_rfl) rfl) (does5_any C S) hg hf h hdn hc s d hs hd
        · exact do_task_way C hfull hk rfl (enters_of Tryd.func27 (by kernel_rfl) rfl) (does6_any C S) hg hf h hdn hc s d hs hd
    · rw [do_kind hdn hk]
      have HD := Lib.hid (doerOf_none k hk)
      have hnn := nil_nil
      clear h hg hc hk
      go_enter Tryd.func6, Tryd.ntmps6
      go_wp2_with fail
      clear hw1
      refine (HD.out _).mono ?_
      rintro e w2 ⟨rfl, hb⟩
      have HT : Hid (Turned (RepF Rep) F (.pointer (some ⟨p, 0, none⟩)) x w w2) := (H1.out.below C hb).turned (Turns.new (on B1.out hb))
      clear hb
      go_wp2_with fail
      go_ret
      exact ⟨rfl, HT.out⟩
end
end Go.Proofs.YtolhniepejhmfaaDoor.W10
/-
  Layer 10 (fs), walks of the landed code: Apply, over any reading of a tree. The conditions stand in the statements.
-/
namespace Go.Proofs.YtolhniepejhmfaaDoor.W10
open Go Go.RowKit Go.Proofs.YtolhniepejhmfaaDoor.Strs Go.Proofs.YtolhniepejhmfaaDoor.Recs Go.Proofs.YtolhniepejhmfaaDoor.Range Go.Proofs.YtolhniepejhmfaaDoor.Maps
open Go.Proofs.YtolhniepejhmfaaDoor.M07 (Tr nodeAt Right)
open Go.Proofs.YtolhniepejhmfaaDoor.M09 Go.Proofs.YtolhniepejhmfaaDoor.M10
open Go.Proofs.YtolhniepejhmfaaDoor.W07 (Small Trees Wrote Off heap_top narrow)
open Go.Proofs.YtolhniepejhmfaaDoor.W09 (Posix TaskBox Tk Tasks tkC tkC_len Within)
open Go.Proofs.YtolhniepejhmfaaDoor.Kit (ret_str ret_bool ret_int mk_of mk_bytes ba_ext below_draws on)

theorem tasks_turns {F : Blocks} {B : Nat} {w w' : World} {v : Value} {L : List Tk} (h : Tasks B w v L) (ht : Turns F w w') (hoff : Off F v) : Tasks B w' v L := by
  by_cases h0 : 0 < L.length
  · obtain ⟨A, c, rfl, h1, h2⟩ := h.form
    obtain ⟨b, o, _, rfl, hb, hc0, _⟩ := Tasks.at_ h h0
    have hlt := World.block_lt_of_cell? w _ hc0
    exact Recs.other h fun p hp => World.cell?_of_block (ht.block _ (by rw [hp]; exact hlt) (by rw [hp]; exact hoff _ _ _ _ rfl))
  · have e : L = [] := List.length_eq_zero_iff.1 (by omega)
    subst e
    obtain ⟨A, c, rfl, h1, h2, h3⟩ := h
    exact ⟨A, c, rfl, h1, h2, fun h => absurd h (by simp)⟩
theorem task_none {t : Tr} {k : Int} {a b : Bytes} (h : ¬ (1 ≤ k ∧ k ≤ 6)) : doTask t k a b = (t, 2) := by
  unfold doTask
  rw [if_neg (by omega), if_neg (by omega), if_neg (by omega), if_neg (by omega), if_neg (by omega), if_neg (by omega)]
theorem done_stop {t0 t : Tr} {l : List Tk} {k : Nat} {y : Tk} (h : Done t0 l k t) (hy : l[k]? = some y) (he : (doTask t y.kind y.path y.text).2 ≠ 0) : applyAll t0 l = (t, k, (doTask t y.kind y.path y.text).2) := by
  obtain ⟨hk, rfl⟩ := List.getElem?_eq_some_iff.1 hy
  exact h.stop hk he
theorem done_next {t0 t : Tr} {l : List Tk} {k : Nat} {y : Tk} (h : Done t0 l k t) (hy : l[k]? = some y) (he : (doTask t y.kind y.path y.text).2 = 0) : Done t0 l (k + 1) (doTask t y.kind y.path y.text).1 := by
  obtain ⟨hk, rfl⟩ := List.getElem?_eq_some_iff.1 hy
  exact h.next hk he
section
variable {Rep : Blocks → World → Value → Tr → Prop}
theorem way_of (C : Trees Rep) (S : Posix Rep) {k : Int} (hk : 1 ≤ k ∧ k ≤ 6) : ∃ g, ways[k.toNat]? = some (way g) ∧ (∀ args w, (callFunc g args).run Tryd.prog w = .ok (.enter g args) w) ∧ Does Rep g k := by
  have hk2 : k = 1 ∨ k = 2 ∨ k = 3 ∨ k = 4 ∨ k = 5 ∨ k = 6 := by omega
  rcases hk2 with rfl | rfl | rfl | rfl | rfl | rfl
  · exact ⟨_, rfl, enters_of Tryd.func17 (by kernel_rfl) rfl, does1_any C S⟩
  · exact ⟨_, rfl, enters_of Tryd.func19 (by kernel_rfl) rfl, does2_any C S⟩
  · exact ⟨_, rfl, enters_of Tryd.func21 (by kernel_rfl) rfl, does3_any C S⟩
  · exact ⟨_, rfl, enters_of Tryd.func23 (by kernel_rfl) rfl, does4_any C S⟩
  · exact ⟨_, rfl, enters_of Tryd.func25 (by kernel_rfl) rfl, does5_any C S⟩
  · exact ⟨_, rfl, enters_of Tryd.func27 (by kernel_rfl) rfl, does6_any C S⟩
end
end Go.Proofs.YtolhniepejhmfaaDoor.W10
/-
  Layer 9 (posix), walks over the contracts: the laws PosixMoves and PosixNone: each returns true; nothing that was there is changed. The conditions stand in the statements.
-/
namespace Go.Proofs.YtolhniepejhmfaaDoor.W09
open Go Go.RowKit Go.Proofs.YtolhniepejhmfaaDoor.Strs Go.Proofs.YtolhniepejhmfaaDoor.Recs Go.Proofs.YtolhniepejhmfaaDoor.Range
open Go.Proofs.YtolhniepejhmfaaDoor.M07 (Tr Nd nodeAt inDir Right listDir)
open Go.Proofs.YtolhniepejhmfaaDoor.M08 Go.Proofs.YtolhniepejhmfaaDoor.M09
open Go.Proofs.YtolhniepejhmfaaDoor.W07 (Small Trees Wrote Nodes nodeV heap_top)
open Go.Proofs.YtolhniepejhmfaaDoor.W08 (Sn Snodes snC snC_len isFew few_is made Seeks)
open Go.Proofs.YtolhniepejhmfaaDoor.Kit (ret_str ret_bool ret_int mk_of mk_bytes ba_ext below_draws on)

end Go.Proofs.YtolhniepejhmfaaDoor.W09
/-
  Layer 9 (posix), walks: the plain answers Put, Cut, Rename, Write, Do: each hands out a tree and an error's number; nothing that was there is changed. The conditions stand in the statements.
-/
namespace Go.Proofs.YtolhniepejhmfaaDoor.W09
open Go Go.RowKit Go.Proofs.YtolhniepejhmfaaDoor.Strs Go.Proofs.YtolhniepejhmfaaDoor.Recs Go.Proofs.YtolhniepejhmfaaDoor.Range
open Go.Proofs.YtolhniepejhmfaaDoor.M07 (Tr Nd nodeAt inDir Right listDir)
open Go.Proofs.YtolhniepejhmfaaDoor.M08 Go.Proofs.YtolhniepejhmfaaDoor.M09
open Go.Proofs.YtolhniepejhmfaaDoor.W07 (Nodes nodeV heap_top below_two TreeErr FromOr Off turns_box nodes_turns off_from stored_nodes stored_below right_full)
open Go.Proofs.YtolhniepejhmfaaDoor.Kit (ret_str ret_bool ret_int mk_of mk_bytes ba_ext below_draws on)

theorem off_nodes {F : Nat → Prop} {B : Nat} {w : World} {v : Value} {L : List Nd} (h : Nodes B w v L) (h0 : 0 < L.length) (hF : ∀ k, F k → B ≤ k) : Off F v := by
  obtain ⟨A, c, rfl, -, -⟩ := h.form
  obtain ⟨b, o, _, rfl, hb, _⟩ := W07.Nodes.at_ h h0
  intro b' o' n' c' e hk
  cases e
  have := hF _ hk
  omega
theorem FromOr.low {v u : Value} {S S' : Nat} (h : FromOr v S u) (hs : S' ≤ S) : FromOr v S' u := by
  rcases h with h | h | ⟨g, n, c, h, hg⟩
  · exact Or.inl h
  · exact Or.inr (Or.inl h)
  · exact Or.inr (Or.inr ⟨g, n, c, h, Nat.le_trans hs hg⟩)
/-- behind the store of a tree that a call handed out -/
theorem stored_out {w wj : World} {u vv : Value} {L : List Nd} {S q : Nat} (hv : Off (fun k => k = q) vv) (N : Nodes wj.heap.size wj u L) (hf : FromOr vv S u) (hS : q < S) (hq : w.heap.size ≤ q) (B : Below w.heap.size w wj) (a b : Value) :
    Nodes ((wj.setCell ⟨q, 0, none⟩ a).setCell ⟨q, 1, none⟩ b).heap.size ((wj.setCell ⟨q, 0, none⟩ a).setCell ⟨q, 1, none⟩ b) u L ∧ Below w.heap.size w ((wj.setCell ⟨q, 0, none⟩ a).setCell ⟨q, 1, none⟩ b) ∧ FromOr vv w.heap.size u := by
  have ht := turns_box wj q a b
  exact ⟨(nodes_turns N ht (off_from hv (fun k hk => by have : k = q := hk; omega) hf)).more ht.size, (B.setCell hq _).setCell hq _, FromOr.low hf (by omega)⟩
theorem out_of {v u : Value} {w W : World} {R : Tr × Int} {t' : Tr} {er : Int} (hR : R = (t', er)) (h : Nodes W.heap.size W u t'.L ∧ Below w.heap.size w W ∧ FromOr v w.heap.size u) : TreeErr v w R (.returned (.tuple #[.agg #[u, .int .i64 t'.last], .int .i64 er])) W := by
  subst hR
  exact ⟨u, rfl, h.1, h.2.1, h.2.2⟩
theorem out_all {v u : Value} {w W : World} {R Q : Tr × Int} (hR : R = Q) (h : Nodes W.heap.size W u Q.1.L ∧ Below w.heap.size w W ∧ FromOr v w.heap.size u) : TreeErr v w R (.returned (.tuple #[.agg #[u, .int .i64 Q.1.last], .int .i64 Q.2])) W := by
  subst hR
  exact ⟨u, rfl, h.1, h.2.1, h.2.2⟩
theorem two_keep {w2 w' w'' : World} {p : Nat} {a b : Value} (hp : p < w2.heap.size) (h : w'.cell? ⟨p, 0, none⟩ = some a ∧ w'.cell? ⟨p, 1, none⟩ = some b ∧ Below w2.heap.size w2 w') (hb : Below w'.heap.size w' w'') : w''.cell? ⟨p, 0, none⟩ = some a ∧ w''.cell? ⟨p, 1, none⟩ = some b ∧ Below w2.heap.size w2 w'' := by
  have hs := h.2.2.size
  exact ⟨(hb.cell (by show p < _; omega)).trans h.1, (hb.cell (by show p < _; omega)).trans h.2.1, on h.2.2 hb⟩
/-- what a plain tree is asked to be -/
structure Fits (t : Tr) (w : World) (u : Value) : Prop where
  fit : Fit t
  len : t.L.length ≤ 1048576
  some : 0 < t.L.length
  low : -1 ≤ t.last
  high : t.last ≤ 1048576
  nodes : Nodes w.heap.size w u t.L
end Go.Proofs.YtolhniepejhmfaaDoor.W09
/-
  Layer 7 (tree), a walk of the law's lives over the contracts: it returns true; nothing that was there is changed.
-/
namespace Go.Proofs.YtolhniepejhmfaaDoor.W07
open Go Go.RowKit Go.Proofs.YtolhniepejhmfaaDoor.Strs Go.Proofs.YtolhniepejhmfaaDoor.Recs Go.Proofs.YtolhniepejhmfaaDoor.M07 Go.Proofs.YtolhniepejhmfaaDoor.Range
open Go.Proofs.YtolhniepejhmfaaDoor.Kit (ret_str ret_bool ret_int mk_of mk_bytes ba_ext below_draws on)

theorem wrote_below {Rep : (Nat → Prop) → World → Value → Tr → Prop} {F : Nat → Prop} {w w1 w2 : World} {v : Value} {t' : Tr} {n : Nat} (hb : Below n w w1) (hF : ∀ k, F k → n ≤ k) (hn : n ≤ w1.heap.size) (h : Wrote Rep F v t' w1 w2) :
    ∃ F', Rep F' w2 v t' ∧ (∀ k, F' k → n ≤ k) ∧ Below n w w2 := by
  obtain ⟨F', h1, h2, h3⟩ := h
  exact ⟨F', h1, fun k hk => by rcases h3 k hk with h | h; exact hF k h; omega, hb.trans (h2.below hF hn)⟩
theorem one_put : put M07.new 1 [97] 1 [] = (⟨[⟨1, 1, [], 1, []⟩, ⟨2, 1, [97], 1, []⟩], 2⟩, 2, 0) :=
  put_works (t := M07.new) (by decide +kernel)
theorem two_put : put ⟨[⟨1, 1, [], 1, []⟩, ⟨2, 1, [97], 1, []⟩], 2⟩ 2 [98] 2 [120] = (⟨[⟨1, 1, [], 1, []⟩, ⟨2, 1, [97], 1, []⟩, ⟨3, 2, [98], 2, [120]⟩], 3⟩, 3, 0) :=
  put_works (by decide +kernel)
end Go.Proofs.YtolhniepejhmfaaDoor.W07
/-
  Layer 7 (tree), a walk of the law TreeDoes over the contracts: it returns true, at every list of acts; nothing that was there is changed.
-/
namespace Go.Proofs.YtolhniepejhmfaaDoor.W07
open Go Go.RowKit Go.Proofs.YtolhniepejhmfaaDoor.Strs Go.Proofs.YtolhniepejhmfaaDoor.Recs Go.Proofs.YtolhniepejhmfaaDoor.M07 Go.Proofs.YtolhniepejhmfaaDoor.Range
open Go.Proofs.YtolhniepejhmfaaDoor.Kit (ret_str ret_bool ret_int mk_of mk_bytes ba_ext below_draws on)

theorem put_more (t : Tr) (d : Int) (s : Bytes) (k : Int) (x : Bytes) : (put t d s k x).1.L.length ≤ t.L.length + 1 ∧ (put t d s k x).1.last ≤ t.last + 1 := by
  unfold put
  split
  · exact ⟨by show t.L.length ≤ _; omega, by show t.last ≤ _; omega⟩
  · exact ⟨by show (t.L ++ [_]).length ≤ _; simp, by show t.last + 1 ≤ _; omega⟩
theorem set_more (t : Tr) (n : Int) (x : Bytes) : (M07.set t n x).1.L.length ≤ t.L.length + 1 ∧ (M07.set t n x).1.last ≤ t.last + 1 := by
  have e : t.L.length ≤ t.L.length + 1 ∧ t.last ≤ t.last + 1 := ⟨by omega, by omega⟩
  unfold M07.set
  split
  · exact e
  · split
    · exact e
    · split
      · exact e
      · exact ⟨by show (t.L.map _).length ≤ _; rw [List.length_map]; omega, by show t.last ≤ _; omega⟩
theorem cut_more (t : Tr) (d : Int) (s : Bytes) : (cut t d s).1.L.length ≤ t.L.length + 1 ∧ (cut t d s).1.last ≤ t.last + 1 := ⟨by have := cut_len t d s; omega, by rw [cut_last]; omega⟩
theorem move_more (t : Tr) (src : Int) (s : Bytes) (dst : Int) (a : Bytes) : (M07.move t src s dst a).1.L.length ≤ t.L.length + 1 ∧ (M07.move t src s dst a).1.last ≤ t.last + 1 := by
  have e : t.L.length ≤ t.L.length + 1 ∧ t.last ≤ t.last + 1 := ⟨by omega, by omega⟩
  have pl : ∀ (u : Tr) (x : Nd), u.L.length ≤ t.L.length → u.last = t.last → (placed u x dst a).L.length ≤ t.L.length + 1 ∧ (placed u x dst a).last ≤ t.last + 1 := fun u x h1 h2 =>
    ⟨by show (u.L.map _).length ≤ _; rw [List.length_map]; omega, by show u.last ≤ _; omega⟩
  unfold M07.move
  split
  · exact e
  · split
    · exact e
    · unfold moveOn
      split
      · exact e
      · split
        · split
          · exact e
          · split
            · exact e
            · split
              · exact e
              · exact pl _ _ (cut_len _ _ _) (cut_last _ _ _)
        · exact pl _ _ (Nat.le_refl _) rfl
theorem doAct_more (t : Tr) (act dir dst : Int) (nm al : Bytes) (kind : Int) (dt : Bytes) : (doAct t act dir dst nm al kind dt).L.length ≤ t.L.length + 1 ∧ (doAct t act dir dst nm al kind dt).last ≤ t.last + 1 := by
  unfold doAct
  split
  · exact put_more _ _ _ _ _
  · split
    · exact set_more _ _ _
    · split
      · exact cut_more _ _ _
      · split
        · exact move_more _ _ _ _ _
        · exact ⟨by omega, by omega⟩
theorem short_data {l : List Ac} (h : isShort l = true) {k : Nat} (hk : k < l.length) : (l[k]).data.length ≤ 70000 := by
  unfold isShort at h
  rw [Bool.and_eq_true] at h
  have := List.all_eq_true.1 h.1 _ (List.getElem_mem hk)
  simpa using this
theorem short_len {l : List Ac} (h : isShort l = true) : l.length ≤ 60 := by
  unfold isShort at h
  rw [Bool.and_eq_true] at h
  simpa using h.2
end Go.Proofs.YtolhniepejhmfaaDoor.W07
/-
  Layer 9 (posix), a walk of the law PosixDoes over the contracts: it returns true, at every list of tasks; nothing that was there is changed. The conditions stand in the statement.
-/
namespace Go.Proofs.YtolhniepejhmfaaDoor.W09
open Go Go.RowKit Go.Proofs.YtolhniepejhmfaaDoor.Strs Go.Proofs.YtolhniepejhmfaaDoor.Recs Go.Proofs.YtolhniepejhmfaaDoor.Range
open Go.Proofs.YtolhniepejhmfaaDoor.M07 (Tr Nd nodeAt inDir Right listDir)
open Go.Proofs.YtolhniepejhmfaaDoor.M08 Go.Proofs.YtolhniepejhmfaaDoor.M09
open Go.Proofs.YtolhniepejhmfaaDoor.W07 (Small Trees Wrote Nodes nodeV heap_top TreeErr FromOr Off turns_box nodes_turns off_from off_same right_full)
open Go.Proofs.YtolhniepejhmfaaDoor.W08 (Sn Snodes snC snC_len isFew few_is made)
open Go.Proofs.YtolhniepejhmfaaDoor.Kit (ret_str ret_bool ret_int mk_of mk_bytes ba_ext below_draws on)

theorem root_last {t : Tr} (h : Right t) : 1 ≤ t.last := by
  obtain ⟨r, hr⟩ := h.root
  exact (h.ends ⟨1, 1, [], 1, []⟩ (by rw [hr]; exact List.mem_cons_self)).2
theorem two_fits {t : Tr} {n : Nat} {w : World} {u : Value} (h : Within t n) (hn : n ≤ 1048576) (N : Nodes w.heap.size w u t.L) : Fits t w u :=
  ⟨h.fit, Nat.le_trans h.len hn, right_full h.right, by have := root_last h.right; omega, by have := h.last; omega, N⟩
/-- the cells that a round's first call reads -/
theorem five_turns {T : Nat → Prop} {w' w'' : World} {p b q : Nat} {y0 y1 y2 y3 y4 : Value} (h : w'.cell? ⟨p, 0, none⟩ = some y0 ∧ w'.cell? ⟨p, 1, none⟩ = some y1 ∧ w'.cell? ⟨b, q, none⟩ = some y2 ∧ w'.cell? ⟨b, q + 1, none⟩ = some y3 ∧ w'.cell? ⟨b, q + 2, none⟩ = some y4) (t : Turns T w' w'') (hp : ¬ T p) (hb : ¬ T b) :
    w''.cell? ⟨p, 0, none⟩ = some y0 ∧ w''.cell? ⟨p, 1, none⟩ = some y1 ∧ w''.cell? ⟨b, q, none⟩ = some y2 ∧ w''.cell? ⟨b, q + 1, none⟩ = some y3 ∧ w''.cell? ⟨b, q + 2, none⟩ = some y4 :=
  ⟨t.cell h.1 hp, t.cell h.2.1 hp, t.cell h.2.2.1 hb, t.cell h.2.2.2.1 hb, t.cell h.2.2.2.2 hb⟩
theorem five_on {w' w'' : World} {p b q : Nat} {y0 y1 y2 y3 y4 : Value} (h : w'.cell? ⟨p, 0, none⟩ = some y0 ∧ w'.cell? ⟨p, 1, none⟩ = some y1 ∧ w'.cell? ⟨b, q, none⟩ = some y2 ∧ w'.cell? ⟨b, q + 1, none⟩ = some y3 ∧ w'.cell? ⟨b, q + 2, none⟩ = some y4) (hB : Below w'.heap.size w' w'') :
    w''.cell? ⟨p, 0, none⟩ = some y0 ∧ w''.cell? ⟨p, 1, none⟩ = some y1 ∧ w''.cell? ⟨b, q, none⟩ = some y2 ∧ w''.cell? ⟨b, q + 1, none⟩ = some y3 ∧ w''.cell? ⟨b, q + 2, none⟩ = some y4 :=
  five_turns h (Turns.new (T := fun _ => False) hB) id id
end Go.Proofs.YtolhniepejhmfaaDoor.W09
/-
  Layer 9 (posix): the landed code keeps the contracts that the laws ask ('Posix', 'NoPosix': XW09Code); so the laws hold. Conditions: none but those that each theorem bears.
-/
namespace Go.Proofs.YtolhniepejhmfaaDoor.W09
open Go Go.RowKit Go.Proofs.YtolhniepejhmfaaDoor.Strs Go.Proofs.YtolhniepejhmfaaDoor.Recs
open Go.Proofs.YtolhniepejhmfaaDoor.W07 (trees)
open Go.Proofs.YtolhniepejhmfaaDoor.W08 (Sn Snodes)

end Go.Proofs.YtolhniepejhmfaaDoor.W09
/-
  Layer 10 (fs): the landed code meets the contracts of layer 10 ('fss', 'applies'). No condition.
-/
namespace Go.Proofs.YtolhniepejhmfaaDoor.W10
open Go Go.RowKit
open Go.Proofs.YtolhniepejhmfaaDoor.W07 (Trees)

theorem full_tree {F : Blocks} {w : World} {v : Value} {t : M07.Tr} (h : W07.Rep F w v t) : ∃ a, v = .pointer (some a) := by
  obtain ⟨-, sb, mb, lv, rfl, -⟩ := h
  exact ⟨_, rfl⟩
theorem fss : Fss W07.Rep (RepF W07.Rep) where
  keep := fun ⟨Ft, p, tv, mv, e, h⟩ hk hs => ⟨Ft, p, tv, mv, e, h.keep W07.trees hk hs⟩
  low := fun ⟨_, _, _, _, _, h⟩ => h.low
  right := fun ⟨_, _, _, _, _, h⟩ => W07.trees.right h.tree
  full := fun ⟨_, p, _, _, e, _⟩ => ⟨⟨p, 0, none⟩, e⟩
  new := fun h => new_any W07.trees full_tree h
  newNil := fun w => newNil_any W07.trees full_tree w
  plan := fun h u L hL => plan_any W07.trees h u L hL
  do_ := fun h hg hc k p s hp hs => do_any W07.trees full_tree W09.posix h hg hc k p s hp hs
  count := fun h => count_any h
  down := fun h => down_any h
  up := fun h => up_any W07.trees h
  tree := fun h => tree_any h
end Go.Proofs.YtolhniepejhmfaaDoor.W10
/-
  Layer 10 (fs): the landed code keeps the contracts that the law FsNone asks ('fss', 'noFs': XW10Inst, XW10Code); so the law holds. No condition.
-/
namespace Go.Proofs.YtolhniepejhmfaaDoor.W10
open Go Go.RowKit Go.Proofs.YtolhniepejhmfaaDoor.Strs Go.Proofs.YtolhniepejhmfaaDoor.Recs
open Go.Proofs.YtolhniepejhmfaaDoor.W07 (trees)

theorem fsNone_law (w : World) (k : Int) (a b : ByteArray) :
    Calls Tryd.prog 3 #[.agg #[.int .i64 k, .string a, .string b]] w fun e w' => e = .returned (.bool true) ∧ Below w.heap.size w w' := fsNone_over trees fss noFs w k a b
end Go.Proofs.YtolhniepejhmfaaDoor.W10
