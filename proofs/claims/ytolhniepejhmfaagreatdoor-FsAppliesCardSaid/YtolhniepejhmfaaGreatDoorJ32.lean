/-
  Texts joined, in build order, each with its own comment and its own conditions: W10Faults, W10Doers, W10Box, W10Code.
-/
import Derived.Test.YtolhniepejhmfaaGreatDoorJ28
import Derived.Test.YtolhniepejhmfaaGreatDoorJ31
import Derived.Test.YtolhniepejhmfaaGreatDoorJ25
import Derived.WideLaws
/-
  Layer 10 (fs), walks of the landed code: the faults' table (byChange), as a map of the errors by their changes. New memory is laid, nothing that was there is changed. The conditions stand in the statements.
-/
namespace Go.Proofs.YtolhniepejhmfaaGreatDoor.W10
set_option maxRecDepth 100000
open Go Go.RowKit Go.Proofs.YtolhniepejhmfaaGreatDoor.Strs Go.Proofs.YtolhniepejhmfaaGreatDoor.Recs Go.Proofs.YtolhniepejhmfaaGreatDoor.Range Go.Proofs.YtolhniepejhmfaaGreatDoor.Maps
open Go.Proofs.YtolhniepejhmfaaGreatDoor.M07 (Tr nodeAt Right)
open Go.Proofs.YtolhniepejhmfaaGreatDoor.M09 Go.Proofs.YtolhniepejhmfaaGreatDoor.M10
open Go.Proofs.YtolhniepejhmfaaGreatDoor.W07 (Small Trees Wrote heap_top)
open Go.Proofs.YtolhniepejhmfaaGreatDoor.Kit (ret_str ret_bool ret_int mk_of mk_bytes ba_ext below_draws on)

theorem keyE : Tryz.prog.underlying 3 = some (.int .i64) := Tryz.underlying3
theorem mapE : Tryz.prog.underlying 66 = some (.map 3 43) := Tryz.underlying66
theorem zeroE (w : World) : (zeroValue 43).run Tryz.prog w = .ok (.int .i64 0) w := by kernel_rfl
/-- a map of the errors by their changes -/
abbrev Table (w : World) (b : Nat) (L : List Fl) (m : Nat) : Prop := MapIs w Tryz.prog 3 b (tab L) m
/-- where the loop stands -/
structure Ranks (w wr : World) (mb : Nat) (L : List Fl) (k : Nat) : Prop where
  map : ∃ m, m ≤ k ∧ Table wr mb (L.take k) m
  below : Below w.heap.size w wr
  new : w.heap.size ≤ mb
section
variable {w wr w' : World} {mb k : Nat} {L : List Fl}
theorem Ranks.boxed (h : Ranks w wr mb L k) (o : Obj) : Ranks w (wr.alloc o) mb L k := by
  obtain ⟨m, hm, h1⟩ := h.map
  exact ⟨⟨m, hm, h1.alloc o⟩, h.below.alloc h.below.size o, h.new⟩
theorem Ranks.same (h : Ranks w wr mb L k) (hk : k < L.length) (he : ∀ n, tab (L.take k ++ [L[k]]) n = tab (L.take k) n) : Ranks w wr mb L (k + 1) := by
  obtain ⟨m, hm, h1⟩ := h.map
  refine ⟨⟨m, by omega, ?_⟩, h.below, h.new⟩
  rw [List.take_succ_eq_append_getElem hk]
  exact h1.as (fun n => (he n).symm) rfl
theorem Ranks.put (h : Ranks w wr mb L k) (hk : k < L.length) (hm : k < maxLen) (h1 : ¬ (L[k]).at_ < 1) (h2 : (L[k]).err ≠ 0) (h3 : tab (L.take k) (L[k]).at_ = none) (hw : (Lit.int .i64 (L[k]).at_).wf = true) :
    ∃ w', (Instr.mapUpdate 66 (.map (some mb)) (.int .i64 (L[k]).at_) (.int .i64 (L[k]).err)).run Tryz.prog wr = .ok () w' ∧ Ranks w w' mb L (k + 1) := by
  obtain ⟨m, hmk, hM⟩ := h.map
  obtain ⟨w', hrun, hM', ht⟩ := hM.store keyE mapE (by omega) (n := (L[k]).at_) hw (.int .i64 (L[k]).err)
  refine ⟨w', hrun, ⟨m + 1, by omega, ?_⟩, h.below.grown ht.grown h.below.size (fun k hk => by cases hk; exact h.new), h.new⟩
  rw [List.take_succ_eq_append_getElem hk]
  refine hM'.as (fun n => ?_) ?_
  · unfold upd
    rw [tab_new h1 h2 h3]
  · rw [h3]; rfl
theorem Ranks.ask (h : Ranks w wr mb L k) (n : Int) : (Instr.lookup 66 (.map (some mb)) (.int .i64 n) true).run Tryz.prog wr = .ok (.tuple #[(tab (L.take k) n).getD (.int .i64 0), .bool (tab (L.take k) n).isSome]) wr := by
  obtain ⟨m, hm, h1⟩ := h.map
  exact h1.ask keyE mapE (zeroE wr) n
end
def FaultBox (w : World) (p : Nat) (a e : Int) : Prop := w.heap[p]? = some (.cells #[.int .i64 a, .int .i64 e] 61 (0, 0))
theorem FaultBox.c0 {w : World} {p : Nat} {a e : Int} (h : FaultBox w p a e) : w.cell? ⟨p, 0, none⟩ = some (.int .i64 a) := cell_of_row w _ 0 _ _ (0, 0) h
theorem FaultBox.c1 {w : World} {p : Nat} {a e : Int} (h : FaultBox w p a e) : w.cell? ⟨p, 1, none⟩ = some (.int .i64 e) := cell_of_row w _ 1 _ _ (0, 0) h
set_option maxHeartbeats 4000000 in
theorem byChange_any (v : Value) (L : List Fl) (w : World) (h : Faults w.heap.size w v L) :
    Calls Tryz.prog 26 #[v] w fun e w' => ∃ mb m, e = .returned (.map (some mb)) ∧ w.heap.size ≤ mb ∧ Table w' mb L m ∧ Below w.heap.size w w' := by
  have H := Lib.hid h
  obtain ⟨A, c, rfl, hA1, hA2⟩ := h.recs.form
  have hA2 : L.length ≤ c ∧ c ≤ maxLen := ⟨hA1, hA2⟩
  unfold maxLen at hA2
  obtain ⟨hA2, hA3⟩ := hA2
  clear h
  have hmm := @run_makeMap Tryz.prog
  have R0 : Hid (Ranks w (w.alloc (.map #[] 0)) w.heap.size L 0) := ⟨⟨0, Nat.le_refl _, (map_made w Tryz.prog 3).as (fun n => (tab_nil n).symm) rfl⟩, (Below.refl _ _).alloc (Nat.le_refl _) _, Nat.le_refl _⟩
  generalize hm : L.length = m at *
  have HM := Lib.hid hm
  clear hm
  go_enter Tryz.func26, Tryz.ntmps26
  go_wp2_with fail
  obtain ⟨mb, hmb⟩ : ∃ mb, w.heap.size = mb := ⟨_, rfl⟩
  rw [hmb] at R0
  rw [hmb]
  generalize w.alloc (.map #[] 0) = w0 at *
  clear hmm
  go_loopw [11] (fun i wr => ∃ k : Nat, k ≤ m ∧ i = .int .i64 k ∧ Hid (Ranks w wr mb L k)) (fun i _ => m - (intOf i).toNat)
  case atStart => exact ⟨0, Nat.zero_le _, rfl, R0.out⟩
  case round =>
    clear R0
    obtain ⟨k, hk, rfl, hr⟩ := hrel
    by_cases hlt : k < m
    · obtain ⟨b, o, hl1, rfl, hbl, hc0, hc1⟩ := Faults.at_ (H.out.recs.below hr.out.below) hlt
      obtain ⟨wB, hwB⟩ : ∃ wB : World, wr.alloc (.cells #[.int .i64 (L[k]).at_, .int .i64 (L[k]).err] 61) = wB := ⟨_, rfl⟩
      have RB : Hid (Ranks w wB mb L k) := by show Ranks _ _ _ _ _; rw [← hwB]; exact hr.out.boxed _
      have FB : Hid (FaultBox wB wr.heap.size (L[k]).at_ (L[k]).err) := by show FaultBox _ _ _ _; rw [← hwB]; exact heap_top _ _
      have f0 := FB.out.c0
      have f1 := FB.out.c1
      have HAT := Lib.hid (H.out.ats _ (List.getElem_mem hl1))
      by_cases h1 : (L[k]).at_ < 1
      · have HN := Lib.hid (RB.out.same hl1 (tab_skip (Or.inl h1)))
        have t1 : decide ((L[k]).at_ < 1) = true := decide_eq_true h1
        generalize (L[k]).at_ = xa at *
        generalize (L[k]).err = xe at *
        go_wp2_with fail
        go_roundw
        case rel => exact ⟨k + 1, by omega, by go_num, HN⟩
        case measure => simp [intOf]; omega
      · by_cases h2 : (L[k]).err = 0
        · have HN := Lib.hid (RB.out.same hl1 (tab_skip (Or.inr h2)))
          have t2 : ((L[k]).err == 0) = true := by simpa using h2
          clear h2
          generalize (L[k]).at_ = xa at *
          generalize (L[k]).err = xe at *
          go_wp2_with fail
          go_roundw
          case rel => exact ⟨k + 1, by omega, by go_num, HN⟩
          case measure => simp [intOf]; omega
        · have t2 : ((L[k]).err == 0) = false := by simpa using h2
          have hask := RB.out.ask (L[k]).at_
          cases hs : tab (L.take k) (L[k]).at_ with
          | some z =>
            have HN := Lib.hid (RB.out.same hl1 (tab_taken (by rw [hs]; rfl)))
            rw [hs] at hask
            have hask : (Instr.lookup 66 (.map (some mb)) (.int .i64 (L[k]).at_) true).run Tryz.prog wB = .ok (.tuple #[z, .bool true]) wB := hask
            generalize (L[k]).at_ = xa at *
            generalize (L[k]).err = xe at *
            go_wp2_with fail
            go_roundw
            case rel => exact ⟨k + 1, by omega, by go_num, HN⟩
            case measure => simp [intOf]; omega
          | none =>
            obtain ⟨wP, hput, HN⟩ := RB.out.put hl1 (by unfold maxLen; omega) h1 h2 hs HAT.out
            have HN := Lib.hid HN
            rw [hs] at hask
            have hask : (Instr.lookup 66 (.map (some mb)) (.int .i64 (L[k]).at_) true).run Tryz.prog wB = .ok (.tuple #[.int .i64 0, .bool false]) wB := hask
            generalize (L[k]).at_ = xa at *
            generalize (L[k]).err = xe at *
            go_wp2_with fail
            go_roundw
            case rel => exact ⟨k + 1, by omega, by go_num, HN⟩
            case measure => simp [intOf]; omega
    · have hkm : k = L.length := by have := HM.out; omega
      obtain ⟨s, hs, h1⟩ := hr.out.map
      rw [hkm, List.take_length] at h1
      go_wp2_with fail
      go_ret
      exact ⟨_, _, rfl, hr.out.new, h1, hr.out.below⟩
end Go.Proofs.YtolhniepejhmfaaGreatDoor.W10
/-
  Layer 10 (fs), walks of the landed code: how a task is done, by its kind (doers, doerOf and the functions that they answer). The conditions stand in the statements.
-/
namespace Go.Proofs.YtolhniepejhmfaaGreatDoor.W10
set_option maxRecDepth 100000
open Go Go.RowKit Go.Proofs.YtolhniepejhmfaaGreatDoor.Strs Go.Proofs.YtolhniepejhmfaaGreatDoor.Recs Go.Proofs.YtolhniepejhmfaaGreatDoor.Range Go.Proofs.YtolhniepejhmfaaGreatDoor.Maps
open Go.Proofs.YtolhniepejhmfaaGreatDoor.M07 (Tr nodeAt Right)
open Go.Proofs.YtolhniepejhmfaaGreatDoor.M09 Go.Proofs.YtolhniepejhmfaaGreatDoor.M10
open Go.Proofs.YtolhniepejhmfaaGreatDoor.W07 (Small Trees Wrote heap_top)
open Go.Proofs.YtolhniepejhmfaaGreatDoor.W09 (Posix Good TaskBox wrote_after)
open Go.Proofs.YtolhniepejhmfaaGreatDoor.Kit (ret_str ret_bool ret_int mk_of mk_bytes ba_ext below_draws on)

theorem store_nil_func {P : Program} {w : World} {a : Addr} {m : Mode} : (store a .nilFunc m).run P w = stored P w a .nilFunc m := run_store P w a _ m rfl
theorem store_func {P : Program} {w : World} {a : Addr} {m : Mode} {f : Fn} {x y : Array Value} : (store a (.func f x y) m).run P w = stored P w a (.func f x y) m := run_store P w a _ m rfl
attribute [local go_sem] store_nil_func store_func
/-- the functions by their kinds -/
abbrev way (g : Nat) : Value := .func (.func g) #[] #[]
def ways : Array Value := #[.nilFunc, way 55, way 57, way 59, way 61, way 63, way 65]
def waysBox (w : World) (p : Nat) : Prop := w.heap[p]? = some (.cells ways 96 (0, 0))
set_option maxRecDepth 100000 in
set_option maxHeartbeats 2000000 in
theorem doers_any (w : World) : Calls Tryz.prog 43 #[] w fun e w' => e = .returned (.agg ways) ∧ Below w.heap.size w w' := by
  go_enter Tryz.func43, Tryz.ntmps43
  go_wp2_with fail
  refine bodyPost_ret_by (v := .agg ways) ?_ rfl ⟨rfl, ?_⟩
  · rw [W07.results_cell_one rfl]
    go_simp
    rfl
  · exact (Below.refl _ _).alloc (Nat.le_refl _) _

set_option maxRecDepth 100000 in
set_option maxHeartbeats 4000000 in
theorem doerOf_any (k : Int) (h : 1 ≤ k ∧ k ≤ 6) (w : World) : Calls Tryz.prog 27 #[.int .i64 k] w fun e w' => (∃ v, e = .returned v ∧ ways[k.toNat]? = some v) ∧ Below w.heap.size w w' := by
  have HD := Lib.hid doers_any
  have hk : k = 1 ∨ k = 2 ∨ k = 3 ∨ k = 4 ∨ k = 5 ∨ k = 6 := by omega
  clear h
  rcases hk with rfl | rfl | rfl | rfl | rfl | rfl
  all_goals (
    go_enter Tryz.func27, Tryz.ntmps27
    go_wp2_with fail
    refine (HD.out _).mono ?_
    rintro e w1 ⟨rfl, hb⟩
    have hb1 := hb.alloc hb.size (.cells ways 96)
    unfold ways at hb1 ⊢
    go_wp2_with fail
    go_ret
    exact ⟨⟨_, rfl, rfl⟩, hb1⟩)
set_option maxRecDepth 100000 in
set_option maxHeartbeats 4000000 in
theorem doerOf_none (k : Int) (h : ¬ (1 ≤ k ∧ k ≤ 6)) (w : World) : Calls Tryz.prog 27 #[.int .i64 k] w fun e w' => e = .returned .nilFunc ∧ Below w.heap.size w w' := by
  have HD := Lib.hid doers_any
  by_cases h0 : k = 0
  · subst h0
    clear h
    go_enter Tryz.func27, Tryz.ntmps27
    go_wp2_with fail
    refine (HD.out _).mono ?_
    rintro e w1 ⟨rfl, hb⟩
    have hb1 := hb.alloc hb.size (.cells ways 96)
    unfold ways at hb1 ⊢
    go_wp2_with fail
    go_ret
    exact ⟨rfl, hb1⟩
  · by_cases h1 : k < 0
    · have t1 : decide (k < 0) = true := decide_eq_true h1
      clear h h0
      go_enter Tryz.func27, Tryz.ntmps27
      go_wp2_with fail
      refine (HD.out _).mono ?_
      rintro e w1 ⟨rfl, hb⟩
      have hb1 := hb.alloc hb.size (.cells ways 96)
      unfold ways at hb1 ⊢
      go_wp2_with fail
      go_ret
      exact ⟨rfl, hb1⟩
    · have h7 : (7 : Int) ≤ k := by omega
      have t1 : decide (k < 0) = false := decide_eq_false h1
      have t2 : decide ((7 : Int) ≤ k) = true := decide_eq_true h7
      clear h h0
      go_enter Tryz.func27, Tryz.ntmps27
      go_wp2_with fail
      refine (HD.out _).mono ?_
      rintro e w1 ⟨rfl, hb⟩
      have hb1 := hb.alloc hb.size (.cells ways 96)
      unfold ways at hb1 ⊢
      go_wp2_with fail
      go_ret
      exact ⟨rfl, hb1⟩
section
variable {Rep : (Nat → Prop) → World → Value → Tr → Prop} {F : Nat → Prop} {w : World} {v : Value} {t : Tr}
/-- what a call does that does the task x of a kind -/
abbrev Does (Rep : (Nat → Prop) → World → Value → Tr → Prop) (g : Nat) (k : Int) : Prop := ∀ {F : Nat → Prop} {w : World} {v : Value} {t : Tr}, Rep F w v t → W09.Good t → ∀ (p x : ByteArray), p.size ≤ 1048576 → x.size ≤ 1048576 →
  Calls Tryz.prog g #[v, .agg #[.int .i64 k, .string p, .string x]] w fun e w' => e = .returned (.int .i64 (doTask t k p.data.toList x.data.toList).2) ∧ Wrote Rep F v (doTask t k p.data.toList x.data.toList).1 w w'
set_option maxHeartbeats 2000000 in
theorem does1_any (C : Trees Rep) (S : Posix Rep) : Does Rep 55 1 := by
  intro F w v t P G p x hp hx
  obtain ⟨w1, hw1⟩ : ∃ w1 : World, w.alloc (.cells #[.int .i64 1, .string p, .string x] 39) = w1 := ⟨_, rfl⟩
  have B1 : Hid (Below w.heap.size w w1) := by show Below _ _ _; rw [← hw1]; exact W07.below_one _ _
  have TB : Hid (TaskBox w1 w.heap.size 1 p x) := by show TaskBox _ _ _ _ _; rw [← hw1]; exact heap_top _ _
  have t1 := TB.out.c1
  have t2 := TB.out.c2
  have P1 := Lib.hid (C.below P B1.out)
  have HG := Lib.hid G
  have HX : Hid (doTask t 1 p.data.toList x.data.toList = putAt t p.data.toList 1 []) := by show _ = _; unfold doTask; simp
  rw [HX.out]
  have HC := Lib.hid (S.mkdir P1.out HG.out p hp)
  clear P G HX
  generalize putAt t p.data.toList 1 [] = Q at *
  go_enter Tryz.func55, Tryz.ntmps55
  go_wp2_with fail
  clear hw1
  refine HC.out.mono ?_
  rintro e w2 ⟨rfl, hwr⟩
  have W2 := Lib.hid (wrote_after B1.out hwr)
  clear hwr
  go_wp2_with fail
  go_ret
  exact ⟨rfl, W2.out⟩
set_option maxHeartbeats 2000000 in
theorem does2_any (C : Trees Rep) (S : Posix Rep) : Does Rep 57 2 := by
  intro F w v t P G p x hp hx
  obtain ⟨w1, hw1⟩ : ∃ w1 : World, w.alloc (.cells #[.int .i64 2, .string p, .string x] 39) = w1 := ⟨_, rfl⟩
  have B1 : Hid (Below w.heap.size w w1) := by show Below _ _ _; rw [← hw1]; exact W07.below_one _ _
  have TB : Hid (TaskBox w1 w.heap.size 2 p x) := by show TaskBox _ _ _ _ _; rw [← hw1]; exact heap_top _ _
  have t1 := TB.out.c1
  have t2 := TB.out.c2
  have P1 := Lib.hid (C.below P B1.out)
  have HG := Lib.hid G
  have HX : Hid (doTask t 2 p.data.toList x.data.toList = cutAt t p.data.toList true) := by show _ = _; unfold doTask; simp
  rw [HX.out]
  have HC := Lib.hid (S.rmdir P1.out HG.out p hp)
  clear P G HX
  generalize cutAt t p.data.toList true = Q at *
  go_enter Tryz.func57, Tryz.ntmps57
  go_wp2_with fail
  clear hw1
  refine HC.out.mono ?_
  rintro e w2 ⟨rfl, hwr⟩
  have W2 := Lib.hid (wrote_after B1.out hwr)
  clear hwr
  go_wp2_with fail
  go_ret
  exact ⟨rfl, W2.out⟩
set_option maxHeartbeats 2000000 in
theorem does3_any (C : Trees Rep) (S : Posix Rep) : Does Rep 59 3 := by
  intro F w v t P G p x hp hx
  obtain ⟨w1, hw1⟩ : ∃ w1 : World, w.alloc (.cells #[.int .i64 3, .string p, .string x] 39) = w1 := ⟨_, rfl⟩
  have B1 : Hid (Below w.heap.size w w1) := by show Below _ _ _; rw [← hw1]; exact W07.below_one _ _
  have TB : Hid (TaskBox w1 w.heap.size 3 p x) := by show TaskBox _ _ _ _ _; rw [← hw1]; exact heap_top _ _
  have t1 := TB.out.c1
  have t2 := TB.out.c2
  have P1 := Lib.hid (C.below P B1.out)
  have HG := Lib.hid G
  have HX : Hid (doTask t 3 p.data.toList x.data.toList = putAt t p.data.toList 3 x.data.toList) := by show _ = _; unfold doTask; simp
  rw [HX.out]
  have HC := Lib.hid (S.symlink P1.out HG.out x p hx hp)
  clear P G HX
  generalize putAt t p.data.toList 3 x.data.toList = Q at *
  go_enter Tryz.func59, Tryz.ntmps59
  go_wp2_with fail
  clear hw1
  refine HC.out.mono ?_
  rintro e w2 ⟨rfl, hwr⟩
  have W2 := Lib.hid (wrote_after B1.out hwr)
  clear hwr
  go_wp2_with fail
  go_ret
  exact ⟨rfl, W2.out⟩
set_option maxHeartbeats 2000000 in
theorem does4_any (C : Trees Rep) (S : Posix Rep) : Does Rep 61 4 := by
  intro F w v t P G p x hp hx
  obtain ⟨w1, hw1⟩ : ∃ w1 : World, w.alloc (.cells #[.int .i64 4, .string p, .string x] 39) = w1 := ⟨_, rfl⟩
  have B1 : Hid (Below w.heap.size w w1) := by show Below _ _ _; rw [← hw1]; exact W07.below_one _ _
  have TB : Hid (TaskBox w1 w.heap.size 4 p x) := by show TaskBox _ _ _ _ _; rw [← hw1]; exact heap_top _ _
  have t1 := TB.out.c1
  have t2 := TB.out.c2
  have P1 := Lib.hid (C.below P B1.out)
  have HG := Lib.hid G
  have HX : Hid (doTask t 4 p.data.toList x.data.toList = cutAt t p.data.toList false) := by show _ = _; unfold doTask; simp
  rw [HX.out]
  have HC := Lib.hid (S.unlink P1.out HG.out p hp)
  clear P G HX
  generalize cutAt t p.data.toList false = Q at *
  go_enter Tryz.func61, Tryz.ntmps61
  go_wp2_with fail
  clear hw1
  refine HC.out.mono ?_
  rintro e w2 ⟨rfl, hwr⟩
  have W2 := Lib.hid (wrote_after B1.out hwr)
  clear hwr
  go_wp2_with fail
  go_ret
  exact ⟨rfl, W2.out⟩
set_option maxHeartbeats 2000000 in
theorem does5_any (C : Trees Rep) (S : Posix Rep) : Does Rep 63 5 := by
  intro F w v t P G p x hp hx
  obtain ⟨w1, hw1⟩ : ∃ w1 : World, w.alloc (.cells #[.int .i64 5, .string p, .string x] 39) = w1 := ⟨_, rfl⟩
  have B1 : Hid (Below w.heap.size w w1) := by show Below _ _ _; rw [← hw1]; exact W07.below_one _ _
  have TB : Hid (TaskBox w1 w.heap.size 5 p x) := by show TaskBox _ _ _ _ _; rw [← hw1]; exact heap_top _ _
  have t1 := TB.out.c1
  have t2 := TB.out.c2
  have P1 := Lib.hid (C.below P B1.out)
  have HG := Lib.hid G
  have HX : Hid (doTask t 5 p.data.toList x.data.toList = M09.rename t p.data.toList x.data.toList) := by show _ = _; unfold doTask; simp
  rw [HX.out]
  have HC := Lib.hid (S.rename P1.out HG.out p x hp hx)
  clear P G HX
  generalize M09.rename t p.data.toList x.data.toList = Q at *
  go_enter Tryz.func63, Tryz.ntmps63
  go_wp2_with fail
  clear hw1
  refine HC.out.mono ?_
  rintro e w2 ⟨rfl, hwr⟩
  have W2 := Lib.hid (wrote_after B1.out hwr)
  clear hwr
  go_wp2_with fail
  go_ret
  exact ⟨rfl, W2.out⟩
set_option maxHeartbeats 2000000 in
theorem does6_any (C : Trees Rep) (S : Posix Rep) : Does Rep 65 6 := by
  intro F w v t P G p x hp hx
  obtain ⟨w1, hw1⟩ : ∃ w1 : World, w.alloc (.cells #[.int .i64 6, .string p, .string x] 39) = w1 := ⟨_, rfl⟩
  have B1 : Hid (Below w.heap.size w w1) := by show Below _ _ _; rw [← hw1]; exact W07.below_one _ _
  have TB : Hid (TaskBox w1 w.heap.size 6 p x) := by show TaskBox _ _ _ _ _; rw [← hw1]; exact heap_top _ _
  have t1 := TB.out.c1
  have t2 := TB.out.c2
  have P1 := Lib.hid (C.below P B1.out)
  have HG := Lib.hid G
  have HX : Hid (doTask t 6 p.data.toList x.data.toList = M09.write t p.data.toList x.data.toList) := by show _ = _; unfold doTask; simp
  rw [HX.out]
  have HC := Lib.hid (S.write P1.out HG.out p x hp hx)
  clear P G HX
  generalize M09.write t p.data.toList x.data.toList = Q at *
  go_enter Tryz.func65, Tryz.ntmps65
  go_wp2_with fail
  clear hw1
  refine HC.out.mono ?_
  rintro e w2 ⟨rfl, hwr⟩
  have W2 := Lib.hid (wrote_after B1.out hwr)
  clear hwr
  go_wp2_with fail
  go_ret
  exact ⟨rfl, W2.out⟩
end
end Go.Proofs.YtolhniepejhmfaaGreatDoor.W10
/-
  Layer 10 (fs): what the landed code's FS is in memory: a box with the tree, the table of the faults, the count and whether it is down; what becomes of it when its box is written, or its tree. Plain lemmas on worlds; no condition but those that each theorem bears.
-/
namespace Go.Proofs.YtolhniepejhmfaaGreatDoor.W10
open Go Go.RowKit Go.Proofs.YtolhniepejhmfaaGreatDoor.Strs Go.Proofs.YtolhniepejhmfaaGreatDoor.Recs Go.Proofs.YtolhniepejhmfaaGreatDoor.Range Go.Proofs.YtolhniepejhmfaaGreatDoor.Maps
open Go.Proofs.YtolhniepejhmfaaGreatDoor.M07 (Tr nodeAt Right)
open Go.Proofs.YtolhniepejhmfaaGreatDoor.M09 Go.Proofs.YtolhniepejhmfaaGreatDoor.M10
open Go.Proofs.YtolhniepejhmfaaGreatDoor.W07 (Small Trees Wrote heap_top set_heap)
open Go.Proofs.YtolhniepejhmfaaGreatDoor.Kit (ret_str ret_bool ret_int mk_of mk_bytes ba_ext below_draws on)

def FsBox (w : World) (p : Nat) (tv mv : Value) (c : Int) (d : Bool) : Prop := w.heap[p]? = some (.cells #[tv, mv, .int .i64 c, .bool d] 68 (0, 0))
section
variable {w w' : World} {p : Nat} {tv mv : Value} {c : Int} {d : Bool}
theorem FsBox.lt (h : FsBox w p tv mv c d) : p < w.heap.size := (Array.getElem?_eq_some_iff.1 h).1
theorem FsBox.below (h : FsBox w p tv mv c d) (hb : Below w.heap.size w w') : FsBox w' p tv mv c d := (hb.block _ h.lt).trans h
theorem FsBox.turns {T : Nat → Prop} (h : FsBox w p tv mv c d) (ht : Turns T w w') (hp : ¬ T p) : FsBox w' p tv mv c d := ht.keeps h hp
theorem FsBox.new (w : World) (tv mv : Value) (c : Int) (d : Bool) : FsBox (w.alloc (.cells #[tv, mv, .int .i64 c, .bool d] 68)) w.heap.size tv mv c d := heap_top _ _
theorem FsBox.c0 (h : FsBox w p tv mv c d) : w.cell? ⟨p, 0, none⟩ = some tv := cell_of_row w _ 0 _ _ (0, 0) h
theorem FsBox.c1 (h : FsBox w p tv mv c d) : w.cell? ⟨p, 1, none⟩ = some mv := cell_of_row w _ 1 _ _ (0, 0) h
theorem FsBox.c2 (h : FsBox w p tv mv c d) : w.cell? ⟨p, 2, none⟩ = some (.int .i64 c) := cell_of_row w _ 2 _ _ (0, 0) h
theorem FsBox.c3 (h : FsBox w p tv mv c d) : w.cell? ⟨p, 3, none⟩ = some (.bool d) := cell_of_row w _ 3 _ _ (0, 0) h
theorem FsBox.fr (h : FsBox w p tv mv c d) (j : Nat) : w.frozen? ⟨p, j, none⟩ = false := frozen_of_row w _ j _ _ h
theorem FsBox.set1 (h : FsBox w p tv mv c d) (m : Value) : FsBox (w.setCell ⟨p, 1, none⟩ m) p tv m c d := set_heap h 1 m
theorem FsBox.set2 (h : FsBox w p tv mv c d) (n : Int) : FsBox (w.setCell ⟨p, 2, none⟩ (.int .i64 n)) p tv mv n d := set_heap h 2 (.int .i64 n)
theorem FsBox.set3 (h : FsBox w p tv mv c d) (b : Bool) : FsBox (w.setCell ⟨p, 3, none⟩ (.bool b)) p tv mv c b := set_heap h 3 (.bool b)
end
/-- the table of the faults: none, or a map that lies in F beside the tree and the box -/
def Marks (F Ft : Blocks) (w : World) (p : Nat) (mv : Value) (L : List Fl) : Prop :=
  (mv = .map none ∧ ∀ n, tab L n = none) ∨ ∃ b m, mv = .map (some b) ∧ F b ∧ ¬ Ft b ∧ b ≠ p ∧ Table w b L m
theorem Marks.keep {F Ft : Blocks} {w w' : World} {p : Nat} {mv : Value} {L : List Fl} (h : Marks F Ft w p mv L) (hk : ∀ b, F b → ¬ Ft b → b ≠ p → w'.heap[b]? = w.heap[b]?) : Marks F Ft w' p mv L := by
  rcases h with h | ⟨b, m, e, h1, h2, h3, h4⟩
  · exact Or.inl h
  · exact Or.inr ⟨b, m, e, h1, h2, h3, h4.keep (hk b h1 h2 h3)⟩
theorem Marks.ask {F Ft : Blocks} {w : World} {p : Nat} {mv : Value} {L : List Fl} (h : Marks F Ft w p mv L) {n : Int} (hn : 1 ≤ n) (nq : Nat) :
    (Instr.lookup 66 mv (.int .i64 n) true).run Tryz.prog (w.drewN nq) = .ok (.tuple #[.int .i64 (fault L n), .bool (decide (fault L n ≠ 0))]) (w.drewN nq) := by
  obtain ⟨a1, a2⟩ := tab_at (l := L) hn
  rcases h with ⟨rfl, h⟩ | ⟨b, m, rfl, -, -, -, h4⟩
  · have := nil_ask (P := Tryz.prog) (w := w.drewN nq) keyE mapE (zeroE _) n
    rw [h n] at a1 a2
    rw [← a2, ← a1]
    exact this
  · have h5 : Table (w.drewN nq) b L m := h4.keep rfl
    have := h5.ask keyE mapE (zeroE _) n
    rw [a1, a2] at this
    exact this
structure FsAt (Rep : Blocks → World → Value → Tr → Prop) (F Ft : Blocks) (w : World) (p : Nat) (tv mv : Value) (x : Fs) : Prop where
  box : FsBox w p tv mv x.count x.down
  tree : Rep Ft w tv x.t
  marks : Marks F Ft w p mv x.faults
  fp : F p
  tp : ¬ Ft p
  sub : ∀ k, Ft k → F k
  low : ∀ k, F k → k < w.heap.size
/-- v leads to an FS that reads as x and lies in the blocks F -/
def RepF (Rep : Blocks → World → Value → Tr → Prop) (F : Blocks) (w : World) (v : Value) (x : Fs) : Prop := ∃ Ft p tv mv, v = .pointer (some ⟨p, 0, none⟩) ∧ FsAt Rep F Ft w p tv mv x
section
variable {Rep : Blocks → World → Value → Tr → Prop} {F Ft : Blocks} {w w' w2 : World} {p : Nat} {tv mv mv' : Value} {x x' : Fs}
theorem FsAt.keep (C : Trees Rep) (h : FsAt Rep F Ft w p tv mv x) (hk : ∀ k, F k → w'.heap[k]? = w.heap[k]?) (hs : w.heap.size ≤ w'.heap.size) : FsAt Rep F Ft w' p tv mv x where
  box := (hk _ h.fp).trans h.box
  tree := C.keep h.tree (fun k hf => hk k (h.sub k hf)) hs
  marks := h.marks.keep fun b hb _ _ => hk b hb
  fp := h.fp
  tp := h.tp
  sub := h.sub
  low := fun k hf => Nat.lt_of_lt_of_le (h.low k hf) hs
theorem FsAt.below (C : Trees Rep) (h : FsAt Rep F Ft w p tv mv x) (hb : Below w.heap.size w w') : FsAt Rep F Ft w' p tv mv x := h.keep C (fun k hf => hb.block k (h.low k hf)) hb.size
/-- the box was written -/
theorem FsAt.stored (C : Trees Rep) (h : FsAt Rep F Ft w p tv mv x) (ht : Turns (fun k => k = p) w w') (hb : FsBox w' p tv mv' x'.count x'.down) (hx : x'.t = x.t) (hm : Marks F Ft w' p mv' x'.faults) : FsAt Rep F Ft w' p tv mv' x' where
  box := hb
  tree := by rw [hx]; exact C.keep h.tree (fun k hf => ht.block k (h.low k (h.sub k hf)) (fun e => h.tp (by have : k = p := e; rw [← this]; exact hf))) ht.size
  marks := hm
  fp := h.fp
  tp := h.tp
  sub := h.sub
  low := fun k hf => Nat.lt_of_lt_of_le (h.low k hf) ht.size
theorem FsAt.marks_turns (h : FsAt Rep F Ft w p tv mv x) (ht : Turns (fun k => k = p) w w') : Marks F Ft w' p mv x.faults := h.marks.keep fun b hb _ hp => ht.block b (h.low b hb) hp
theorem FsAt.turned (h : FsAt Rep F Ft w2 p tv mv x) (ht : Turns F w w2) : Turned (RepF Rep) F (.pointer (some ⟨p, 0, none⟩)) x w w2 := ⟨F, ⟨Ft, p, tv, mv, rfl, h⟩, ht, fun _ => Or.inl⟩
/-- the tree was written -/
theorem FsAt.wrote (C : Trees Rep) (h : FsAt Rep F Ft w p tv mv x) {t : Tr} (hw : Wrote Rep Ft tv t w w') : ∃ F', RepF Rep F' w' (.pointer (some ⟨p, 0, none⟩)) { x with t := t } ∧ Turns F w w' ∧ ∀ k, F' k → F k ∨ w.heap.size ≤ k := by
  obtain ⟨Ft', h1, h2, h3⟩ := hw
  have hp := h.box.lt
  refine ⟨fun k => F k ∨ Ft' k, ⟨Ft', p, tv, mv, rfl, ?_⟩, h2.wider h.sub, fun k hk => hk.elim Or.inl (fun hk => (h3 k hk).imp (h.sub k) id)⟩
  exact {
    box := h.box.turns h2 h.tp
    tree := h1
    marks := by
      rcases h.marks with e | ⟨b, m, e, e1, e2, e3, e4⟩
      · exact Or.inl e
      · exact Or.inr ⟨b, m, e, Or.inl e1, fun hb => (h3 b hb).elim e2 (fun hb => by have := h.low b e1; omega), e3, e4.keep (h2.block b (h.low b e1) e2)⟩
    fp := Or.inl h.fp
    tp := fun hb => (h3 p hb).elim h.tp (fun hb => by omega)
    sub := fun _ => Or.inr
    low := fun k hk => hk.elim (fun hk => Nat.lt_of_lt_of_le (h.low k hk) h2.size) (C.low h1 k) }
/-- a map that lies beside all that was there -/
theorem FsAt.wider (h : FsAt Rep F Ft w p tv mv x) {b : Nat} (hb : b < w.heap.size) : FsAt Rep (fun k => F k ∨ k = b) Ft w p tv mv x where
  box := h.box
  tree := h.tree
  marks := by
    rcases h.marks with e | ⟨b, m, e, e1, e2, e3, e4⟩
    · exact Or.inl e
    · exact Or.inr ⟨b, m, e, Or.inl e1, e2, e3, e4⟩
  fp := Or.inl h.fp
  tp := h.tp
  sub := fun k hk => Or.inl (h.sub k hk)
  low := fun k hk => hk.elim (h.low k) (fun e => by omega)
theorem Table.lt {w : World} {b m : Nat} {L : List Fl} (h : Table w b L m) : b < w.heap.size := by
  obtain ⟨es, clock, hm⟩ := h.at_
  exact (Array.getElem?_eq_some_iff.1 hm).1
theorem turns_one (w : World) (p j : Nat) (u : Value) : Turns (fun k => k = p) w (w.setCell ⟨p, j, none⟩ u) := Turns.setCell u rfl
theorem Turned.from (hb : Turns F w w2) {RF : Blocks → World → Value → Fs → Prop} {v : Value} (h : Turned RF F v x w2 w') : Turned RF F v x w w' := by
  obtain ⟨F', h1, h2, h3⟩ := h
  exact ⟨F', h1, hb.trans h2, fun k hk => (h3 k hk).imp id (fun h => Nat.le_trans hb.size h)⟩
end
end Go.Proofs.YtolhniepejhmfaaGreatDoor.W10
/-
  Layer 10 (fs), walks of the landed code: New, Plan, Count, Down, Up, Tree over any reading of a tree. The conditions stand in the statements.
-/
namespace Go.Proofs.YtolhniepejhmfaaGreatDoor.W10
set_option maxRecDepth 100000
open Go Go.RowKit Go.Proofs.YtolhniepejhmfaaGreatDoor.Strs Go.Proofs.YtolhniepejhmfaaGreatDoor.Recs Go.Proofs.YtolhniepejhmfaaGreatDoor.Range Go.Proofs.YtolhniepejhmfaaGreatDoor.Maps
open Go.Proofs.YtolhniepejhmfaaGreatDoor.M07 (Tr nodeAt Right)
open Go.Proofs.YtolhniepejhmfaaGreatDoor.M09 Go.Proofs.YtolhniepejhmfaaGreatDoor.M10
open Go.Proofs.YtolhniepejhmfaaGreatDoor.W07 (Small Trees Wrote heap_top set_heap)
open Go.Proofs.YtolhniepejhmfaaGreatDoor.W09 (Posix)
open Go.Proofs.YtolhniepejhmfaaGreatDoor.Kit (ret_str ret_bool ret_int mk_of mk_bytes ba_ext below_draws on)

section
variable {Rep : Blocks → World → Value → Tr → Prop} {F Ft : Blocks} {w w' : World} {p : Nat} {v tv mv : Value} {x : Fs} {t : Tr}
theorem fs_new (C : Trees Rep) (h : Rep Ft w tv t) : FsAt Rep (fun k => Ft k ∨ k = w.heap.size) Ft (w.alloc (.cells #[tv, .map none, .int .i64 0, .bool false] 68)) w.heap.size tv (.map none) ⟨t, [], 0, false⟩ where
  box := FsBox.new _ _ _ _ _
  tree := C.below h (W07.below_one _ _)
  marks := Or.inl ⟨rfl, tab_nil⟩
  fp := Or.inr rfl
  tp := fun hk => by have := C.low h _ hk; omega
  sub := fun _ => Or.inl
  low := fun k hk => by
    have : (w.alloc (.cells #[tv, .map none, .int .i64 0, .bool false] 68)).heap.size = w.heap.size + 1 := World.size_alloc _ _
    rcases hk with hk | hk
    · have := C.low h _ hk; omega
    · omega
set_option maxHeartbeats 2000000 in
theorem new_any (C : Trees Rep) (hf : ∀ {F w v t}, Rep F w v t → ∃ a, v = .pointer (some a)) (h : Rep Ft w tv t) :
    Calls Tryz.prog 9 #[tv] w fun e w' => ∃ v F, e = .returned v ∧ RepF Rep F w' v ⟨t, [], 0, false⟩ ∧ (∀ k, F k → Ft k ∨ w.heap.size ≤ k) ∧ Below w.heap.size w w' := by
  have H := Lib.hid (fs_new C h)
  obtain ⟨a, rfl⟩ := hf h
  clear h
  go_enter Tryz.func9, Tryz.ntmps9
  go_wp2_with fail
  go_ret
  exact ⟨_, _, rfl, ⟨_, _, _, _, rfl, H.out⟩, fun k hk => hk.imp id (fun e => by omega), W07.below_one _ _⟩
set_option maxHeartbeats 2000000 in
theorem newNil_any (C : Trees Rep) (hf : ∀ {F w v t}, Rep F w v t → ∃ a, v = .pointer (some a)) (w : World) :
    Calls Tryz.prog 9 #[.pointer none] w fun e w' => ∃ v F, e = .returned v ∧ RepF Rep F w' v ⟨M07.new, [], 0, false⟩ ∧ (∀ k, F k → w.heap.size ≤ k) ∧ Below w.heap.size w w' := by
  have HN := Lib.hid (C.new w)
  go_enter Tryz.func9, Tryz.ntmps9
  go_wp2_with fail
  refine HN.out.mono ?_
  rintro e w1 ⟨tv, F1, rfl, h1, h2, h3⟩
  have H := Lib.hid (fs_new C h1)
  have B := Lib.hid h3
  obtain ⟨a, rfl⟩ := hf h1
  clear h1 h3
  go_wp2_with fail
  go_ret
  exact ⟨_, _, rfl, ⟨_, _, _, _, rfl, H.out⟩, fun k hk => hk.elim (h2 k) (fun e => by have := B.out.size; omega), on B.out (W07.below_one _ _)⟩
set_option maxHeartbeats 2000000 in
theorem count_any (h : RepF Rep F w v x) : Calls Tryz.prog 14 #[v] w fun e w' => e = .returned (.int .i64 x.count) ∧ Below w.heap.size w w' := by
  obtain ⟨Ft, p, tv, mv, rfl, h⟩ := h
  have c2 := h.box.c2
  clear h
  go_enter Tryz.func14, Tryz.ntmps14
  go_wp2_with fail
  go_ret
  exact ⟨rfl, Below.refl _ _⟩
set_option maxHeartbeats 2000000 in
theorem down_any (h : RepF Rep F w v x) : Calls Tryz.prog 15 #[v] w fun e w' => e = .returned (.bool x.down) ∧ Below w.heap.size w w' := by
  obtain ⟨Ft, p, tv, mv, rfl, h⟩ := h
  have c3 := h.box.c3
  clear h
  go_enter Tryz.func15, Tryz.ntmps15
  go_wp2_with fail
  go_ret
  exact ⟨rfl, Below.refl _ _⟩
set_option maxHeartbeats 2000000 in
theorem tree_any (h : RepF Rep F w v x) : Calls Tryz.prog 17 #[v] w fun e w' => ∃ tv Ft, e = .returned tv ∧ Rep Ft w' tv x.t ∧ (∀ k, Ft k → F k) ∧ Below w.heap.size w w' := by
  obtain ⟨Ft, p, tv, mv, rfl, h⟩ := h
  have c0 := h.box.c0
  have H := Lib.hid h
  clear h
  go_enter Tryz.func17, Tryz.ntmps17
  go_wp2_with fail
  go_ret
  exact ⟨tv, Ft, rfl, H.out.tree, H.out.sub, Below.refl _ _⟩
set_option maxHeartbeats 2000000 in
theorem up_any (C : Trees Rep) (h : RepF Rep F w v x) : Calls Tryz.prog 10 #[v] w fun e w' => e = .returned (.tuple #[]) ∧ Turned (RepF Rep) F v ⟨x.t, [], 0, false⟩ w w' := by
  obtain ⟨Ft, p, tv, mv, rfl, h⟩ := h
  have c0 := h.box.c0
  have c1 := h.box.c1
  have c2 := h.box.c2
  have c3 := h.box.c3
  have f1 := h.box.fr 1
  have f2 := h.box.fr 2
  have f3 := h.box.fr 3
  have ht : Turns (fun k => k = p) w (((w.setCell ⟨p, 1, none⟩ (.map none)).setCell ⟨p, 2, none⟩ (.int .i64 0)).setCell ⟨p, 3, none⟩ (.bool false)) := ((turns_one _ _ _ _).trans (turns_one _ _ _ _)).trans (turns_one _ _ _ _)
  have H : Hid (Turned (RepF Rep) F (.pointer (some ⟨p, 0, none⟩)) ⟨x.t, [], 0, false⟩ w (((w.setCell ⟨p, 1, none⟩ (.map none)).setCell ⟨p, 2, none⟩ (.int .i64 0)).setCell ⟨p, 3, none⟩ (.bool false))) :=
    (h.stored C ht (x' := ⟨x.t, [], 0, false⟩) (((h.box.set1 _).set2 _).set3 _) rfl (Or.inl ⟨rfl, tab_nil⟩)).turned (ht.wider fun k e => by have : k = p := e; rw [this]; exact h.fp)
  clear h ht
  go_enter Tryz.func10, Tryz.ntmps10
  go_wp2_with fail
  go_end0
  exact ⟨rfl, H.out⟩
set_option maxHeartbeats 2000000 in
theorem plan_any (C : Trees Rep) (h : RepF Rep F w v x) (u : Value) (L : List Fl) (hL : Faults w.heap.size w u L) :
    Calls Tryz.prog 11 #[v, u] w fun e w' => e = .returned (.tuple #[]) ∧ Turned (RepF Rep) F v { x with faults := L, count := 0 } w w' := by
  obtain ⟨Ft, p, tv, mv, rfl, h⟩ := h
  have HB := Lib.hid (byChange_any u L w hL)
  have HH := Lib.hid h
  obtain ⟨A, c, rfl, -, -⟩ := hL.recs.form
  clear h hL
  go_enter Tryz.func11, Tryz.ntmps11
  go_wp2_with fail
  refine HB.out.mono ?_
  rintro e w1 ⟨mb, m, rfl, hmb, hT, hb⟩
  have hlt := hT.lt
  have h1 := (HH.out.below C hb).wider hlt
  have c0 := h1.box.c0
  have c1 := h1.box.c1
  have c2 := h1.box.c2
  have f1 := h1.box.fr 1
  have f2 := h1.box.fr 2
  have hpm : mb ≠ p := by have := HH.out.box.lt; omega
  have ht : Turns (fun k => k = p) w1 ((w1.setCell ⟨p, 1, none⟩ (.map (some mb))).setCell ⟨p, 2, none⟩ (.int .i64 0)) := (turns_one _ _ _ _).trans (turns_one _ _ _ _)
  have hm : Marks (fun k => F k ∨ k = mb) Ft ((w1.setCell ⟨p, 1, none⟩ (.map (some mb))).setCell ⟨p, 2, none⟩ (.int .i64 0)) p (.map (some mb)) L :=
    Or.inr ⟨mb, m, rfl, Or.inr rfl, fun hk => by have := HH.out.low _ (HH.out.sub _ hk); omega, hpm, hT.keep (ht.block mb hlt hpm)⟩
  have H := Lib.hid (h1.stored C ht (x' := { x with faults := L, count := 0 }) ((h1.box.set1 _).set2 _) rfl hm)
  have T := Lib.hid ht
  have B := Lib.hid hb
  clear h1 ht hm hT hb
  go_wp2_with fail
  go_end0
  refine ⟨rfl, fun k => F k ∨ k = mb, ⟨_, _, _, _, rfl, H.out⟩, ?_, fun k hk => hk.imp id (fun e => by omega)⟩
  exact (Turns.new B.out).trans (T.out.wider fun k e => by have : k = p := e; rw [this]; exact HH.out.fp)
end

/-! the calls of a nil pointer -/
theorem noFs : NoFs where
  plan := by
    rintro w u ⟨A, n, c, rfl⟩
    go_enter Tryz.func11, Tryz.ntmps11
    go_wp2_with fail
    go_end0
    exact ⟨rfl, Below.refl _ _⟩
  up := by
    intro w
    go_enter Tryz.func10, Tryz.ntmps10
    go_wp2_with fail
    go_end0
    exact ⟨rfl, Below.refl _ _⟩
  do_ := by
    intro w k p s
    have hb := W07.below_one w (.cells #[.int .i64 k, .string p, .string s] 39)
    go_enter Tryz.func12, Tryz.ntmps12
    go_wp2_with fail
    go_ret
    exact ⟨rfl, hb⟩
  count := by
    intro w
    go_enter Tryz.func14, Tryz.ntmps14
    go_wp2_with fail
    go_ret
    exact ⟨rfl, Below.refl _ _⟩
  down := by
    intro w
    go_enter Tryz.func15, Tryz.ntmps15
    go_wp2_with fail
    go_ret
    exact ⟨rfl, Below.refl _ _⟩
  tree := by
    intro w
    go_enter Tryz.func17, Tryz.ntmps17
    go_wp2_with fail
    go_ret
    exact ⟨rfl, Below.refl _ _⟩
end Go.Proofs.YtolhniepejhmfaaGreatDoor.W10
