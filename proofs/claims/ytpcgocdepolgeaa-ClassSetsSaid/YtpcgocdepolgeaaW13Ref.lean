/-
  Layer 13 (class), walks of the document's own answers: Make, Span, Has, Union, Not, Count, Named. The conditions stand in the statements.
-/
import Derived.Test.YtpcgocdepolgeaaW13Text
import Derived.Deep.OwnRows
namespace Go.Proofs.Ytpcgocdepolgeaa.W13
set_option maxRecDepth 100000
open Go Go.RowKit Go.Proofs.Ytpcgocdepolgeaa.M13 Go.Proofs.Ytpcgocdepolgeaa.Row256
open Go.Proofs.Ytpcgocdepolgeaa.Kit (ret_str ret_bool ret_int mk_of mk_bytes ba_ext below_draws on take_next cat_bytes)

theorem infoBool : (Try.prog.info? 4).map (fun i => (i.zero, i.size, i.bytes)) = some (some (Value.bool false), 1, 1) := by kernel_rfl
set_option maxHeartbeats 1000000 in
theorem refMake_any {w : World} {b : Nat} {t : TypeId} {f : Nat → Bool} (h : Row w b t (bv f)) :
    Calls Try.prog 22 #[.slice (some ⟨b, 0, none⟩) 256 256] w fun e w' => e = .returned (.string (tx f)) ∧ w' = w := by
  have HC := Lib.hid h
  clear h
  go_enter Try.func22, Try.ntmps22
  go_wp2_with fail
  go_loopg [3, 4] 256 (fun g s3 s4 wr => ∃ (i : Nat) (d : ByteArray), s3 = .string d ∧ s4 = .int .i64 i ∧ i + g = 256 ∧ Hid (d.data.toList = (List.range i).map fun j => bit (f j)) ∧ wr = w)
  case atStart => exact ⟨0, ⟨#[]⟩, rfl, rfl, rfl, rfl, rfl⟩
  case round =>
    obtain ⟨i, d, rfl, rfl, hig, hd, rfl⟩ := hrel
    cases gk with
    | zero =>
      obtain rfl : i = 256 := by omega
      go_wp2_with fail
      go_ret
      exact ⟨ret_str (ba_ext hd.out), rfl⟩
    | succ g =>
      have hi3 : (i : Int) < 256 := by omega
      have hcell : wr.cell? ⟨b, i, none⟩ = some (.bool (f i)) := HC.out.cell (i := i) (by omega)
      have hstep : ∀ u : UInt8, u = bit (f i) → Hid ((d ++ ⟨#[u]⟩).data.toList = (List.range (i + 1)).map fun j => bit (f j)) := by
        intro u hu
        unfold Hid
        rw [cat_bytes, hd.out, List.range_succ, List.map_append, hu]; rfl
      have HS := Lib.hid hstep
      clear hstep
      have hdz : d.size = i := by rw [Lib.size_eq, hd.out, List.length_map, List.length_range]
      have hn : ¬ 9223372036854775807 < d.size + 1 := by omega
      clear hdz
      cases hf : f i with
      | true =>
        rw [hf] at hcell
        go_wp2_with fail
        go_roundg g
        case measure => omega
        case rel => exact ⟨i + 1, _, rfl, by first | rfl | simp, by omega, HS.out 49 (by rw [hf]; rfl), rfl⟩
      | false =>
        rw [hf] at hcell
        go_wp2_with fail
        go_roundg g
        case measure => omega
        case rel => exact ⟨i + 1, _, rfl, by first | rfl | simp, by omega, HS.out 48 (by rw [hf]; rfl), rfl⟩
theorem made_row (v : Value) : madeCells #[v] 256 = rowV fun _ => v := by
  refine rowV_ext (size_madeCells _ _) fun j hj => ?_
  simp [madeCells, hj, Nat.mod_one]
theorem make_row (w : World) : (Instr.makeSlice 42 (.int .i64 256) (.int .i64 256)).run Try.prog w = .ok (.slice (some ⟨w.heap.size, 0, none⟩) 256 256) (w.alloc (.cells (rowV (bv fun _ => false)) 4)) := by
  have h := run_make_row' (P := Try.prog) 42 4 (.bool false) 1 Try.underlying42 infoBool rfl .i64 .i64 256 (by omega) (by omega) w
  rw [made_row] at h
  exact h
theorem new_bools (w : World) : Row (w.alloc (.cells (rowV (bv fun _ => false)) 4)) w.heap.size 4 (bv fun _ => false) ∧ Below w.heap.size w (w.alloc (.cells (rowV (bv fun _ => false)) 4)) :=
  ⟨Row.new _ _ _, (Below.refl w.heap.size w).alloc (Nat.le_refl _) _⟩
set_option maxHeartbeats 1000000 in
theorem refSpan_any (a c : Nat) (hc : c < 256) (w : World) : Calls Try.prog 7 #[.int .i64 a, .int .i64 c] w fun e w' => e = .returned (.string (tx (between a c))) ∧ Below w.heap.size w w' := by
  have hmk := make_row
  have HC := Lib.hid hc
  clear hc
  go_enter Try.func7, Try.ntmps7
  go_wp2_with fail
  have HN := Lib.hid (new_bools w)
  generalize (w.alloc (.cells (rowV (bv fun _ => false)) 4)) = w1 at HN ⊢
  clear hmk
  go_loopg [6] (c + 1 - a) (fun g s6 wr => ∃ i : Nat, s6 = .int .i64 i ∧ a ≤ i ∧ (i + g = c + 1 ∨ g = 0 ∧ c < i) ∧ Hid (Row wr w.heap.size 4 (bv fun j => decide (a ≤ j) && decide (j < i) && decide (j ≤ c))) ∧ Hid (Below w.heap.size w wr))
  case atStart =>
    refine ⟨a, rfl, Nat.le_refl _, by omega, HN.out.1.is fun j _ => bv_eq ?_, HN.out.2⟩
    have e : (decide (a ≤ j) && decide (j < a)) = false := by simp
    rw [e, Bool.false_and]
  case round =>
    obtain ⟨i, rfl, hai, hig, hr, hb⟩ := hrel
    cases gk with
    | zero =>
      have hi : c < i := by omega
      have hi2 : ¬ ((i : Int) ≤ (c : Int)) := by omega
      have HI := Lib.hid hi
      clear hi hig
      go_wp2_with fail
      refine (refMake_any hr.out).mono ?_
      rintro e w2 ⟨rfl, rfl⟩
      go_wp2_with fail
      go_ret
      refine ⟨congrArg (fun x => Ending.returned (.string x)) (tx_congr fun j _ => ?_), hb.out⟩
      unfold between
      by_cases e : j ≤ c
      · have := HI.out
        rw [decide_eq_true (show j < i by omega), Bool.and_true]
      · rw [decide_eq_false e, Bool.and_false, Bool.and_false]
    | succ g =>
      have hi : i ≤ c := by omega
      have hi2 : (i : Int) ≤ (c : Int) := by omega
      have hi3 : (i : Int) < 256 := by have := HC.out; omega
      have hcell := hr.out.cell (i := i) (by omega)
      have hfree := hr.out.free i
      generalize hold : bv (fun j => decide (a ≤ j) && decide (j < i) && decide (j ≤ c)) i = old at hcell
      clear hold
      go_wp2_with fail
      go_roundg g
      case measure => omega
      case rel =>
        refine ⟨i + 1, by first | rfl | simp, by omega, by omega, (hr.out.put i (.bool true)).is fun j _ => ?_, hb.out.setCell (Nat.le_refl _) _⟩
        by_cases e : j = i
        · subst e
          rw [if_pos rfl]
          refine (bv_eq (f := fun _ => true) ?_)
          rw [decide_eq_true hai, decide_eq_true (show j < j + 1 by omega), decide_eq_true hi]; rfl
        · rw [if_neg e]
          refine bv_eq ?_
          rw [show decide (j < i + 1) = decide (j < i) from decide_eq_decide.2 (by omega)]
theorem byte_is (s : ByteArray) {i : Nat} (hi : i < s.size) (u : UInt8) : ((s[i].toNat : Int) == (u.toNat : Int)) = decide (s[i] = u) := Kit.byte_test _ _
theorem good_of {s : ByteArray} (hs : s.size = 256) (h : ∀ j (hj : j < s.size), s[j] = 48 ∨ s[j] = 49) : good s.data.toList = true := by
  unfold good
  rw [← Lib.size_eq, decide_eq_true hs, Bool.true_and, List.all_eq_true]
  intro c hc
  obtain ⟨j, hj, rfl⟩ := List.mem_iff_getElem.1 hc
  have := h j (by rw [Lib.size_eq]; exact hj)
  rcases this with e | e
  · rw [show s.data.toList[j] = 48 from e]; rfl
  · rw [show s.data.toList[j] = 49 from e]; rfl
theorem bad_of {s : ByteArray} {j : Nat} (hj : j < s.size) (h0 : ¬ s[j] = 48) (h1 : ¬ s[j] = 49) : good s.data.toList = false := by
  cases h : good s.data.toList with
  | false => rfl
  | true =>
    exfalso
    unfold good at h
    have h2 := List.all_eq_true.1 (Bool.and_eq_true_iff.1 h).2 s[j] (List.getElem_mem _)
    rw [decide_eq_false h0, decide_eq_false h1] at h2
    cases h2
theorem has_at2 {s : ByteArray} (hg : good s.data.toList = true) {i : Nat} (hi : i < s.size) : ((s[i].toNat : Int) == 49) = has s.data.toList i := by
  rw [has_good hg, Kit.byte_get s i hi]
  exact byte_is s hi 49
set_option maxHeartbeats 1000000 in
theorem refHas_any (s : ByteArray) (c : Nat) (w : World) : Calls Try.prog 10 #[.string s, .int .i64 c] w fun e w' => e = .returned (.bool (has s.data.toList c)) ∧ w' = w := by
  have h0 : ¬ ((c : Int) < 0) := by omega
  by_cases hs : s.size = 256
  · have hz : (((s.size : Nat) : Int) != 256) = false := by rw [hs]; rfl
    by_cases hc : c < 256
    · have hc2 : ¬ (255 < (c : Int)) := by omega
      have HS := Lib.hid (And.intro hs hc)
      clear hs hc
      go_enter Try.func10, Try.ntmps10
      go_wp2_with fail
      go_loopg [5] 256 (fun g s5 wr => ∃ i : Nat, s5 = .int .i64 i ∧ i + g = 256 ∧ Hid (∀ j (hj : j < s.size), j < i → s[j] = 48 ∨ s[j] = 49) ∧ wr = w)
      case atStart => exact ⟨0, rfl, rfl, fun j _ h => absurd h (by omega), rfl⟩
      case round =>
        obtain ⟨i, rfl, hig, hall, rfl⟩ := hrel
        cases gk with
        | zero =>
          obtain rfl : i = 256 := by omega
          have hg := good_of HS.out.1 (fun j hj => hall.out j hj (by rw [← HS.out.1]; exact hj))
          have hcs : c < s.size := by rw [HS.out.1]; exact HS.out.2
          have HV := Lib.hid (has_at2 hg hcs)
          clear hg
          go_wp2_with fail
          go_ret
          exact ⟨ret_bool HV.out, rfl⟩
        | succ g =>
          have hi : i < s.size := by rw [HS.out.1]; omega
          have hi3 : (i : Int) < 256 := by omega
          by_cases e0 : s[i] = 48
          · have t0 : (s[i].toNat : Int) = 48 := by rw [e0]; rfl
            have HE := Lib.hid e0
            clear e0
            go_wp2_with fail
            go_roundg g
            case measure => omega
            case rel =>
              refine ⟨i + 1, by first | rfl | simp, by omega, fun j hj h => ?_, rfl⟩
              by_cases e : j = i
              · subst e; exact Or.inl HE.out
              · exact hall.out j hj (by omega)
          · have t0 : ¬ (s[i].toNat : Int) = 48 := fun e => e0 (UInt8.toNat_inj.1 (show s[i].toNat = 48 by omega))
            by_cases e1 : s[i] = 49
            · have t1 : (s[i].toNat : Int) = 49 := by rw [e1]; rfl
              have HE := Lib.hid e1
              clear e0 e1 t0
              go_wp2_with fail
              go_roundg g
              case measure => omega
              case rel =>
                refine ⟨i + 1, by first | rfl | simp, by omega, fun j hj h => ?_, rfl⟩
                by_cases e : j = i
                · subst e; exact Or.inr HE.out
                · exact hall.out j hj (by omega)
            · have t1 : ¬ (s[i].toNat : Int) = 49 := fun e => e1 (UInt8.toNat_inj.1 (show s[i].toNat = 49 by omega))
              have HV := Lib.hid (has_bad (bad_of hi e0 e1) c)
              have q0 : ((s[i].toNat : Int) != 48) = true := by simpa using t0
              have q1 : ((s[i].toNat : Int) != 49) = true := by simpa using t1
              clear e0 e1 t0 t1
              go_wp2_with fail
              go_ret
              exact ⟨ret_bool HV.out.symm, rfl⟩
    · have hc2 : 255 < (c : Int) := by omega
      have HV := Lib.hid (has_far (s := s.data.toList) (i := c) (by omega))
      clear hs hc
      go_enter Try.func10, Try.ntmps10
      go_wp2_with fail
      go_ret
      exact ⟨ret_bool HV.out.symm, rfl⟩
  · have hz : (((s.size : Nat) : Int) != 256) = true := by simp; omega
    have hb : good s.data.toList = false := by unfold good; rw [← Lib.size_eq, decide_eq_false hs]; rfl
    have HV := Lib.hid (has_bad hb c)
    clear hs hb
    go_enter Try.func10, Try.ntmps10
    go_wp2_with fail
    go_ret
    exact ⟨ret_bool HV.out.symm, rfl⟩
set_option maxHeartbeats 1000000 in
theorem refUnion_any (a b : ByteArray) (w : World) : Calls Try.prog 13 #[.string a, .string b] w fun e w' => e = .returned (.string (tx fun i => has a.data.toList i || has b.data.toList i)) ∧ Below w.heap.size w w' := by
  have hmk := make_row
  go_enter Try.func13, Try.ntmps13
  go_wp2_with fail
  have HN := Lib.hid (new_bools w)
  generalize (w.alloc (.cells (rowV (bv fun _ => false)) 4)) = w1 at HN ⊢
  clear hmk
  go_loopg [6] 256 (fun g s6 wr => ∃ i : Nat, s6 = .int .i64 i ∧ i + g = 256 ∧ Hid (Row wr w.heap.size 4 (bv fun j => if j < i then has a.data.toList j || has b.data.toList j else false)) ∧ Hid (Below w.heap.size w wr))
  case atStart => exact ⟨0, rfl, rfl, HN.out.1.is fun j _ => bv_eq (by rw [if_neg (by omega)]), HN.out.2⟩
  case round =>
    obtain ⟨i, rfl, hig, hr, hb⟩ := hrel
    cases gk with
    | zero =>
      obtain rfl : i = 256 := by omega
      go_wp2_with fail
      refine (refMake_any hr.out).mono ?_
      rintro e w2 ⟨rfl, rfl⟩
      go_wp2_with fail
      go_ret
      exact ⟨congrArg (fun x => Ending.returned (.string x)) (tx_congr fun j hj => by first | rw [if_pos hj] | rw [decide_eq_true hj, Bool.true_and]), hb.out⟩
    | succ g =>
      have hi3 : (i : Int) < 256 := by omega
      have hcell := hr.out.cell (i := i) (by omega)
      have hfree := hr.out.free i
      generalize hold : bv (fun j => if j < i then has a.data.toList j || has b.data.toList j else false) i = old at hcell
      clear hold
      obtain ⟨W0, rfl⟩ : ∃ W0 : World, W0 = wr := ⟨_, rfl⟩
      go_wp2_with fail
      refine (refHas_any _ _ _).mono ?_
      rintro e w2 ⟨rfl, rfl⟩
      cases hA : has a.data.toList i with
      | true =>
        go_wp2_with fail
        go_roundg g
        case measure => omega
        case rel => exact ⟨i + 1, by first | rfl | simp, by omega, row_step hr.out (by rw [hA]; rfl), hb.out.setCell (Nat.le_refl _) _⟩
      | false =>
        go_wp2_with fail
        refine (refHas_any _ _ _).mono ?_
        rintro e w2 ⟨rfl, rfl⟩
        go_wp2_with fail
        go_roundg g
        case measure => omega
        case rel => exact ⟨i + 1, by first | rfl | simp, by omega, row_step hr.out (by rw [hA]; rfl), hb.out.setCell (Nat.le_refl _) _⟩
set_option maxHeartbeats 1000000 in
theorem refNot_any (a : ByteArray) (w : World) : Calls Try.prog 14 #[.string a] w fun e w' => e = .returned (.string (tx fun i => !has a.data.toList i)) ∧ Below w.heap.size w w' := by
  have hmk := make_row
  go_enter Try.func14, Try.ntmps14
  go_wp2_with fail
  have HN := Lib.hid (new_bools w)
  generalize (w.alloc (.cells (rowV (bv fun _ => false)) 4)) = w1 at HN ⊢
  clear hmk
  go_loopg [4] 256 (fun g s4 wr => ∃ i : Nat, s4 = .int .i64 i ∧ i + g = 256 ∧ Hid (Row wr w.heap.size 4 (bv fun j => if j < i then !has a.data.toList j else false)) ∧ Hid (Below w.heap.size w wr))
  case atStart => exact ⟨0, rfl, rfl, HN.out.1.is fun j _ => bv_eq (by rw [if_neg (by omega)]), HN.out.2⟩
  case round =>
    obtain ⟨i, rfl, hig, hr, hb⟩ := hrel
    cases gk with
    | zero =>
      obtain rfl : i = 256 := by omega
      go_wp2_with fail
      refine (refMake_any hr.out).mono ?_
      rintro e w2 ⟨rfl, rfl⟩
      go_wp2_with fail
      go_ret
      exact ⟨congrArg (fun x => Ending.returned (.string x)) (tx_congr fun j hj => by first | rw [if_pos hj] | rw [decide_eq_true hj, Bool.true_and]), hb.out⟩
    | succ g =>
      have hi3 : (i : Int) < 256 := by omega
      have hcell := hr.out.cell (i := i) (by omega)
      have hfree := hr.out.free i
      generalize hold : bv (fun j => if j < i then !has a.data.toList j else false) i = old at hcell
      clear hold
      go_wp2_with fail
      refine (refHas_any _ _ _).mono ?_
      rintro e w2 ⟨rfl, rfl⟩
      go_wp2_with fail
      go_roundg g
      case measure => omega
      case rel => exact ⟨i + 1, by first | rfl | simp, by omega, row_step hr.out rfl, hb.out.setCell (Nat.le_refl _) _⟩
set_option maxHeartbeats 1000000 in
theorem refCount_any (a : ByteArray) (w : World) : Calls Try.prog 16 #[.string a] w fun e w' => e = .returned (.int .i64 (count a.data.toList)) ∧ w' = w := by
  have HC := Lib.hid (countP_far a.data.toList)
  go_enter Try.func16, Try.ntmps16
  go_wp2_with fail
  go_loopg [3, 4] 256 (fun g s3 s4 wr => ∃ i n : Nat, s3 = .int .i64 n ∧ s4 = .int .i64 i ∧ i + g = 256 ∧ n ≤ i ∧ Hid ((List.range i).countP (has a.data.toList) = n) ∧ wr = w)
  case atStart => exact ⟨0, 0, rfl, rfl, rfl, Nat.le_refl _, rfl, rfl⟩
  case round =>
    obtain ⟨i, n, rfl, rfl, hig, hni, hn, rfl⟩ := hrel
    cases gk with
    | zero =>
      obtain rfl : i = 256 := by omega
      go_wp2_with fail
      go_ret
      exact ⟨ret_int (by rw [← HC.out, hn.out]), rfl⟩
    | succ g =>
      have hi3 : (i : Int) < 256 := by omega
      have HS : Hid ((List.range (i + 1)).countP (has a.data.toList) = n + (if has a.data.toList i then 1 else 0)) := by
        unfold Hid
        rw [List.range_succ, List.countP_append, hn.out, List.countP_cons, List.countP_nil, Nat.zero_add]
      obtain ⟨W0, rfl⟩ : ∃ W0 : World, W0 = wr := ⟨_, rfl⟩
      go_wp2_with fail
      refine (refHas_any _ _ _).mono ?_
      rintro e w2 ⟨rfl, rfl⟩
      cases hA : has a.data.toList i with
      | true =>
        rw [hA] at HS
        go_wp2_with fail
        go_roundg g
        case measure => omega
        case rel => exact ⟨i + 1, n + 1, by first | rfl | simp, by first | rfl | simp, by omega, by omega, HS, rfl⟩
      | false =>
        rw [hA] at HS
        go_wp2_with fail
        go_roundg g
        case measure => omega
        case rel => exact ⟨i + 1, n, rfl, by first | rfl | simp, by omega, by omega, HS, rfl⟩
/-! what these answer of texts of truths -/
theorem has_tx (f : Nat → Bool) {i : Nat} (h : i < 256) : has (tx f).data.toList i = f i := has_text f h
theorem refUnion_tx (f g : Nat → Bool) (w : World) : Calls Try.prog 13 #[.string (tx f), .string (tx g)] w fun e w' => e = .returned (.string (tx fun i => f i || g i)) ∧ Below w.heap.size w w' :=
  (refUnion_any _ _ _).mono fun _ _ h => ⟨h.1.trans (congrArg (fun x => Ending.returned (.string x)) (tx_congr fun i hi => by rw [has_tx f hi, has_tx g hi])), h.2⟩
theorem refNot_tx (f : Nat → Bool) (w : World) : Calls Try.prog 14 #[.string (tx f)] w fun e w' => e = .returned (.string (tx fun i => !f i)) ∧ Below w.heap.size w w' :=
  (refNot_any _ _).mono fun _ _ h => ⟨h.1.trans (congrArg (fun x => Ending.returned (.string x)) (tx_congr fun i hi => by rw [has_tx f hi])), h.2⟩
end Go.Proofs.Ytpcgocdepolgeaa.W13
