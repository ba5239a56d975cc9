/-
  Layer 19 (task), a walk: the program's Parse. The conditions stand in the statement.
-/
import Derived.Test.YthplnkchmelbmaaDoorW19Task
namespace Go.Proofs.YthplnkchmelbmaaDoor.W19
set_option maxRecDepth 100000
open Go Go.RowKit Go.Proofs.YthplnkchmelbmaaDoor.M19
open Go.Proofs.YthplnkchmelbmaaDoor.W09 (Tk)
open Go.Proofs.YthplnkchmelbmaaDoor.Kit (ret_str ret_bool ret_int mk_of mk_bytes ba_ext below_draws on)

/-- what Parse returns -/
def Parsed (w : World) (l : Bytes) (e : Ending) (w' : World) : Prop := ∃ (k : Int) (p t : ByteArray) (er : Int), e = .returned (.tuple #[taskV k p t, .int .i64 er]) ∧ Ans l ⟨k, p.data.toList, t.data.toList⟩ er ∧ Below w.heap.size w w'
theorem split_size {s p t : ByteArray} {k : Int} (h : Split s.data.toList ⟨k, p.data.toList, t.data.toList⟩ true) : p.size ≤ s.size ∧ t.size ≤ s.size := by
  rcases h with ⟨-, h1, h2⟩ | ⟨h, -⟩
  · rw [Lib.size_eq, Lib.size_eq, Lib.size_eq, ← h2]
    have e1 := shield_ge p.data.toList
    have e2 := shield_ge t.data.toList
    cases hh : has k with
    | true =>
      rw [raw_has hh, List.length_append, List.length_cons, List.length_append, List.length_cons]
      dsimp only
      omega
    | false =>
      rw [raw_not hh, List.length_append, List.length_cons]
      have e3 : t.data.toList = [] := h1.2 hh
      rw [e3]
      dsimp only
      rw [List.length_nil]
      omega
  · cases h
set_option maxHeartbeats 4000000 in
theorem parse_any (s : ByteArray) (hs : s.size ≤ 2147483648) (w : World) (hv : Verbs w) : Calls Tryd.prog 10 #[.string s] w (Parsed w s.data.toList) := by
  obtain ⟨U, hU⟩ : ∃ U, w.alloc (.cells #[.int .i64 0, .string ⟨#[]⟩, .string ⟨#[]⟩] 23) = U := ⟨_, rfl⟩
  have TB := Lib.hid (hU ▸ box_new w 0 ⟨#[]⟩ ⟨#[]⟩)
  have HBU := Lib.hid (hU ▸ below_new w (.cells #[.int .i64 0, .string ⟨#[]⟩, .string ⟨#[]⟩] 23))
  have HVU := Lib.hid (hv.on HBU.out)
  have HT := Lib.hid (taskOf_any s hs U HVU.out)
  clear hv
  go_enter Tryd.func10, Tryd.ntmps10
  go_wp2_with fail
  refine (HT.out).mono ?_
  rintro e w1 ⟨k, p, t, o, rfl, ho, hb⟩
  have HO := Lib.hid ho
  have B1 := Lib.hid (on HBU.out hb)
  have T1 := Lib.hid (TB.out.below hb)
  clear ho hb HT HBU TB HVU hU
  unfold taskV
  obtain ⟨V, hV⟩ : ∃ V, w1.alloc (.cells #[.int .i64 k, .string p, .string t] 23) = V := ⟨_, rfl⟩
  have TV := Lib.hid (hV ▸ box_new w1 k p t)
  have B2 := Lib.hid (on B1.out (hV ▸ below_new w1 (.cells #[.int .i64 k, .string p, .string t] 23)))
  have T2 := Lib.hid (T1.out.below (hV ▸ below_new w1 (.cells #[.int .i64 k, .string p, .string t] 23)))
  clear B1 T1
  cases o with
  | false =>
    have HE := Lib.hid (ans_form HO.out)
    have c0 := T2.out.c0
    have c1 := T2.out.c1
    have c2 := T2.out.c2
    have f0 := T2.out.fr 0
    have f1 := T2.out.fr 1
    have f2 := T2.out.fr 2
    go_wp2_with fail
    refine bodyPost_ret_by (v := .tuple #[taskV 0 ⟨#[]⟩ ⟨#[]⟩, .int .i64 3]) ?_ rfl ?_
    · rw [results_cell_one_tmp rfl]
      go_simp
      rfl
    · exact ⟨0, ⟨#[]⟩, ⟨#[]⟩, 3, rfl, HE.out, below_set B2.out (Nat.le_refl _) _ _ _⟩
  | true =>
    have HR := Lib.hid (fun w => right_any k p t (by have := (split_size HO.out).1; omega) (by have := (split_size HO.out).2; omega) w)
    have d0 := TV.out.c0
    have d1 := TV.out.c1
    have d2 := TV.out.c2
    go_wp2_with fail
    refine (HR.out _).mono ?_
    rintro e w2 ⟨rfl, hb⟩
    have B3 := Lib.hid (on B2.out hb)
    have T3 := Lib.hid (T2.out.below hb)
    have TV3 := Lib.hid (TV.out.below hb)
    clear hb B2 T2 TV d0 d1 d2 hV HR
    have c0 := T3.out.c0
    have c1 := T3.out.c1
    have c2 := T3.out.c2
    have f0 := T3.out.fr 0
    have f1 := T3.out.fr 1
    have f2 := T3.out.fr 2
    cases hr : right ⟨k, p.data.toList, t.data.toList⟩ with
    | false =>
      have HE := Lib.hid (ans_arg HO.out hr)
      clear hr
      go_wp2_with fail
      refine bodyPost_ret_by (v := .tuple #[taskV 0 ⟨#[]⟩ ⟨#[]⟩, .int .i64 2]) ?_ rfl ?_
      · rw [results_cell_one_tmp rfl]
        go_simp
        rfl
      · exact ⟨0, ⟨#[]⟩, ⟨#[]⟩, 2, rfl, HE.out, below_set B3.out (Nat.le_refl _) _ _ _⟩
    | true =>
      have HE := Lib.hid (ans_ok HO.out hr)
      have d0 := TV3.out.c0
      have d1 := TV3.out.c1
      have d2 := TV3.out.c2
      clear hr
      go_wp2_with fail
      refine bodyPost_ret_by (v := .tuple #[taskV k p t, .int .i64 0]) ?_ rfl ?_
      · rw [results_cell_one_tmp rfl]
        go_simp
        rfl
      · exact ⟨k, p, t, 0, rfl, HE.out, below_set B3.out (Nat.le_refl _) _ _ _⟩
end Go.Proofs.YthplnkchmelbmaaDoor.W19
