/-
  Layer 7 (tree): the landed code keeps the contracts that the laws ask ('Trees', 'NoTree'); so the laws hold.
-/
import Derived.Test.YtelphegeeiocnaaW07Put2
import Derived.Test.YtelphegeeiocnaaW07Move2
import Derived.Test.YtelphegeeiocnaaW07Copy
import Derived.Test.YtelphegeeiocnaaW07Does
import Derived.Test.YtelphegeeiocnaaW07Wholes
import Derived.Test.YtelphegeeiocnaaW07None
namespace Go.Proofs.Ytelphegeeiocnaa.W07
open Go Go.RowKit Go.Proofs.Ytelphegeeiocnaa.Strs Go.Proofs.Ytelphegeeiocnaa.Recs Go.Proofs.Ytelphegeeiocnaa.M07 Go.Proofs.Ytelphegeeiocnaa.Maps Go.Proofs.Ytelphegeeiocnaa.Range
open Go.Proofs.Ytelphegeeiocnaa.M06 (Ent)
open Go.Proofs.Ytelphegeeiocnaa.M03 (check)
open Go.Proofs.Ytelphegeeiocnaa.W06 (Ents HandsE)
open Go.Proofs.Ytelphegeeiocnaa.Kit (ret_str ret_bool ret_int mk_of mk_bytes ba_ext below_draws on list_full list_ne list_none list_nil bytes_nil)

theorem trees : Trees Rep where
  keep := fun h hk hs => h.keep hk hs
  low := fun h => h.low
  right := fun h => h.1
  new := new_any
  kind := fun h _ n => by obtain ⟨-, sb, mb, lv, rfl, hM⟩ := h; exact kind_any hM n
  data := fun h _ n => by obtain ⟨-, sb, mb, lv, rfl, hM⟩ := h; exact data_any hM n
  up := fun h _ n => by obtain ⟨-, sb, mb, lv, rfl, hM⟩ := h; exact up_any hM n
  len := fun h _ => by obtain ⟨-, sb, mb, lv, rfl, hM⟩ := h; exact len_any hM
  lists := fun {F w v t} h hs n => by
    obtain ⟨-, sb, mb, lv, rfl, hM⟩ := h
    have hl := plain_short hs n
    refine (list_any hM n (by omega)).mono ?_
    rintro e w' ⟨u, he, hu, hn, hb⟩
    exact ⟨u, he, hu, fun b o n c e2 => Or.inr (hn b o n c e2), hb⟩
  put := fun h hs d s kind x _ => put_any h hs d s kind x
  set := fun h hs n x _ => set_any h hs n x
  cut := fun h hs d s => cut_any h hs d s
  move := fun h hs src s dst a => move_any h hs src s dst a
  copy := fun h hs => copy_any h hs

/-! the calls of a nil pointer -/
theorem node_nil (n : Int) (w : World) : Calls Try.prog 28 #[.pointer none, .int .i64 n] w fun e w' => e = .returned (.agg #[.int .i64 0, .int .i64 0, .string ⟨#[]⟩, .slice none 0 0]) ∧ Below w.heap.size w w' := by
  go_enter Try.func28, Try.ntmps28
  go_wp2_with fail
  refine bodyPost_ret_by (v := .agg #[.int .i64 0, .int .i64 0, .string ⟨#[]⟩, .slice none 0 0]) ?_ rfl ⟨rfl, ?_⟩
  · rw [results_cell_one rfl]
    go_simp
  · exact (Below.refl _ _).alloc (Nat.le_refl _) _
theorem kind_nil (w : World) (n : Int) : Calls Try.prog 17 #[.pointer none, .int .i64 n] w (Tells (.int .i64 0) w) := by
  have HC := Lib.hid (node_nil n w)
  have hf := nod_kind 0 0 ⟨#[]⟩ none 0 0
  go_enter Try.func17, Try.ntmps17
  go_wp2_with fail
  refine HC.out.mono ?_
  rintro e w1 ⟨rfl, hb⟩
  go_wp2_with fail
  go_ret
  exact ⟨rfl, hb⟩
theorem data_nil (w : World) (n : Int) : Calls Try.prog 21 #[.pointer none, .int .i64 n] w (Tells (.string ⟨#[]⟩) w) := by
  have HC := Lib.hid (node_nil n w)
  have hf := nod_data 0 0 ⟨#[]⟩ none 0 0
  go_enter Try.func21, Try.ntmps21
  go_wp2_with fail
  refine HC.out.mono ?_
  rintro e w1 ⟨rfl, hb⟩
  go_wp2_with fail
  go_ret
  exact ⟨rfl, hb⟩
theorem up_nil (w : World) (n : Int) : Calls Try.prog 16 #[.pointer none, .int .i64 n] w (Tells (.int .i64 0) w) := by
  have HC := Lib.hid (node_nil n w)
  have hf := nod_up 0 0 ⟨#[]⟩ none 0 0
  go_enter Try.func16, Try.ntmps16
  go_wp2_with fail
  refine HC.out.mono ?_
  rintro e w1 ⟨rfl, hb⟩
  go_wp2_with fail
  go_ret
  exact ⟨rfl, hb⟩
theorem list_nil_tree (w : World) (n : Int) : Calls Try.prog 15 #[.pointer none, .int .i64 n] w fun e w' => ∃ A c, Tells (.slice A 0 c) w e w' := by
  have HC := Lib.hid (node_nil n w)
  have HCL := Lib.hid (fun w' : World => clone_any (w := w') (.slice none 0 0) [] (recs_nil _ _ _ _) (by simp))
  have hf := nod_list 0 0 ⟨#[]⟩ none 0 0
  go_enter Try.func15, Try.ntmps15
  go_wp2_with fail
  refine HC.out.mono ?_
  rintro e w1 ⟨rfl, hb⟩
  have B1 := Lib.hid hb
  clear hb
  go_wp2_with fail
  refine (HCL.out w1).mono ?_
  rintro e w2 ⟨u, rfl, hu, -, hb⟩
  have B2 := Lib.hid (on B1.out hb)
  obtain ⟨A, c, rfl⟩ := W06.none_form hu
  clear hu hb
  go_wp2_with fail
  go_ret
  exact ⟨A, c, rfl, B2.out⟩
theorem len_nil_tree (w : World) : Calls Try.prog 18 #[.pointer none] w (Tells (.int .i64 0) w) := by
  go_enter Try.func18, Try.ntmps18
  go_wp2_with fail
  go_ret
  exact ⟨rfl, Below.refl _ _⟩
theorem copy_nil (w : World) : Calls Try.prog 10 #[.pointer none] w (Tells (.pointer none) w) := by
  go_enter Try.func10, Try.ntmps10
  go_wp2_with fail
  go_ret
  exact ⟨rfl, Below.refl _ _⟩
theorem checkDir_nil (w : World) (n : Int) : Calls Try.prog 26 #[.pointer none, .int .i64 n] w (Tells (.int .i64 1) w) := by
  go_enter Try.func26, Try.ntmps26
  go_wp2_with fail
  go_ret
  exact ⟨rfl, Below.refl _ _⟩
theorem checkPlace_nil (w : World) (n : Int) (s : ByteArray) : Calls Try.prog 23 #[.pointer none, .int .i64 n, .string s] w (Tells (.int .i64 1) w) := by
  have HC := Lib.hid (checkDir_nil w n)
  go_enter Try.func23, Try.ntmps23
  go_wp2_with fail
  refine HC.out.mono ?_
  rintro e w1 ⟨rfl, hb⟩
  go_wp2_with fail
  go_ret
  exact ⟨rfl, hb⟩
theorem put_nil (w : World) (d : Int) (s : ByteArray) (k : Int) (x : ByteArray) : Calls Try.prog 11 #[.pointer none, .int .i64 d, .string s, .int .i64 k, .string x] w (Tells (.tuple #[.int .i64 0, .int .i64 1]) w) := by
  have HC := Lib.hid (checkPlace_nil w d s)
  go_enter Try.func11, Try.ntmps11
  go_wp2_with fail
  refine HC.out.mono ?_
  rintro e w1 ⟨rfl, hb⟩
  go_wp2_with fail
  go_ret2
  exact ⟨rfl, hb⟩
theorem set_nil (w : World) (d : Int) (x : ByteArray) : Calls Try.prog 19 #[.pointer none, .int .i64 d, .string x] w (Tells (.int .i64 1) w) := by
  go_enter Try.func19, Try.ntmps19
  go_wp2_with fail
  go_ret
  exact ⟨rfl, Below.refl _ _⟩
theorem cut_nil (w : World) (d : Int) (s : ByteArray) : Calls Try.prog 12 #[.pointer none, .int .i64 d, .string s] w (Tells (.int .i64 1) w) := by
  have HC := Lib.hid (checkDir_nil w d)
  go_enter Try.func12, Try.ntmps12
  go_wp2_with fail
  refine HC.out.mono ?_
  rintro e w1 ⟨rfl, hb⟩
  go_wp2_with fail
  go_ret
  exact ⟨rfl, hb⟩
theorem move_nil (w : World) (d : Int) (s : ByteArray) (k : Int) (x : ByteArray) : Calls Try.prog 20 #[.pointer none, .int .i64 d, .string s, .int .i64 k, .string x] w (Tells (.int .i64 1) w) := by
  have HC := Lib.hid (checkDir_nil w d)
  go_enter Try.func20, Try.ntmps20
  go_wp2_with fail
  refine HC.out.mono ?_
  rintro e w1 ⟨rfl, hb⟩
  go_wp2_with fail
  go_ret
  exact ⟨rfl, hb⟩
theorem noTree : NoTree := ⟨put_nil, set_nil, cut_nil, move_nil, kind_nil, data_nil, list_nil_tree, up_nil, len_nil_tree, copy_nil⟩

/-! the laws -/
theorem treeDoes_law (w : World) (v : Value) (L : List Ac) (h : Acts w.heap.size w v L) : Calls Try.prog 3 #[v] w fun e w' => e = .returned (.bool true) ∧ Below w.heap.size w w' := treeDoes_over trees w v L h
theorem treeWhole_law (w : World) (v : Value) (L : List Ac) (h : Acts w.heap.size w v L) : Calls Try.prog 4 #[v] w fun e w' => e = .returned (.bool true) ∧ Below w.heap.size w w' := treeWhole_over trees w v L h
theorem treeNone_law (w : World) (x : Ac) : Calls Try.prog 5 #[.agg #[.int .i64 x.act, .int .i64 x.dir, .int .i64 x.to, .string ⟨x.name.toArray⟩, .string ⟨x.alias.toArray⟩, .int .i64 x.kind, .string ⟨x.data.toArray⟩]] w fun e w' => e = .returned (.bool true) ∧ Below w.heap.size w w' := treeNone_over trees noTree w x
end Go.Proofs.Ytelphegeeiocnaa.W07
