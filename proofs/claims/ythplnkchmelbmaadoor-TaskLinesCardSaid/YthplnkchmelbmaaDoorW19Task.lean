/-
  Layer 19 (task), a walk: the program's taskOf: which task a line tells. The conditions stand in the statement.
-/
import Derived.Test.YthplnkchmelbmaaDoorW19Cut
import Derived.Test.YthplnkchmelbmaaDoorW19Verbs
import Derived.Test.YthplnkchmelbmaaDoorW19Bare
import Derived.Test.YthplnkchmelbmaaDoorW19Right
import Derived.Laws.ResultCell
import Derived.Laws.NewBlocks
namespace Go.Proofs.YthplnkchmelbmaaDoor.W19
set_option maxRecDepth 100000
open Go Go.RowKit Go.Proofs.YthplnkchmelbmaaDoor.M19
open Go.Proofs.YthplnkchmelbmaaDoor.W09 (Tk)
open Go.Proofs.YthplnkchmelbmaaDoor.Kit (ret_str ret_bool ret_int mk_of mk_bytes ba_ext below_draws on)

/-- block b holds a task -/
def TaskBox (W : World) (b : Nat) (k : Int) (p t : ByteArray) : Prop := W.heap[b]? = some (.cells #[.int .i64 k, .string p, .string t] 23 (0, 0))
section
variable {W W' : World} {b : Nat} {k : Int} {p t : ByteArray}
theorem TaskBox.c0 (h : TaskBox W b k p t) : W.cell? ⟨b, 0, none⟩ = some (.int .i64 k) := by simp [World.cell?, show W.heap[b]? = _ from h]
theorem TaskBox.c1 (h : TaskBox W b k p t) : W.cell? ⟨b, 1, none⟩ = some (.string p) := by simp [World.cell?, show W.heap[b]? = _ from h]
theorem TaskBox.c2 (h : TaskBox W b k p t) : W.cell? ⟨b, 2, none⟩ = some (.string t) := by simp [World.cell?, show W.heap[b]? = _ from h]
theorem TaskBox.fr (h : TaskBox W b k p t) (j : Nat) : W.frozen? ⟨b, j, none⟩ = false := frozen_of_row W _ j _ _ h
theorem TaskBox.lt (h : TaskBox W b k p t) : b < W.heap.size := cell_in h.c0
theorem TaskBox.below (h : TaskBox W b k p t) (hb : Below W.heap.size W W') : TaskBox W' b k p t := (hb.block b h.lt).trans h
theorem box_new (w : World) (k : Int) (p t : ByteArray) : TaskBox (w.alloc (.cells #[.int .i64 k, .string p, .string t] 23)) w.heap.size k p t := by
  show (w.heap.push _)[w.heap.size]? = _
  simp
end
theorem below_new (w : World) (o : Obj) : Below w.heap.size w (w.alloc o) := (Below.refl _ w).alloc (Nat.le_refl _) o
theorem below_set {w W : World} {b : Nat} (h : Below w.heap.size w W) (hb : w.heap.size ≤ b) (v0 v1 v2 : Value) : Below w.heap.size w (((W.setCell ⟨b, 0, none⟩ v0).setCell ⟨b, 1, none⟩ v1).setCell ⟨b, 2, none⟩ v2) :=
  ((h.setCell hb v0).setCell hb v1).setCell hb v2
theorem results_cell_one_tmp {fn : Func} {p t : Tmp} {ty : TypeId} (h : fn.results = #[.cell p ty, .tmp t]) (tmps : Array Value) (P : Program) (w : World) :
    (results fn tmps).run P w = ((asAddr (tmps.getD p undef)).run P w).andThen fun a w₁ => ((loadVar ty a).run P w₁).andThen fun v w₂ => .ok (.tuple #[v, tmps.getD t undef]) w₂ := by
  simp only [results, h]
  simp [Sem.run_bind, Result.andThen]
/-- what taskOf returns -/
def Tasked (w : World) (l : Bytes) (e : Ending) (w' : World) : Prop := ∃ (k : Int) (p t : ByteArray) (o : Bool), e = .returned (.tuple #[taskV k p t, .bool o]) ∧ Split l ⟨k, p.data.toList, t.data.toList⟩ o ∧ Below w.heap.size w w'
theorem cut_size {s a b : ByteArray} {o : Bool} (h : CutAt s.data.toList a.data.toList b.data.toList o) : a.size ≤ s.size ∧ b.size ≤ s.size := by
  rw [Lib.size_eq, Lib.size_eq, Lib.size_eq]
  rcases h with ⟨-, -, h⟩ | ⟨-, h1, h2, -⟩
  · rw [h, List.length_append, List.length_cons]; omega
  · rw [h1, h2]; simp
set_option maxHeartbeats 4000000 in
theorem taskOf_any (s : ByteArray) (hs : s.size ≤ 2147483648) (w : World) (hv : Verbs w) : Calls Tryd.prog 25 #[.string s] w (Tasked w s.data.toList) := by
  have HC1 := Lib.hid (fun w => cut_any s (by omega) w)
  obtain ⟨U, hU⟩ : ∃ U, w.alloc (.cells #[.int .i64 0, .string ⟨#[]⟩, .string ⟨#[]⟩] 23) = U := ⟨_, rfl⟩
  have TB := Lib.hid (hU ▸ box_new w 0 ⟨#[]⟩ ⟨#[]⟩)
  have HBU := Lib.hid (hU ▸ below_new w (.cells #[.int .i64 0, .string ⟨#[]⟩, .string ⟨#[]⟩] 23))
  have HVU := Lib.hid (hv.on HBU.out)
  clear hv
  go_enter Tryd.func25, Tryd.ntmps25
  go_wp2_with fail
  refine (HC1.out _).mono ?_
  rintro e w1 ⟨a, b, o, rfl, hc, n, rfl⟩
  have HC := Lib.hid hc
  have HS := Lib.hid (cut_size hc)
  clear hc hU
  have B1 := Lib.hid (on HBU.out (below_draws U n))
  have T1 := Lib.hid (TB.out.below (below_draws U n))
  have V1 := Lib.hid (HVU.out.on (below_draws U n))
  generalize U.drewN n = w1 at B1 T1 V1 ⊢
  clear HBU TB HVU HC1
  go_wp2_with fail
  refine (kindOf_any a _ V1.out).mono ?_
  rintro e w2 ⟨k, o2, rfl, hk, rfl⟩
  have HK := Lib.hid hk
  clear hk
  cases o with
  | false =>
    have HE : Hid (∀ x, Split s.data.toList x false) := fun x => by
      rcases HC.out with ⟨h, -⟩ | ⟨-, -, -, h⟩
      · cases h
      · exact split_blank h x
    have c0 := T1.out.c0
    have c1 := T1.out.c1
    have c2 := T1.out.c2
    have f0 := T1.out.fr 0
    have f1 := T1.out.fr 1
    have f2 := T1.out.fr 2
    go_wp2_with fail
    refine bodyPost_ret_by (v := .tuple #[taskV 0 ⟨#[]⟩ ⟨#[]⟩, .bool false]) ?_ rfl ?_
    · rw [results_cell_one_tmp rfl]
      go_simp
      rfl
    · exact ⟨0, ⟨#[]⟩, ⟨#[]⟩, false, rfl, HE.out _, below_set B1.out (Nat.le_refl _) _ _ _⟩
  | true =>
    obtain ⟨hab, hse⟩ : bare a.data.toList ∧ s.data.toList = a.data.toList ++ 32 :: b.data.toList := by
      rcases HC.out with ⟨-, h, h2⟩ | ⟨h, -⟩
      · exact ⟨h, h2⟩
      · cases h
    have HAB := Lib.hid (And.intro hab hse)
    clear hab hse
    cases o2 with
    | false =>
      have HE : Hid (∀ x, Split s.data.toList x false) := fun x => by
        rcases HK.out with ⟨h, -⟩ | ⟨-, -, h⟩
        · cases h
        · rw [HAB.out.2]; exact split_verb HAB.out.1 h x
      have c0 := T1.out.c0
      have c1 := T1.out.c1
      have c2 := T1.out.c2
      have f0 := T1.out.fr 0
      have f1 := T1.out.fr 1
      have f2 := T1.out.fr 2
      go_wp2_with fail
      refine bodyPost_ret_by (v := .tuple #[taskV 0 ⟨#[]⟩ ⟨#[]⟩, .bool false]) ?_ rfl ?_
      · rw [results_cell_one_tmp rfl]
        go_simp
        rfl
      · exact ⟨0, ⟨#[]⟩, ⟨#[]⟩, false, rfl, HE.out _, below_set B1.out (Nat.le_refl _) _ _ _⟩
    | true =>
      obtain ⟨hkk, hav⟩ : Kind k ∧ a.data.toList = verb k := by
        rcases HK.out with ⟨-, h, h2⟩ | ⟨h, -⟩
        · exact ⟨h, h2⟩
        · cases h
      have HL : Hid (Kind k ∧ s.data.toList = verb k ++ 32 :: b.data.toList) := ⟨hkk, by rw [← hav]; exact HAB.out.2⟩
      have hbs : b.size ≤ 2147483648 := by have := HS.out.2; omega
      have HC2 := Lib.hid (fun w => cut_any b (by omega) w)
      clear hkk hav HAB HK HC
      go_wp2_with fail
      refine (HC2.out _).mono ?_
      rintro e w3 ⟨f, g, two, rfl, hc, n, rfl⟩
      have HF := Lib.hid hc
      have hfs : f.size ≤ 2147483648 := by have := (cut_size hc).1; omega
      have hgs : g.size ≤ 2147483648 := by have := (cut_size hc).2; omega
      clear hc HC2
      have B2 := Lib.hid (on B1.out (below_draws w2 n))
      have T2 := Lib.hid (T1.out.below (below_draws w2 n))
      generalize w2.drewN n = w3 at B2 T2 ⊢
      clear B1 T1 V1
      have HH := Lib.hid (fun w => has_any k w)
      go_wp2_with fail
      refine (HH.out _).mono ?_
      rintro e w3 ⟨rfl, rfl⟩
      cases hh : has k with
      | false =>
        cases two with
        | true =>
          have HE : Hid (∀ x, Split s.data.toList x false) := fun x => by
            rcases HF.out with ⟨-, -, h⟩ | ⟨h, -⟩
            · rw [HL.out.2, h]; exact split_more HL.out.1 hh x
            · cases h
          have c0 := T2.out.c0
          have c1 := T2.out.c1
          have c2 := T2.out.c2
          have f0 := T2.out.fr 0
          have f1 := T2.out.fr 1
          have f2 := T2.out.fr 2
          go_wp2_with fail
          refine bodyPost_ret_by (v := .tuple #[taskV 0 ⟨#[]⟩ ⟨#[]⟩, .bool false]) ?_ rfl ?_
          · rw [results_cell_one_tmp rfl]
            go_simp
            rfl
          · exact ⟨0, ⟨#[]⟩, ⟨#[]⟩, false, rfl, HE.out _, below_set B2.out (Nat.le_refl _) _ _ _⟩
        | false =>
          obtain ⟨hf, hg⟩ : f.data.toList = b.data.toList ∧ g.data.toList = [] := by
            rcases HF.out with ⟨h, -⟩ | ⟨-, h, h2, -⟩
            · cases h
            · exact ⟨h, h2⟩
          have HX : Hid (∀ (d t : Bytes) (o p : Bool), WordOf f.data.toList d o → WordOf g.data.toList t p → Split s.data.toList ⟨k, d, t⟩ (o && p)) := fun d t o p h1 h2 => by
            rw [hg] at h2
            obtain ⟨rfl, rfl⟩ := wordOf_one h2 (wordOf_shield [])
            rw [HL.out.2, Bool.and_true]
            exact split_one HL.out.1 hh (hf ▸ h1)
          clear hf hg HF HL hh
          have HB1 := Lib.hid (fun w => bare_any f (by omega) w)
          have HB2 := Lib.hid (fun w => bare_any g (by omega) w)
          go_wp2_with fail
          refine (HB1.out _).mono ?_
          rintro e w3 ⟨d, o, rfl, ho, hb⟩
          have W1 := Lib.hid ho
          have B3 := Lib.hid (on B2.out hb)
          have T3 := Lib.hid (T2.out.below hb)
          clear ho hb B2 T2 HB1
          go_wp2_with fail
          refine (HB2.out _).mono ?_
          rintro e w4 ⟨t, p, rfl, ho, hb⟩
          have B4 := Lib.hid (on B3.out hb)
          have T4 := Lib.hid (T3.out.below hb)
          have HE := Lib.hid (HX.out _ _ _ _ W1.out ho)
          clear ho hb B3 T3 HB2 HX W1
          have c0 := T4.out.c0
          have c1 := T4.out.c1
          have c2 := T4.out.c2
          have f0 := T4.out.fr 0
          have f1 := T4.out.fr 1
          have f2 := T4.out.fr 2
          cases o with
          | false =>
            go_wp2_with fail
            refine bodyPost_ret_by (v := .tuple #[taskV k d t, .bool false]) ?_ rfl ?_
            · rw [results_cell_one_tmp rfl]
              go_simp
              rfl
            · exact ⟨k, d, t, false, rfl, HE.out, below_set B4.out (Nat.le_refl _) _ _ _⟩
          | true =>
            go_wp2_with fail
            refine bodyPost_ret_by (v := .tuple #[taskV k d t, .bool p]) ?_ rfl ?_
            · rw [results_cell_one_tmp rfl]
              go_simp
              rfl
            · exact ⟨k, d, t, p, rfl, HE.out, below_set B4.out (Nat.le_refl _) _ _ _⟩
      | true =>
        cases two with
        | false =>
          have HE : Hid (∀ x, Split s.data.toList x false) := fun x => by
            rcases HF.out with ⟨h, -⟩ | ⟨-, -, -, h⟩
            · cases h
            · rw [HL.out.2]; exact split_less HL.out.1 hh h x
          have c0 := T2.out.c0
          have c1 := T2.out.c1
          have c2 := T2.out.c2
          have f0 := T2.out.fr 0
          have f1 := T2.out.fr 1
          have f2 := T2.out.fr 2
          go_wp2_with fail
          refine bodyPost_ret_by (v := .tuple #[taskV 0 ⟨#[]⟩ ⟨#[]⟩, .bool false]) ?_ rfl ?_
          · rw [results_cell_one_tmp rfl]
            go_simp
            rfl
          · exact ⟨0, ⟨#[]⟩, ⟨#[]⟩, false, rfl, HE.out _, below_set B2.out (Nat.le_refl _) _ _ _⟩
        | true =>
          have HX : Hid (∀ (d t : Bytes) (o p : Bool), WordOf f.data.toList d o → WordOf g.data.toList t p → Split s.data.toList ⟨k, d, t⟩ (o && p)) := fun d t o p h1 h2 => by
            rcases HF.out with ⟨-, hbf, h⟩ | ⟨h, -⟩
            · rw [HL.out.2, h]; exact split_two HL.out.1 hh hbf h1 h2
            · cases h
          clear HF HL hh
          have HB1 := Lib.hid (fun w => bare_any f (by omega) w)
          have HB2 := Lib.hid (fun w => bare_any g (by omega) w)
          go_wp2_with fail
          refine (HB1.out _).mono ?_
          rintro e w3 ⟨d, o, rfl, ho, hb⟩
          have W1 := Lib.hid ho
          have B3 := Lib.hid (on B2.out hb)
          have T3 := Lib.hid (T2.out.below hb)
          clear ho hb B2 T2 HB1
          go_wp2_with fail
          refine (HB2.out _).mono ?_
          rintro e w4 ⟨t, p, rfl, ho, hb⟩
          have B4 := Lib.hid (on B3.out hb)
          have T4 := Lib.hid (T3.out.below hb)
          have HE := Lib.hid (HX.out _ _ _ _ W1.out ho)
          clear ho hb B3 T3 HB2 HX W1
          have c0 := T4.out.c0
          have c1 := T4.out.c1
          have c2 := T4.out.c2
          have f0 := T4.out.fr 0
          have f1 := T4.out.fr 1
          have f2 := T4.out.fr 2
          cases o with
          | false =>
            go_wp2_with fail
            refine bodyPost_ret_by (v := .tuple #[taskV k d t, .bool false]) ?_ rfl ?_
            · rw [results_cell_one_tmp rfl]
              go_simp
              rfl
            · exact ⟨k, d, t, false, rfl, HE.out, below_set B4.out (Nat.le_refl _) _ _ _⟩
          | true =>
            go_wp2_with fail
            refine bodyPost_ret_by (v := .tuple #[taskV k d t, .bool p]) ?_ rfl ?_
            · rw [results_cell_one_tmp rfl]
              go_simp
              rfl
            · exact ⟨k, d, t, p, rfl, HE.out, below_set B4.out (Nat.le_refl _) _ _ _⟩
end Go.Proofs.YthplnkchmelbmaaDoor.W19
