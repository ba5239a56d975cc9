/-
  Layer 7 (tree), walks: the plain answers At, In, dir, may: what each returns; new memory may be laid, nothing that was there is changed.
-/
import Derived.Test.YtelphegeeiocnaaW07Math
import Derived.Test.YtelphegeeiocnaaW06More
import Derived.Deep.RegionHeld3
namespace Go.Proofs.Ytelphegeeiocnaa.W07
open Go Go.RowKit Go.Proofs.Ytelphegeeiocnaa.Strs Go.Proofs.Ytelphegeeiocnaa.Recs Go.Proofs.Ytelphegeeiocnaa.M07
open Go.Proofs.Ytelphegeeiocnaa.M06 (Ent)
open Go.Proofs.Ytelphegeeiocnaa.W03 (less_bytes same_bytes)
open Go.Proofs.Ytelphegeeiocnaa.Kit (ret_str ret_bool ret_int mk_of mk_bytes ba_ext below_draws on list_full list_ne list_none list_nil bytes_nil bytes_cons)

/-- a node's cells -/
def nodeC (x : Nd) : List Value := [.int .i64 x.num, .int .i64 x.up, strV x.name, .int .i64 x.kind, strV x.data]
def nodeV (x : Nd) : Value := .agg #[.int .i64 x.num, .int .i64 x.up, .string ⟨x.name.toArray⟩, .int .i64 x.kind, .string ⟨x.data.toArray⟩]
theorem nodeC_len (x : Nd) : (nodeC x).length = 5 := rfl
abbrev Nodes (B : Nat) (w : World) (v : Value) (L : List Nd) : Prop := Recs nodeC 5 B w v L
theorem Nodes.at_ {B : Nat} {w : World} {L : List Nd} {A : Option Addr} {n c : Nat} (h : Nodes B w (.slice A n c) L) {k : Nat} (hk : k < n) : ∃ (b o : Nat) (hl : k < L.length), A = some ⟨b, o, none⟩ ∧ b < B ∧ w.cell? ⟨b, o + k * 5, none⟩ = some (.int .i64 (L[k]).num) ∧ w.cell? ⟨b, o + k * 5 + 1, none⟩ = some (.int .i64 (L[k]).up) ∧ w.cell? ⟨b, o + k * 5 + 2, none⟩ = some (.string ⟨(L[k]).name.toArray⟩) ∧ w.cell? ⟨b, o + k * 5 + 3, none⟩ = some (.int .i64 (L[k]).kind) ∧ w.cell? ⟨b, o + k * 5 + 4, none⟩ = some (.string ⟨(L[k]).data.toArray⟩) := by
  obtain ⟨b, o, hl, rfl, hb, hc⟩ := Recs.flat_ h nodeC_len (by omega) hk
  exact ⟨b, o, hl, rfl, hb, hc 0 (by omega), hc 1 (by omega), hc 2 (by omega), hc 3 (by omega), hc 4 (by omega)⟩
/-- a tree's value, and what it reads as -/
def TreeV (B : Nat) (w : World) (tv : Value) (t : Tr) : Prop := ∃ v, tv = .agg #[v, .int .i64 t.last] ∧ Nodes B w v t.L

theorem results_cell_one {fn : Func} {p : Tmp} {ty : TypeId} (h : fn.results = #[.cell p ty]) (tmps : Array Value) (P : Program) (w : World) :
    (results fn tmps).run P w = ((asAddr (tmps.getD p undef)).run P w).andThen fun a w₁ => ((loadVar ty a).run P w₁).andThen fun v w₂ => .ok v w₂ := by
  simp only [results, h]
  simp [Sem.run_bind, Result.andThen]
  split
  · split <;> simp_all
  · rfl

theorem below_two (w : World) (o1 o2 : Obj) : Below w.heap.size w ((w.alloc o1).alloc o2) := ((Below.refl w.heap.size w).alloc (Nat.le_refl _) o1).alloc (by simp) o2
theorem below_one (w : World) (o1 : Obj) : Below w.heap.size w (w.alloc o1) := (Below.refl w.heap.size w).alloc (Nat.le_refl _) o1

set_option maxHeartbeats 2000000 in
theorem refAt_any (v : Value) (L : List Nd) (last n : Int) (B : Nat) (w : World) (h : Nodes B w v L) (hB : B ≤ w.heap.size) (hn : L.length ≤ 1099511627776) :
    Calls Try.prog 34 #[.agg #[v, .int .i64 last], .int .i64 n] w fun e w' => e = .returned (nodeV (nodeAt L n)) ∧ Below w.heap.size w w' := by
  have H := Lib.hid h
  obtain ⟨A, c, rfl, hA1, hA2⟩ := h.form
  unfold maxLen at hA2
  clear h
  generalize hm : L.length = m at *
  have HM := Lib.hid hm
  clear hm
  go_enter Try.func34, Try.ntmps34
  go_wp2_with fail
  go_loopw [5] (fun i wr => ∃ k : Nat, k ≤ m ∧ i = .int .i64 k ∧ Hid (nodeAt L n = nodeAt (L.drop k) n) ∧ wr = (w.alloc (.cells #[.slice A m c, .int .i64 last] 29)).alloc (.cells #[.int .i64 0, .int .i64 0, .string ⟨#[]⟩, .int .i64 0, .string ⟨#[]⟩] 56)) (fun i _ => m - (intOf i).toNat)
  case atStart => exact ⟨0, Nat.zero_le _, rfl, rfl, rfl⟩
  case round =>
    obtain ⟨k, hk, rfl, hr, rfl⟩ := hrel
    by_cases hlt : k < m
    · obtain ⟨b, o, hl1, rfl, hbl, hc0, hc1, hc2, hc3, hc4⟩ := Nodes.at_ H.out hlt
      have hbw : b < w.heap.size := by omega
      by_cases hnum : (L[k]).num = n
      · have t1 : ((L[k]).num == n) = true := by simpa using hnum
        have HX := Lib.hid (hr.out.trans (at_here hl1 hnum))
        clear hnum
        go_wp2_with fail
        refine bodyPost_ret_by (v := nodeV L[k]) ?_ rfl ⟨by rw [HX.out], ?_⟩
        · rw [results_cell_one rfl]
          go_simp
          rfl
        · exact below_two w _ _
      · have t1 : ((L[k]).num == n) = false := by simpa using hnum
        have HX := Lib.hid (hr.out.trans (at_on hl1 hnum))
        clear hnum
        go_wp2_with fail
        go_roundw
        case rel => exact ⟨k + 1, by omega, by go_num, HX, by trivial⟩
        case measure => simp [intOf]; omega
    · have HX := Lib.hid (hr.out.trans (at_end (by rw [HM.out]; exact hlt)))
      go_wp2_with fail
      refine bodyPost_ret_by (v := nodeV zero) ?_ rfl ⟨by rw [HX.out], ?_⟩
      · rw [results_cell_one rfl]
        go_simp
        rfl
      · exact below_two w _ _

/-! ### dir and may -/
theorem field_num (a b : Int) (c : ByteArray) (k : Int) (d : ByteArray) (w : World) : (Instr.field 56 (.agg #[.int .i64 a, .int .i64 b, .string c, .int .i64 k, .string d]) 0).run Try.prog w = .ok (.int .i64 a) w := by kernel_rfl
theorem field_up (a b : Int) (c : ByteArray) (k : Int) (d : ByteArray) (w : World) : (Instr.field 56 (.agg #[.int .i64 a, .int .i64 b, .string c, .int .i64 k, .string d]) 1).run Try.prog w = .ok (.int .i64 b) w := by kernel_rfl
theorem field_kind (a b : Int) (c : ByteArray) (k : Int) (d : ByteArray) (w : World) : (Instr.field 56 (.agg #[.int .i64 a, .int .i64 b, .string c, .int .i64 k, .string d]) 3).run Try.prog w = .ok (.int .i64 k) w := by kernel_rfl
theorem field_data (a b : Int) (c : ByteArray) (k : Int) (d : ByteArray) (w : World) : (Instr.field 56 (.agg #[.int .i64 a, .int .i64 b, .string c, .int .i64 k, .string d]) 4).run Try.prog w = .ok (.string d) w := by kernel_rfl
theorem refDir_any (v : Value) (L : List Nd) (last n : Int) (B : Nat) (w : World) (h : Nodes B w v L) (hB : B ≤ w.heap.size) (hn : L.length ≤ 1099511627776) :
    Calls Try.prog 44 #[.agg #[v, .int .i64 last], .int .i64 n] w fun e w' => e = .returned (.int .i64 (dirErr L n)) ∧ Below w.heap.size w w' := by
  obtain ⟨A, c, rfl, hA1, hA2⟩ := h.form
  have HA := Lib.hid (refAt_any _ L last n B (w.alloc (.cells #[.slice A L.length c, .int .i64 last] 29)) (h.alloc hB _) (by simp; omega) hn)
  clear h
  have HD : Hid (dirErr L n = if (nodeAt L n).kind = 0 then 5 else if (nodeAt L n).kind = 1 then 0 else 7) := rfl
  generalize dirErr L n = r at *
  generalize nodeAt L n = x at *
  unfold nodeV at HA
  have kf := field_kind x.num x.up ⟨x.name.toArray⟩ x.kind ⟨x.data.toArray⟩
  go_enter Try.func44, Try.ntmps44
  by_cases h0 : x.kind = 0
  · have t0 : (x.kind == 0) = true := by simpa using h0
    have HX : Hid (r = 5) := by have := HD.out; rw [if_pos h0] at this; exact this
    clear h0
    go_wp2_with fail
    refine HA.out.mono ?_
    rintro e w1 ⟨rfl, hb⟩
    have B1 := Lib.hid ((below_one w _).trans (hb.mono (by simp)))
    clear hb
    go_wp2_with fail
    go_ret
    exact ⟨ret_int HX.out.symm, B1.out⟩
  · have t0 : (x.kind == 0) = false := by simpa using h0
    by_cases h1 : x.kind = 1
    · have t1 : (x.kind == 1) = true := by simpa using h1
      have HX : Hid (r = 0) := by have := HD.out; rw [if_neg h0, if_pos h1] at this; exact this
      clear h0 h1
      go_wp2_with fail
      refine HA.out.mono ?_
      rintro e w1 ⟨rfl, hb⟩
      have B1 := Lib.hid ((below_one w _).trans (hb.mono (by simp)))
      clear hb
      go_wp2_with fail
      go_ret
      exact ⟨ret_int HX.out.symm, B1.out⟩
    · have t1 : (x.kind == 1) = false := by simpa using h1
      have HX : Hid (r = 7) := by have := HD.out; rw [if_neg h0, if_neg h1] at this; exact this
      clear h0 h1
      go_wp2_with fail
      refine HA.out.mono ?_
      rintro e w1 ⟨rfl, hb⟩
      have B1 := Lib.hid ((below_one w _).trans (hb.mono (by simp)))
      clear hb
      go_wp2_with fail
      go_ret
      exact ⟨ret_int HX.out.symm, B1.out⟩
set_option maxHeartbeats 400000 in
theorem refMay_any (kind : Int) (s : ByteArray) (hs : s.size ≤ maxLen) (w : World) :
    Calls Try.prog 47 #[.int .i64 kind, .string s] w fun e w' => e = .returned (.int .i64 (mayErr kind s.data.toList)) ∧ w' = w := by
  unfold maxLen at hs
  have HL := Lib.hid (Lib.size_eq s)
  by_cases h1 : kind < 1
  · have HX : Hid (mayErr kind s.data.toList = 2) := if_pos (Or.inl h1)
    generalize mayErr kind s.data.toList = r at *
    go_enter Try.func47, Try.ntmps47
    go_wp2_with fail
    go_ret
    exact ⟨ret_int HX.out.symm, rfl⟩
  · by_cases h3 : 3 < kind
    · have HX : Hid (mayErr kind s.data.toList = 2) := if_pos (Or.inr h3)
      generalize mayErr kind s.data.toList = r at *
      go_enter Try.func47, Try.ntmps47
      go_wp2_with fail
      go_ret
      exact ⟨ret_int HX.out.symm, rfl⟩
    · have HM : Hid (mayErr kind s.data.toList = if (kind = 1 ∧ s.data.toList ≠ []) ∨ (kind = 3 ∧ s.data.toList = []) then 3 else if 65536 < s.data.toList.length then 4 else 0) := if_neg (by omega)
      by_cases h0 : 0 < s.size
      · have hf := list_full h0
        have hn := list_ne h0
        have hne : s.data.toList ≠ [] := Kit.bytes_ne h0
        by_cases k1 : kind = 1
        · have HX : Hid (mayErr kind s.data.toList = 3) := HM.out.trans (if_pos (Or.inl ⟨k1, hne⟩))
          generalize mayErr kind s.data.toList = r at *
          subst k1
          clear hne
          go_enter Try.func47, Try.ntmps47
          go_wp2_with fail
          go_ret
          exact ⟨ret_int HX.out.symm, rfl⟩
        · have HM2 : Hid (mayErr kind s.data.toList = if 65536 < s.data.toList.length then 4 else 0) := HM.out.trans (if_neg (by rintro (e | e); exact k1 e.1; exact hne e.2))
          have t1 : (kind == 1) = false := by simpa using k1
          clear hne HM
          by_cases hbig : (65536 : Int) < s.size
          · have HX : Hid (mayErr kind s.data.toList = 4) := HM2.out.trans (if_pos (by rw [← HL.out]; omega))
            generalize mayErr kind s.data.toList = r at *
            cases k3 : (kind == 3) <;>
            · go_enter Try.func47, Try.ntmps47
              go_wp2_with fail
              go_ret
              exact ⟨ret_int HX.out.symm, rfl⟩
          · have HX : Hid (mayErr kind s.data.toList = 0) := HM2.out.trans (if_neg (by rw [← HL.out]; omega))
            generalize mayErr kind s.data.toList = r at *
            cases k3 : (kind == 3) <;>
            · go_enter Try.func47, Try.ntmps47
              go_wp2_with fail
              go_ret
              exact ⟨ret_int HX.out.symm, rfl⟩
      · have hf := list_none h0
        have hn := list_nil h0
        have hne : s.data.toList = [] := bytes_nil h0
        have hz : (s.size : Int) ≤ 65536 := by omega
        by_cases k3 : kind = 3
        · have HX : Hid (mayErr kind s.data.toList = 3) := HM.out.trans (if_pos (Or.inr ⟨k3, hne⟩))
          generalize mayErr kind s.data.toList = r at *
          subst k3
          clear hne
          go_enter Try.func47, Try.ntmps47
          go_wp2_with fail
          go_ret
          exact ⟨ret_int HX.out.symm, rfl⟩
        · have HX : Hid (mayErr kind s.data.toList = 0) := HM.out.trans ((if_neg (by rintro (e | e); exact e.2 hne; exact k3 e.1)).trans (if_neg (by rw [← HL.out]; omega)))
          have t3 : (kind == 3) = false := by simpa using k3
          generalize mayErr kind s.data.toList = r at *
          clear hne k3 HM
          cases k1 : (kind == 1) <;>
          · go_enter Try.func47, Try.ntmps47
            go_wp2_with fail
            go_ret
            exact ⟨ret_int HX.out.symm, rfl⟩
end Go.Proofs.Ytelphegeeiocnaa.W07
