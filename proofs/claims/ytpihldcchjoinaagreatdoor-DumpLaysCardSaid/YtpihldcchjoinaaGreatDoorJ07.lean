/-
  Texts joined, in build order, each with its own comment and its own conditions: W07Walk, W07List, W07With, W07Set, W07Cut.
-/
import Derived.Test.YtpihldcchjoinaaGreatDoorJ01
import Derived.Test.YtpihldcchjoinaaGreatDoorJ06
import Derived.Deep.RegionHeld3
/-
  Layer 7 (tree), walks: the plain answers At, In, dir, may: what each returns; new memory may be laid, nothing that was there is changed.
-/
namespace Go.Proofs.YtpihldcchjoinaaGreatDoor.W07
set_option maxRecDepth 100000
open Go Go.RowKit Go.Proofs.YtpihldcchjoinaaGreatDoor.Strs Go.Proofs.YtpihldcchjoinaaGreatDoor.Recs Go.Proofs.YtpihldcchjoinaaGreatDoor.M07
open Go.Proofs.YtpihldcchjoinaaGreatDoor.M06 (Ent)
open Go.Proofs.YtpihldcchjoinaaGreatDoor.W03 (less_bytes same_bytes)
open Go.Proofs.YtpihldcchjoinaaGreatDoor.Kit (ret_str ret_bool ret_int mk_of mk_bytes ba_ext below_draws on list_full list_ne list_none list_nil bytes_nil bytes_cons)

/-- a node's cells -/
def nodeC (x : Nd) : List Value := [.int .i64 x.num, .int .i64 x.up, strV x.name, .int .i64 x.kind, strV x.data]
def nodeV (x : Nd) : Value := .agg #[.int .i64 x.num, .int .i64 x.up, .string ⟨x.name.toArray⟩, .int .i64 x.kind, .string ⟨x.data.toArray⟩]
theorem nodeC_len (x : Nd) : (nodeC x).length = 5 := rfl
abbrev Nodes (B : Nat) (w : World) (v : Value) (L : List Nd) : Prop := Recs nodeC 5 B w v L
theorem Nodes.at_ {B : Nat} {w : World} {L : List Nd} {A : Option Addr} {n c : Nat} (h : Nodes B w (.slice A n c) L) {k : Nat} (hk : k < n) : ∃ (b o : Nat) (hl : k < L.length), A = some ⟨b, o, none⟩ ∧ b < B ∧ w.cell? ⟨b, o + k * 5, none⟩ = some (.int .i64 (L[k]).num) ∧ w.cell? ⟨b, o + k * 5 + 1, none⟩ = some (.int .i64 (L[k]).up) ∧ w.cell? ⟨b, o + k * 5 + 2, none⟩ = some (.string ⟨(L[k]).name.toArray⟩) ∧ w.cell? ⟨b, o + k * 5 + 3, none⟩ = some (.int .i64 (L[k]).kind) ∧ w.cell? ⟨b, o + k * 5 + 4, none⟩ = some (.string ⟨(L[k]).data.toArray⟩) := by
  obtain ⟨b, o, hl, rfl, hb, hc⟩ := Recs.flat_ h nodeC_len (by omega) hk
  exact ⟨b, o, hl, rfl, hb, hc 0 (by omega), hc 1 (by omega), hc 2 (by omega), hc 3 (by omega), hc 4 (by omega)⟩
theorem results_cell_one {fn : Func} {p : Tmp} {ty : TypeId} (h : fn.results = #[.cell p ty]) (tmps : Array Value) (P : Program) (w : World) :
    (results fn tmps).run P w = ((asAddr (tmps.getD p undef)).run P w).andThen fun a w₁ => ((loadVar ty a).run P w₁).andThen fun v w₂ => .ok v w₂ := by
  simp only [results, h]
  simp [Sem.run_bind, Result.andThen]
  split
  · split <;> simp_all
  · rfl

theorem below_two (w : World) (o1 o2 : Obj) : Below w.heap.size w ((w.alloc o1).alloc o2) := ((Below.refl w.heap.size w).alloc (Nat.le_refl _) o1).alloc (by simp) o2
theorem below_one (w : World) (o1 : Obj) : Below w.heap.size w (w.alloc o1) := (Below.refl w.heap.size w).alloc (Nat.le_refl _) o1

set_option maxHeartbeats 2000000 in
theorem refAt_any (v : Value) (L : List Nd) (last n : Int) (B : Nat) (w : World) (h : Nodes B w v L) (hB : B ≤ w.heap.size) (hn : L.length ≤ 1099511627776) :
    Calls Tryz.prog 41 #[.agg #[v, .int .i64 last], .int .i64 n] w fun e w' => e = .returned (nodeV (nodeAt L n)) ∧ Below w.heap.size w w' := by
  have H := Lib.hid h
  obtain ⟨A, c, rfl, hA1, hA2⟩ := h.form
  unfold maxLen at hA2
  clear h
  generalize hm : L.length = m at *
  have HM := Lib.hid hm
  clear hm
  go_enter Tryz.func41, Tryz.ntmps41
  go_wp2_with fail
  go_loopw [5] (fun i wr => ∃ k : Nat, k ≤ m ∧ i = .int .i64 k ∧ Hid (nodeAt L n = nodeAt (L.drop k) n) ∧ wr = (w.alloc (.cells #[.slice A m c, .int .i64 last] 28)).alloc (.cells #[.int .i64 0, .int .i64 0, .string ⟨#[]⟩, .int .i64 0, .string ⟨#[]⟩] 77)) (fun i _ => m - (intOf i).toNat)
  case atStart => exact ⟨0, Nat.zero_le _, rfl, rfl, rfl⟩
  case round =>
    obtain ⟨k, hk, rfl, hr, rfl⟩ := hrel
    by_cases hlt : k < m
    · obtain ⟨b, o, hl1, rfl, hbl, hc0, hc1, hc2, hc3, hc4⟩ := Nodes.at_ H.out hlt
      have hbw : b < w.heap.size := by omega
      by_cases hnum : (L[k]).num = n
      · have t1 : ((L[k]).num == n) = true := by simpa using hnum
        have HX := Lib.hid (hr.out.trans (at_here hl1 hnum))
        clear hnum
        go_wp2_with fail
        refine bodyPost_ret_by (v := nodeV L[k]) ?_ rfl ⟨by rw [HX.out], ?_⟩
        · rw [results_cell_one rfl]
          go_simp
          rfl
        · exact below_two w _ _
      · have t1 : ((L[k]).num == n) = false := by simpa using hnum
        have HX := Lib.hid (hr.out.trans (at_on hl1 hnum))
        clear hnum
        go_wp2_with fail
        go_roundw
        case rel => exact ⟨k + 1, by omega, by go_num, HX, by trivial⟩
        case measure => simp [intOf]; omega
    · have HX := Lib.hid (hr.out.trans (at_end (by rw [HM.out]; exact hlt)))
      go_wp2_with fail
      refine bodyPost_ret_by (v := nodeV zero) ?_ rfl ⟨by rw [HX.out], ?_⟩
      · rw [results_cell_one rfl]
        go_simp
        rfl
      · exact below_two w _ _

/-! ### dir and may -/
theorem field_up (a b : Int) (c : ByteArray) (k : Int) (d : ByteArray) (w : World) : (Instr.field 77 (.agg #[.int .i64 a, .int .i64 b, .string c, .int .i64 k, .string d]) 1).run Tryz.prog w = .ok (.int .i64 b) w := by kernel_rfl
theorem field_kind (a b : Int) (c : ByteArray) (k : Int) (d : ByteArray) (w : World) : (Instr.field 77 (.agg #[.int .i64 a, .int .i64 b, .string c, .int .i64 k, .string d]) 3).run Tryz.prog w = .ok (.int .i64 k) w := by kernel_rfl
theorem refDir_any (v : Value) (L : List Nd) (last n : Int) (B : Nat) (w : World) (h : Nodes B w v L) (hB : B ≤ w.heap.size) (hn : L.length ≤ 1099511627776) :
    Calls Tryz.prog 54 #[.agg #[v, .int .i64 last], .int .i64 n] w fun e w' => e = .returned (.int .i64 (dirErr L n)) ∧ Below w.heap.size w w' := by
  obtain ⟨A, c, rfl, hA1, hA2⟩ := h.form
  have HA := Lib.hid (refAt_any _ L last n B (w.alloc (.cells #[.slice A L.length c, .int .i64 last] 28)) (h.alloc hB _) (by simp; omega) hn)
  clear h
  have HD : Hid (dirErr L n = if (nodeAt L n).kind = 0 then 5 else if (nodeAt L n).kind = 1 then 0 else 7) := rfl
  generalize dirErr L n = r at *
  generalize nodeAt L n = x at *
  unfold nodeV at HA
  have kf := field_kind x.num x.up ⟨x.name.toArray⟩ x.kind ⟨x.data.toArray⟩
  go_enter Tryz.func54, Tryz.ntmps54
  by_cases h0 : x.kind = 0
  · have t0 : (x.kind == 0) = true := by simpa using h0
    have HX : Hid (r = 5) := by have := HD.out; rw [if_pos h0] at this; exact this
    clear h0
    go_wp2_with fail
    refine HA.out.mono ?_
    rintro e w1 ⟨rfl, hb⟩
    have B1 := Lib.hid ((below_one w _).trans (hb.mono (by simp)))
    clear hb
    go_wp2_with fail
    go_ret
    exact ⟨ret_int HX.out.symm, B1.out⟩
  · have t0 : (x.kind == 0) = false := by simpa using h0
    by_cases h1 : x.kind = 1
    · have t1 : (x.kind == 1) = true := by simpa using h1
      have HX : Hid (r = 0) := by have := HD.out; rw [if_neg h0, if_pos h1] at this; exact this
      clear h0 h1
      go_wp2_with fail
      refine HA.out.mono ?_
      rintro e w1 ⟨rfl, hb⟩
      have B1 := Lib.hid ((below_one w _).trans (hb.mono (by simp)))
      clear hb
      go_wp2_with fail
      go_ret
      exact ⟨ret_int HX.out.symm, B1.out⟩
    · have t1 : (x.kind == 1) = false := by simpa using h1
      have HX : Hid (r = 7) := by have := HD.out; rw [if_neg h0, if_neg h1] at this; exact this
      clear h0 h1
      go_wp2_with fail
      refine HA.out.mono ?_
      rintro e w1 ⟨rfl, hb⟩
      have B1 := Lib.hid ((below_one w _).trans (hb.mono (by simp)))
      clear hb
      go_wp2_with fail
      go_ret
      exact ⟨ret_int HX.out.symm, B1.out⟩
set_option maxHeartbeats 400000 in
theorem refMay_any (kind : Int) (s : ByteArray) (hs : s.size ≤ maxLen) (w : World) :
    Calls Tryz.prog 57 #[.int .i64 kind, .string s] w fun e w' => e = .returned (.int .i64 (mayErr kind s.data.toList)) ∧ w' = w := by
  unfold maxLen at hs
  have HL := Lib.hid (Lib.size_eq s)
  by_cases h1 : kind < 1
  · have HX : Hid (mayErr kind s.data.toList = 2) := if_pos (Or.inl h1)
    generalize mayErr kind s.data.toList = r at *
    go_enter Tryz.func57, Tryz.ntmps57
    go_wp2_with fail
    go_ret
    exact ⟨ret_int HX.out.symm, rfl⟩
  · by_cases h3 : 3 < kind
    · have HX : Hid (mayErr kind s.data.toList = 2) := if_pos (Or.inr h3)
      generalize mayErr kind s.data.toList = r at *
      go_enter Tryz.func57, Tryz.ntmps57
      go_wp2_with fail
      go_ret
      exact ⟨ret_int HX.out.symm, rfl⟩
    · have HM : Hid (mayErr kind s.data.toList = if (kind = 1 ∧ s.data.toList ≠ []) ∨ (kind = 3 ∧ s.data.toList = []) then 3 else if 65536 < s.data.toList.length then 4 else 0) := if_neg (by omega)
      by_cases h0 : 0 < s.size
      · have hf := list_full h0
        have hn := list_ne h0
        have hne : s.data.toList ≠ [] := Kit.bytes_ne h0
        by_cases k1 : kind = 1
        · have HX : Hid (mayErr kind s.data.toList = 3) := HM.out.trans (if_pos (Or.inl ⟨k1, hne⟩))
          generalize mayErr kind s.data.toList = r at *
          subst k1
          clear hne
          go_enter Tryz.func57, Tryz.ntmps57
          go_wp2_with fail
          go_ret
          exact ⟨ret_int HX.out.symm, rfl⟩
        · have HM2 : Hid (mayErr kind s.data.toList = if 65536 < s.data.toList.length then 4 else 0) := HM.out.trans (if_neg (by rintro (e | e); exact k1 e.1; exact hne e.2))
          have t1 : (kind == 1) = false := by simpa using k1
          clear hne HM
          by_cases hbig : (65536 : Int) < s.size
          · have HX : Hid (mayErr kind s.data.toList = 4) := HM2.out.trans (if_pos (by rw [← HL.out]; omega))
            generalize mayErr kind s.data.toList = r at *
            cases k3 : (kind == 3) <;>
            · go_enter Tryz.func57, Tryz.ntmps57
              go_wp2_with fail
              go_ret
              exact ⟨ret_int HX.out.symm, rfl⟩
          · have HX : Hid (mayErr kind s.data.toList = 0) := HM2.out.trans (if_neg (by rw [← HL.out]; omega))
            generalize mayErr kind s.data.toList = r at *
            cases k3 : (kind == 3) <;>
            · go_enter Tryz.func57, Tryz.ntmps57
              go_wp2_with fail
              go_ret
              exact ⟨ret_int HX.out.symm, rfl⟩
      · have hf := list_none h0
        have hn := list_nil h0
        have hne : s.data.toList = [] := bytes_nil h0
        have hz : (s.size : Int) ≤ 65536 := by omega
        by_cases k3 : kind = 3
        · have HX : Hid (mayErr kind s.data.toList = 3) := HM.out.trans (if_pos (Or.inr ⟨k3, hne⟩))
          generalize mayErr kind s.data.toList = r at *
          subst k3
          clear hne
          go_enter Tryz.func57, Tryz.ntmps57
          go_wp2_with fail
          go_ret
          exact ⟨ret_int HX.out.symm, rfl⟩
        · have HX : Hid (mayErr kind s.data.toList = 0) := HM.out.trans ((if_neg (by rintro (e | e); exact e.2 hne; exact k3 e.1)).trans (if_neg (by rw [← HL.out]; omega)))
          have t3 : (kind == 3) = false := by simpa using k3
          generalize mayErr kind s.data.toList = r at *
          clear hne k3 HM
          cases k1 : (kind == 1) <;>
          · go_enter Tryz.func57, Tryz.ntmps57
            go_wp2_with fail
            go_ret
            exact ⟨ret_int HX.out.symm, rfl⟩
end Go.Proofs.YtpihldcchjoinaaGreatDoor.W07
/-
  Layer 7 (tree), walks: the plain answers In and List: what each returns; new memory may be laid, nothing that was there is changed.
-/
namespace Go.Proofs.YtpihldcchjoinaaGreatDoor.W07
set_option maxRecDepth 100000
open Go Go.RowKit Go.Proofs.YtpihldcchjoinaaGreatDoor.Strs Go.Proofs.YtpihldcchjoinaaGreatDoor.Recs Go.Proofs.YtpihldcchjoinaaGreatDoor.M07
open Go.Proofs.YtpihldcchjoinaaGreatDoor.M06 (Ent)
open Go.Proofs.YtpihldcchjoinaaGreatDoor.W06 (Ents HandsE refPut_any)
open Go.Proofs.YtpihldcchjoinaaGreatDoor.W03 (less_bytes same_bytes)
open Go.Proofs.YtpihldcchjoinaaGreatDoor.Kit (ret_str ret_bool ret_int mk_of mk_bytes ba_ext below_draws on list_full list_ne list_none list_nil bytes_nil bytes_cons)

set_option maxHeartbeats 2000000 in
theorem refIn_any (v : Value) (L : List Nd) (last d : Int) (s : ByteArray) (B : Nat) (w : World) (h : Nodes B w v L) (hB : B ≤ w.heap.size) (hn : L.length ≤ 1099511627776) :
    Calls Tryz.prog 56 #[.agg #[v, .int .i64 last], .int .i64 d, .string s] w fun e w' => e = .returned (.int .i64 (inDir L d s.data.toList)) ∧ Below w.heap.size w w' := by
  have H := Lib.hid h
  obtain ⟨A, c, rfl, hA1, hA2⟩ := h.form
  unfold maxLen at hA2
  clear h
  generalize hm : L.length = m at *
  have HM := Lib.hid hm
  clear hm
  go_enter Tryz.func56, Tryz.ntmps56
  go_wp2_with fail
  go_loopw [7] (fun i wr => ∃ k : Nat, k ≤ m ∧ i = .int .i64 k ∧ Hid (inDir L d s.data.toList = inDir (L.drop k) d s.data.toList) ∧ wr = w.alloc (.cells #[.slice A m c, .int .i64 last] 28)) (fun i _ => m - (intOf i).toNat)
  case atStart => exact ⟨0, Nat.zero_le _, rfl, rfl, rfl⟩
  case round =>
    obtain ⟨k, hk, rfl, hr, rfl⟩ := hrel
    by_cases hlt : k < m
    · obtain ⟨b, o, hl1, rfl, hbl, hc0, hc1, hc2, hc3, hc4⟩ := Nodes.at_ H.out hlt
      have hbw : b < w.heap.size := by omega
      obtain ⟨nm, hnmE⟩ : ∃ t : ByteArray, (⟨(L[k]).name.toArray⟩ : ByteArray) = t := ⟨_, rfl⟩
      have hnl : nm.data.toList = (L[k]).name := by rw [← hnmE]
      rw [hnmE] at hc2
      have hsb := same_bytes nm s
      rw [hnl] at hsb
      clear hnmE hnl
      by_cases hup : (L[k]).up = d
      · have t1 : ((L[k]).up == d) = true := by simpa using hup
        by_cases hnm : (L[k]).name = s.data.toList
        · have t2 : (nm.toList == s.toList) = true := by rw [hsb]; simpa using hnm
          by_cases hnu : (L[k]).num = 1
          · have t3 : ((L[k]).num != 1) = false := by simpa using hnu
            have t4 : ((L[k]).num == 1) = true := by simpa using hnu
            have HX := Lib.hid (hr.out.trans (in_on hl1 (fun e => e.2.2 hnu)))
            clear hup hnm hnu hsb
            go_wp2_with fail
            go_roundw
            case rel => exact ⟨k + 1, by omega, by go_num, HX, by trivial⟩
            case measure => simp [intOf]; omega
          · have t3 : ((L[k]).num != 1) = true := by simpa using hnu
            have t4 : ((L[k]).num == 1) = false := by simpa using hnu
            have HX := Lib.hid (hr.out.trans (in_here hl1 ⟨hup, hnm, hnu⟩))
            clear hup hnm hnu hsb
            go_wp2_with fail
            go_ret
            exact ⟨ret_int HX.out.symm, below_one w _⟩
        · have t2 : (nm.toList == s.toList) = false := by rw [hsb]; simpa using hnm
          have HX := Lib.hid (hr.out.trans (in_on hl1 (fun e => hnm e.2.1)))
          clear hup hnm hsb
          go_wp2_with fail
          go_roundw
          case rel => exact ⟨k + 1, by omega, by go_num, HX, by trivial⟩
          case measure => simp [intOf]; omega
      · have t1 : ((L[k]).up == d) = false := by simpa using hup
        have HX := Lib.hid (hr.out.trans (in_on hl1 (fun e => hup e.1)))
        clear hup hsb
        go_wp2_with fail
        go_roundw
        case rel => exact ⟨k + 1, by omega, by go_num, HX, by trivial⟩
        case measure => simp [intOf]; omega
    · have HX := Lib.hid (hr.out.trans (in_end (by rw [HM.out]; exact hlt)))
      go_wp2_with fail
      go_ret
      exact ⟨ret_int HX.out.symm, below_one w _⟩

/-! ### List -/
set_option maxHeartbeats 2000000 in
theorem refList_any (v : Value) (L : List Nd) (last d : Int) (B : Nat) (w : World) (h : Nodes B w v L) (hB : B ≤ w.heap.size) (hn : L.length ≤ 1099511627776) :
    Calls Tryz.prog 45 #[.agg #[v, .int .i64 last], .int .i64 d] w (HandsE w (listDir L d)) := by
  have H := Lib.hid h
  obtain ⟨A, c, rfl, hA1, hA2⟩ := h.form
  unfold maxLen at hA2
  clear h
  generalize hm : L.length = m at *
  have HM := Lib.hid hm
  clear hm
  go_enter Tryz.func45, Tryz.ntmps45
  go_wp2_with fail
  go_loopw [5, 6] (fun u i wr => ∃ (k : Nat) (out : List Ent), k ≤ m ∧ i = .int .i64 k ∧ out.length ≤ k ∧ Hid (out = listDir (L.take k) d) ∧ Hid (Ents wr.heap.size wr u out) ∧ wr.cell? ⟨w.heap.size, 0, none⟩ = some (.slice A m c) ∧ w.heap.size < wr.heap.size ∧ Below w.heap.size w wr) (fun _ i _ => m - (intOf i).toNat)
  case atStart => exact ⟨0, [], Nat.zero_le _, rfl, Nat.le_refl _, rfl, recs_nil _ _ _ _, by simp, by simp, below_one w _⟩
  case round =>
    obtain ⟨k, out, hk, rfl, hout, hr, hu, hbx, hsz, hb⟩ := hrel
    by_cases hlt : k < m
    · obtain ⟨b, o, hl1, rfl, hbl, hc0, hc1, hc2, hc3, hc4⟩ := Nodes.at_ (H.out.below (hb.mono hB)) hlt
      have hbw : b < wr.heap.size := by have := hb.size; omega
      by_cases hup : (L[k]).up = d
      · have t1 : ((L[k]).up == d) = true := by simpa using hup
        by_cases hnu : (L[k]).num = 1
        · have t4 : ((L[k]).num == 1) = true := by simpa using hnu
          have HX := Lib.hid (hr.out.trans (list_out hl1 (by simp [stands, hnu])).symm)
          clear hup hnu
          go_wp2_with fail
          go_roundw
          case rel => exact ⟨k + 1, out, by omega, by go_num, by omega, HX, hu, hbx, hsz, hb⟩
          case measure => simp [intOf]; omega
        · have t4 : ((L[k]).num == 1) = false := by simpa using hnu
          have HX := Lib.hid (list_in (d := d) hl1 (by simp [stands, hup, hnu]))
          rw [← hr.out] at HX
          have hle := M06.put_len out (entOf L[k])
          have HP := Lib.hid (refPut_any u5 out wr.heap.size ⟨(L[k]).name.toArray⟩ (L[k]).num (wr.drewN 1) (hu.out.drewN 1) (Nat.le_refl _) (by omega))
          clear hup hnu
          go_wp2_with fail
          go_region_held3 (fun w' => w'.cell? ⟨w.heap.size, 0, none⟩ = some (.slice (some ⟨b, o, none⟩) m c) ∧ w'.cell? ⟨b, o + k * 5, none⟩ = some (.int .i64 (L[k]).num) ∧ w'.cell? ⟨b, o + k * 5 + 2, none⟩ = some (.string ⟨(L[k]).name.toArray⟩))
            (first | exact ⟨(hb1.cell hsz).trans hbx, (hb1.cell hbw).trans hc0, (hb1.cell hbw).trans hc2⟩ | exact ⟨hbx, hc0, hc2⟩ | go_keep)
            (first | (go_at_call 78; refine HP.out.mono ?_; rintro e w1 ⟨u1, rfl, hu1, hb1⟩))
          all_goals (go_wp2_with fail)
          have D1 : Below w.heap.size w w1 := on (on hb (below_draws wr 1)) hb1
          have U1 := Lib.hid (W06.OwnEnts.reads hu1)
          have hy : w1.cell? ⟨w.heap.size, 0, none⟩ = some (.slice (some ⟨b, o, none⟩) m c) := (hb1.cell hsz).trans hbx
          have hz : w.heap.size < w1.heap.size := Nat.lt_of_lt_of_le hsz hb1.size
          clear hu1 hb1
          go_roundw
          case rel => exact ⟨k + 1, _, by omega, by go_num, by have := HX.out; omega, HX.symm, U1, hy, hz, D1⟩
          case measure => simp [intOf]; omega
      · have t1 : ((L[k]).up == d) = false := by simpa using hup
        have HX := Lib.hid (hr.out.trans (list_out hl1 (by simp [stands, hup])).symm)
        clear hup
        go_wp2_with fail
        go_roundw
        case rel => exact ⟨k + 1, out, by omega, by go_num, by omega, HX, hu, hbx, hsz, hb⟩
        case measure => simp [intOf]; omega
    · have HX : Hid (out = listDir L d) := hr.out.trans (by rw [List.take_of_length_le (by rw [HM.out]; omega)])
      go_wp2_with fail
      go_ret
      exact ⟨_, rfl, by rw [← HX.out]; exact hu.out, hb⟩
end Go.Proofs.YtpihldcchjoinaaGreatDoor.W07
/-
  Layer 7 (tree), a walk: the plain answer's with: a tree with a node in another one's place, in new memory; nothing that was there is changed.
-/
namespace Go.Proofs.YtpihldcchjoinaaGreatDoor.W07
set_option maxRecDepth 100000
open Go Go.RowKit Go.Proofs.YtpihldcchjoinaaGreatDoor.Strs Go.Proofs.YtpihldcchjoinaaGreatDoor.Recs Go.Proofs.YtpihldcchjoinaaGreatDoor.M07
open Go.Proofs.YtpihldcchjoinaaGreatDoor.M06 (Ent)
open Go.Proofs.YtpihldcchjoinaaGreatDoor.Kit (ret_str ret_bool ret_int mk_of mk_bytes ba_ext below_draws on)

theorem node_info : (Tryz.prog.info? 77).map (fun i => (i.zero, i.size, i.bytes)) = some (some (.agg #[.int .i64 0, .int .i64 0, .string ⟨#[]⟩, .int .i64 0, .string ⟨#[]⟩]), 5, 56) := by kernel_rfl
def OwnNodes (w : World) (base : Nat) (v : Value) (L : List Nd) : Prop := w.ownsRow base 77 5 v L.length (L.flatMap nodeC)
theorem OwnNodes.reads {w : World} {base : Nat} {v : Value} {L : List Nd} (h : OwnNodes w base v L) : Nodes w.heap.size w v L := Recs.of_own nodeC_len rfl h
theorem nodes_one {L : List Nd} : ∀ u ∈ L.flatMap nodeC, u.oneCell' = true := by
  intro u hu
  obtain ⟨x, -, hx⟩ := List.mem_flatMap.1 hu
  simp only [nodeC, List.mem_cons, List.not_mem_nil, or_false] at hx
  rcases hx with rfl | rfl | rfl | rfl | rfl <;> rfl
theorem flat_set (x : Nd) : ∀ (L : List Nd) (k : Nat), k < L.length → ((((((L.flatMap nodeC).set (k * 5) (.int .i64 x.num)).set (k * 5 + 1) (.int .i64 x.up)).set (k * 5 + 2) (strV x.name)).set (k * 5 + 3) (.int .i64 x.kind)).set (k * 5 + 4) (strV x.data)) = (L.set k x).flatMap nodeC
  | [], k, h => by simp at h
  | y :: L, 0, _ => by simp [nodeC]
  | y :: L, k + 1, h => by
    have ih := flat_set x L k (by simpa using h)
    rw [List.set_cons_succ, List.flatMap_cons, List.flatMap_cons, ← ih]
    have hl : (nodeC y).length = 5 := rfl
    have e : ∀ (M : List Value) (j : Nat) (u : Value), (nodeC y ++ M).set (5 + j) u = nodeC y ++ M.set j u := fun M j u => by
      rw [List.set_append_right _ _ (by rw [hl]; omega), hl]
      congr 2; omega
    rw [show (k + 1) * 5 = 5 + k * 5 by omega, show 5 + k * 5 + 1 = 5 + (k * 5 + 1) by omega, show 5 + k * 5 + 2 = 5 + (k * 5 + 2) by omega, show 5 + k * 5 + 3 = 5 + (k * 5 + 3) by omega, show 5 + k * 5 + 4 = 5 + (k * 5 + 4) by omega]
    rw [e, e, e, e, e]
/-- a node stored into an own row -/
def storeNode (w : World) (g k : Nat) (x : Nd) : World := ((((w.setCell ⟨g, k * 5, none⟩ (.int .i64 x.num)).setCell ⟨g, k * 5 + 1, none⟩ (.int .i64 x.up)).setCell ⟨g, k * 5 + 2, none⟩ (.string ⟨x.name.toArray⟩)).setCell ⟨g, k * 5 + 3, none⟩ (.int .i64 x.kind)).setCell ⟨g, k * 5 + 4, none⟩ (.string ⟨x.data.toArray⟩)
theorem own_store {w : World} {base g n c : Nat} {L : List Nd} {k : Nat} (x : Nd) (hn : n = L.length) (h : OwnNodes w base (.slice (some ⟨g, 0, none⟩) n c) L) (hk : k < L.length) : OwnNodes (storeNode w g k x) base (.slice (some ⟨g, 0, none⟩) n c) (L.set k x) := by
  subst hn
  have h1 := (World.ownsRow.stored h (k * 5) (.int .i64 x.num)).1
  have h2 := (World.ownsRow.stored h1 (k * 5 + 1) (.int .i64 x.up)).1
  have h3 := (World.ownsRow.stored h2 (k * 5 + 2) (strV x.name)).1
  have h4 := (World.ownsRow.stored h3 (k * 5 + 3) (.int .i64 x.kind)).1
  have h5 := (World.ownsRow.stored h4 (k * 5 + 4) (strV x.data)).1
  rw [flat_set x L k hk] at h5
  unfold OwnNodes
  rw [List.length_set]
  exact h5
theorem below_store {B : Nat} {w wr : World} {g k : Nat} {x : Nd} (h : Below B w wr) (hg : B ≤ g) : Below B w (storeNode wr g k x) :=
  ((((h.setCell hg _).setCell hg _).setCell hg _).setCell hg _).setCell hg _
theorem own_form {w : World} {base : Nat} {v : Value} {L : List Nd} (h : OwnNodes w base v L) (h0 : 0 < L.length) : ∃ g c, v = .slice (some ⟨g, 0, none⟩) L.length c ∧ base ≤ g ∧ g < w.heap.size ∧ L.length ≤ c ∧ c ≤ maxLen := by
  rcases h.2 with ⟨_, hz⟩ | ⟨g, cap, cur, hv, hb, hg, hn, hc, _⟩
  · omega
  · refine ⟨g, cap, hv, hb, ?_, hn, hc⟩
    rcases Nat.lt_or_ge g w.heap.size with hlt | hge
    · exact hlt
    · rw [Array.getElem?_eq_none hge] at hg; cases hg
theorem own_frozen {w : World} {base g n c : Nat} {L : List Nd} (hn : n = L.length) (h : OwnNodes w base (.slice (some ⟨g, 0, none⟩) n c) L) (j : Nat) : w.frozen? ⟨g, j, none⟩ = false := by
  subst hn; exact World.ownsRow.frozenAt h j
/-- the nodes when k are gone through -/
def sofar (L : List Nd) (x : Nd) (k : Nat) : List Nd := (L.take k).map (fun a => if a.num = x.num then x else a) ++ L.drop k
theorem sofar_len (L : List Nd) (x : Nd) (k : Nat) : (sofar L x k).length = L.length := by unfold sofar; simp; omega
theorem sofar_at {L : List Nd} {x : Nd} {k : Nat} (hk : k < L.length) : (sofar L x k)[k]'(by rw [sofar_len]; exact hk) = L[k] := by
  unfold sofar
  rw [List.getElem_append_right (by simp; omega)]
  simp [Nat.min_eq_left (Nat.le_of_lt hk)]
theorem sofar_hit {L : List Nd} {x : Nd} {k : Nat} (hk : k < L.length) (h : (L[k]).num = x.num) : (sofar L x k).set k x = sofar L x (k + 1) := by
  have e : (L.drop k).set 0 x = x :: L.drop (k + 1) := by rw [List.drop_eq_getElem_cons hk]; rfl
  have e2 : ((L.take k).map (fun a => if a.num = x.num then x else a)).length = k := by simp; omega
  unfold sofar
  rw [List.set_append_right _ _ (by rw [e2]; exact Nat.le_refl _), e2, Nat.sub_self, e, List.take_succ_eq_append_getElem hk, List.map_append, List.append_assoc]
  simp only [List.map_cons, List.map_nil, h, if_true, List.cons_append, List.nil_append]
theorem sofar_miss {L : List Nd} {x : Nd} {k : Nat} (hk : k < L.length) (h : ¬ (L[k]).num = x.num) : sofar L x k = sofar L x (k + 1) := by
  unfold sofar
  rw [List.take_succ_eq_append_getElem hk, List.map_append]
  conv => lhs; rw [List.drop_eq_getElem_cons hk]
  simp [h]
theorem sofar_end {L : List Nd} {x : Nd} {k : Nat} (hk : ¬ k < L.length) : sofar L x k = L.map (fun a => if a.num = x.num then x else a) := by
  unfold sofar; rw [List.take_of_length_le (by omega), List.drop_of_length_le (by omega), List.append_nil]
theorem sofar_zero (L : List Nd) (x : Nd) : sofar L x 0 = L := by unfold sofar; simp

theorem _root_.Go.World.alloc_size (w : World) (o : Obj) : (w.alloc o).heap.size = w.heap.size + 1 := by show (w.heap.push o).size = _; rw [Array.size_push]
theorem heap_top (w : World) (o : Obj) : (w.alloc o).heap[w.heap.size]? = some o := by show (w.heap.push o)[w.heap.size]? = _; rw [Array.getElem?_push_size]
theorem heap_three_a (w : World) (a b c : Obj) : (((w.alloc a).alloc b).alloc c).heap[w.heap.size]? = some a := by
  rw [Below.heap_alloc _ _ _ (by rw [World.alloc_size, World.alloc_size]; omega), Below.heap_alloc _ _ _ (by rw [World.alloc_size]; omega), heap_top]
theorem heap_three_b (w : World) (a b c : Obj) : (((w.alloc a).alloc b).alloc c).heap[w.heap.size + 1]? = some b := by
  rw [Below.heap_alloc _ _ _ (by rw [World.alloc_size, World.alloc_size]; omega), ← World.alloc_size w a, heap_top]
theorem heap_three_c (w : World) (a b c : Obj) : (((w.alloc a).alloc b).alloc c).heap[w.heap.size + 1 + 1]? = some c := by
  rw [← World.alloc_size w a, ← World.alloc_size (w.alloc a) b, heap_top]

set_option maxHeartbeats 2000000 in
theorem refWith_any (v : Value) (L : List Nd) (last : Int) (x : Nd) (B : Nat) (w : World) (h : Nodes B w v L) (hB : B ≤ w.heap.size) (hn : L.length ≤ 1099511627776) (h0 : 0 < L.length) :
    Calls Tryz.prog 102 #[.agg #[v, .int .i64 last], nodeV x] w fun e w' => ∃ g n c, e = .returned (.agg #[.slice (some ⟨g, 0, none⟩) n c, .int .i64 last]) ∧ w.heap.size ≤ g ∧ Nodes w'.heap.size w' (.slice (some ⟨g, 0, none⟩) n c) (withNode ⟨L, last⟩ x).L ∧ Below w.heap.size w w' := by
  obtain ⟨i0, hi, hz0, hz1, hz2⟩ := info_parts node_info
  have H := Lib.hid h
  obtain ⟨A, c, rfl, hA1, hA2⟩ := h.form
  obtain ⟨b, o, rfl, hbB, hnews⟩ := Recs.news h nodeC_len (by omega) h0
  unfold maxLen at hA2
  have HNW := Lib.hid hnews
  have HFL := Lib.hid (flat_len nodeC_len L)
  clear h hnews
  unfold nodeV
  go_enter Tryz.func102, Tryz.ntmps102
  have hW : ∀ o1 o2 o3 : Obj, Below w.heap.size w (((w.alloc o1).alloc o2).alloc o3) := fun o1 o2 o3 => (((Below.refl w.heap.size w).alloc (Nat.le_refl _) o1).alloc (by simp) o2).alloc (by simp; omega) o3
  have hNW : ∀ o1 o2 o3 : Obj, ∀ j u, (L.flatMap nodeC)[j]? = some u → (((w.alloc o1).alloc o2).alloc o3).cell? ((⟨b, o, none⟩ : Addr).add j) = some u := fun o1 o2 o3 j u hj => ((hW o1 o2 o3).cell (by rw [block_add]; show b < _; omega)).trans (HNW.out j u hj)
  have HNW3 := Lib.hid hNW
  have HW3 := Lib.hid hW
  clear hNW hW
  go_wp2_with (at_builtin; refine wpList_append_own _ rfl (.const (.slice none 0 0)) (.tmp 8) 26 rfl (w.heap.size + 1 + 1 + 1) 77 i0 (.agg #[.int .i64 0, .int .i64 0, .string ⟨#[]⟩, .int .i64 0, .string ⟨#[]⟩]) 5 56 Tryz.underlying26 hi hz0 hz1 hz2 rfl (by decide) (.slice none 0 0) 0 [] rfl (World.ownsRow_nil _ _ _ _) ⟨b, o, none⟩ L.length c (L.flatMap nodeC) rfl HFL.out (HNW3.out _ _ _) nodes_one (by unfold maxLen; omega) (by omega) (by simp) ?_; intro v1 w1 hown1 hgrow1 _)
  rw [Nat.zero_add, List.nil_append] at hown1
  have O1 := Lib.hid (show OwnNodes w1 (w.heap.size + 1 + 1 + 1) v1 L from hown1)
  have HB0 := Lib.hid (HW3.out (.cells #[.slice (some ⟨b, o, none⟩) L.length c, .int .i64 last] 28) (.cells #[.int .i64 x.num, .int .i64 x.up, .string ⟨x.name.toArray⟩, .int .i64 x.kind, .string ⟨x.data.toArray⟩] 77) (.cells #[.slice none 0 0, .int .i64 0] 28))
  clear hown1 HNW3 HW3
  generalize hW3 : ((w.alloc (.cells #[.slice (some ⟨b, o, none⟩) L.length c, .int .i64 last] 28)).alloc (.cells #[.int .i64 x.num, .int .i64 x.up, .string ⟨x.name.toArray⟩, .int .i64 x.kind, .string ⟨x.data.toArray⟩] 77)).alloc (.cells #[.slice none 0 0, .int .i64 0] 28) = W3 at hgrow1 HB0
  have hsz3 : W3.heap.size = w.heap.size + 1 + 1 + 1 := by rw [← hW3]; rw [World.alloc_size, World.alloc_size, World.alloc_size]
  have k1 : W3.heap[w.heap.size]? = some (.cells #[.slice (some ⟨b, o, none⟩) L.length c, .int .i64 last] 28 (0, 0)) := by rw [← hW3]; exact heap_three_a _ _ _ _
  have k2 : W3.heap[w.heap.size + 1]? = some (.cells #[.int .i64 x.num, .int .i64 x.up, .string ⟨x.name.toArray⟩, .int .i64 x.kind, .string ⟨x.data.toArray⟩] 77 (0, 0)) := by rw [← hW3]; exact heap_three_b _ _ _ _
  have k3 : W3.heap[w.heap.size + 1 + 1]? = some (.cells #[.slice none 0 0, .int .i64 0] 28 (0, 0)) := by rw [← hW3]; exact heap_three_c _ _ _ _
  have p1 : W3.cell? ⟨w.heap.size, 1, none⟩ = some (.int .i64 last) := cell_of_row W3 _ 1 _ _ (0, 0) k1
  have q0 : W3.cell? ⟨w.heap.size + 1, 0, none⟩ = some (.int .i64 x.num) := cell_of_row W3 _ 0 _ _ (0, 0) k2
  have q1 : W3.cell? ⟨w.heap.size + 1, 1, none⟩ = some (.int .i64 x.up) := cell_of_row W3 _ 1 _ _ (0, 0) k2
  have q2 : W3.cell? ⟨w.heap.size + 1, 2, none⟩ = some (.string ⟨x.name.toArray⟩) := cell_of_row W3 _ 2 _ _ (0, 0) k2
  have q3 : W3.cell? ⟨w.heap.size + 1, 3, none⟩ = some (.int .i64 x.kind) := cell_of_row W3 _ 3 _ _ (0, 0) k2
  have q4 : W3.cell? ⟨w.heap.size + 1, 4, none⟩ = some (.string ⟨x.data.toArray⟩) := cell_of_row W3 _ 4 _ _ (0, 0) k2
  have r0 : W3.cell? ⟨w.heap.size + 1 + 1, 0, none⟩ = some (.slice none 0 0) := cell_of_row W3 _ 0 _ _ (0, 0) k3
  have r1 : W3.cell? ⟨w.heap.size + 1 + 1, 1, none⟩ = some (.int .i64 0) := cell_of_row W3 _ 1 _ _ (0, 0) k3
  have f0 : W3.frozen? ⟨w.heap.size + 1 + 1, 0, none⟩ = false := frozen_of_row W3 _ 0 _ _ k3
  have f1 : W3.frozen? ⟨w.heap.size + 1 + 1, 1, none⟩ = false := frozen_of_row W3 _ 1 _ _ k3
  clear k1 k2 k3
  have B1 : Hid (Below (w.heap.size + 1 + 1 + 1) W3 w1) := (Below.refl _ W3).grown hgrow1 (by omega) (fun k hk => by cases hk)
  clear hgrow1 hW3
  obtain ⟨g, c1, rfl, hg1, hg2, hcn, hcm⟩ := own_form O1.out h0
  have HS0 := Lib.hid (sofar_zero L x)
  have HEND := Lib.hid (fun k => sofar_end (L := L) (x := x) (k := k))
  generalize hm : L.length = m at *
  have HM := Lib.hid hm
  clear hm
  unfold maxLen at hcm
  go_wp2_with fail
  go_loopw [6] (fun i wr => ∃ k : Nat, k ≤ m ∧ i = .int .i64 k ∧ Hid (OwnNodes wr (w.heap.size + 1 + 1 + 1) (.slice (some ⟨g, 0, none⟩) m c1) (sofar L x k)) ∧ Below (w.heap.size + 1 + 1 + 1) W3 wr) (fun i _ => m - (intOf i).toNat)
  case atStart => exact ⟨0, Nat.zero_le _, rfl, by rw [HS0.out]; exact O1, B1.out⟩
  case round =>
    obtain ⟨k, hk, rfl, hown, hb⟩ := hrel
    have hlt3 : w.heap.size + 1 < w.heap.size + 1 + 1 + 1 := by omega
    have a0 : wr.cell? ⟨w.heap.size + 1, 0, none⟩ = some (.int .i64 x.num) := (hb.cell hlt3).trans q0
    have a1 : wr.cell? ⟨w.heap.size + 1, 1, none⟩ = some (.int .i64 x.up) := (hb.cell hlt3).trans q1
    have a2 : wr.cell? ⟨w.heap.size + 1, 2, none⟩ = some (.string ⟨x.name.toArray⟩) := (hb.cell hlt3).trans q2
    have a3 : wr.cell? ⟨w.heap.size + 1, 3, none⟩ = some (.int .i64 x.kind) := (hb.cell hlt3).trans q3
    have a4 : wr.cell? ⟨w.heap.size + 1, 4, none⟩ = some (.string ⟨x.data.toArray⟩) := (hb.cell hlt3).trans q4
    by_cases hlt : k < m
    · have hlk : k < L.length := by rw [HM.out]; exact hlt
      have hsl : (sofar L x k).length = m := by rw [sofar_len]; exact HM.out
      have hsk := sofar_at (x := x) hlk
      obtain ⟨b2, o2, hl2, he2, hbl, hc0, hc1, hc2, hc3, hc4⟩ := Nodes.at_ (show Nodes wr.heap.size wr (.slice (some ⟨g, 0, none⟩) m c1) (sofar L x k) from hown.out.reads) hlt
      cases he2
      rw [hsk, Nat.zero_add] at hc0
      rw [hsk, Nat.zero_add] at hc1 hc2 hc3 hc4
      by_cases hnum : (L[k]).num = x.num
      · have t1 : ((L[k]).num == x.num) = true := by simpa using hnum
        have HX := Lib.hid (sofar_hit hlk hnum)
        have OS : Hid (∀ q, OwnNodes (storeNode (wr.drewN q) g k x) (w.heap.size + 1 + 1 + 1) (.slice (some ⟨g, 0, none⟩) m c1) (sofar L x (k + 1))) := fun q => by
          rw [← HX.out]
          exact own_store x hsl.symm (show OwnNodes (wr.drewN q) _ _ _ from hown.out) (by rw [hsl]; exact hlt)
        have z0 : wr.frozen? ⟨g, k * 5, none⟩ = false := own_frozen hsl.symm hown.out _
        have z1 : wr.frozen? ⟨g, k * 5 + 1, none⟩ = false := own_frozen hsl.symm hown.out _
        have z2 : wr.frozen? ⟨g, k * 5 + 2, none⟩ = false := own_frozen hsl.symm hown.out _
        have z3 : wr.frozen? ⟨g, k * 5 + 3, none⟩ = false := own_frozen hsl.symm hown.out _
        have z4 : wr.frozen? ⟨g, k * 5 + 4, none⟩ = false := own_frozen hsl.symm hown.out _
        clear hnum
        go_wp2_with fail
        go_quiet (fail)
        go_wp2_with fail
        go_roundw
        case rel => exact ⟨k + 1, by omega, by go_num, OS.out _, below_store (hb.trans ((below_draws wr _).mono (by have := hb.size; omega))) hg1⟩
        case measure => simp [intOf]; omega
      · have t1 : ((L[k]).num == x.num) = false := by simpa using hnum
        have HX := Lib.hid (sofar_miss hlk hnum)
        rw [HX.out] at hown
        clear hnum hc1 hc2 hc3 hc4
        go_wp2_with fail
        go_quiet (fail)
        go_wp2_with fail
        go_roundw
        case rel => exact ⟨k + 1, by omega, by go_num, hown, hb.trans ((below_draws wr nq).mono (by have := hb.size; omega))⟩
        case measure => simp [intOf]; omega
    · have HX : Hid (sofar L x k = (withNode ⟨L, last⟩ x).L) := HEND.out k hlt
      rw [HX.out] at hown
      have b1 : wr.cell? ⟨w.heap.size, 1, none⟩ = some (.int .i64 last) := (hb.cell (show w.heap.size < w.heap.size + 1 + 1 + 1 by omega)).trans p1
      have s0 : wr.cell? ⟨w.heap.size + 1 + 1, 0, none⟩ = some (.slice none 0 0) := (hb.cell (show w.heap.size + 1 + 1 < w.heap.size + 1 + 1 + 1 by omega)).trans r0
      have s1 : wr.cell? ⟨w.heap.size + 1 + 1, 1, none⟩ = some (.int .i64 0) := (hb.cell (show w.heap.size + 1 + 1 < w.heap.size + 1 + 1 + 1 by omega)).trans r1
      have g0 : wr.frozen? ⟨w.heap.size + 1 + 1, 0, none⟩ = false := (hb.frozen (show w.heap.size + 1 + 1 < w.heap.size + 1 + 1 + 1 by omega)).trans f0
      have g1 : wr.frozen? ⟨w.heap.size + 1 + 1, 1, none⟩ = false := (hb.frozen (show w.heap.size + 1 + 1 < w.heap.size + 1 + 1 + 1 by omega)).trans f1
      have HN := Lib.hid hown.out.reads
      have HBW : Hid (Below w.heap.size w wr) := HB0.out.trans (hb.mono (by omega))
      clear hown
      go_wp2_with fail
      refine bodyPost_ret_by (v := .agg #[.slice (some ⟨g, 0, none⟩) m c1, .int .i64 last]) ?_ rfl ⟨g, m, c1, rfl, by omega, ?_, ?_⟩
      · rw [results_cell_one rfl]
        go_simp
      · refine Recs.more (Recs.other HN.out fun p hp => ?_) (by simp [World.setCell])
        have hne : ∀ j, (⟨w.heap.size + 1 + 1, j, none⟩ : Addr) ≠ p := fun j e => by
          have : w.heap.size + 1 + 1 = g := by rw [← hp, ← e]
          omega
        have e1 : ∀ (w' : World) (j : Nat) (u : Value), (w'.setCell ⟨w.heap.size + 1 + 1, j, none⟩ u).cell? p = w'.cell? p := fun w' j u => World.cell?_setCell_other (h := hne j) ..
        rw [e1, e1]
      · exact (HBW.out.setCell (by show w.heap.size ≤ w.heap.size + 1 + 1; omega) _).setCell (by show w.heap.size ≤ w.heap.size + 1 + 1; omega) _
end Go.Proofs.YtpihldcchjoinaaGreatDoor.W07
/-
  Layer 7 (tree), walks: the plain answers Set and Cut: what each returns; new memory may be laid, nothing that was there is changed.
-/
namespace Go.Proofs.YtpihldcchjoinaaGreatDoor.W07
set_option maxRecDepth 100000
open Go Go.RowKit Go.Proofs.YtpihldcchjoinaaGreatDoor.Strs Go.Proofs.YtpihldcchjoinaaGreatDoor.Recs Go.Proofs.YtpihldcchjoinaaGreatDoor.M07
open Go.Proofs.YtpihldcchjoinaaGreatDoor.M06 (Ent)
open Go.Proofs.YtpihldcchjoinaaGreatDoor.Kit (ret_str ret_bool ret_int mk_of mk_bytes ba_ext below_draws on)

theorem heap_two_a (w : World) (a b : Obj) : ((w.alloc a).alloc b).heap[w.heap.size]? = some a := by
  rw [Below.heap_alloc _ _ _ (by rw [World.alloc_size]; omega), heap_top]
theorem heap_two_b (w : World) (a b : Obj) : ((w.alloc a).alloc b).heap[w.heap.size + 1]? = some b := by
  rw [← World.alloc_size w a, heap_top]
theorem size_two (w : World) (a b : Obj) : ((w.alloc a).alloc b).heap.size = w.heap.size + 1 + 1 := by rw [World.alloc_size, World.alloc_size]
/-- a box of a tree, and the result's box, as they lie -/
def Boxed (w : World) (k : Nat) (v : Value) (last : Int) : Prop := w.heap[k]? = some (.cells #[v, .int .i64 last] 28 (0, 0)) ∧ w.heap[k + 1]? = some (.cells #[.slice none 0 0, .int .i64 0] 28 (0, 0)) ∧ k + 1 < w.heap.size
section
variable {w w' : World} {k : Nat} {v : Value} {last : Int}
theorem Boxed.below (h : Boxed w k v last) (hb : Below w.heap.size w w') : Boxed w' k v last :=
  ⟨(hb.block _ (by have := h.2.2; omega)).trans h.1, (hb.block _ h.2.2).trans h.2.1, Nat.lt_of_lt_of_le h.2.2 hb.size⟩
theorem Boxed.alloc (h : Boxed w k v last) (o : Obj) : Boxed (w.alloc o) k v last := h.below ((Below.refl w.heap.size w).alloc (Nat.le_refl _) o)
theorem Boxed.t0 (h : Boxed w k v last) : w.cell? ⟨k, 0, none⟩ = some v := cell_of_row w _ 0 _ _ (0, 0) h.1
theorem Boxed.t1 (h : Boxed w k v last) : w.cell? ⟨k, 1, none⟩ = some (.int .i64 last) := cell_of_row w _ 1 _ _ (0, 0) h.1
theorem Boxed.r0 (h : Boxed w k v last) : w.cell? ⟨k + 1, 0, none⟩ = some (.slice none 0 0) := cell_of_row w _ 0 _ _ (0, 0) h.2.1
theorem Boxed.r1 (h : Boxed w k v last) : w.cell? ⟨k + 1, 1, none⟩ = some (.int .i64 0) := cell_of_row w _ 1 _ _ (0, 0) h.2.1
theorem Boxed.f0 (h : Boxed w k v last) : w.frozen? ⟨k + 1, 0, none⟩ = false := frozen_of_row w _ 0 _ _ h.2.1
theorem Boxed.f1 (h : Boxed w k v last) : w.frozen? ⟨k + 1, 1, none⟩ = false := frozen_of_row w _ 1 _ _ h.2.1
/-- what stands behind the store of the result -/
theorem stored_nodes {u : Value} {L : List Nd} {B : Nat} {a : Value} {b : Int} (h : Nodes B w u L) (hB : B ≤ k + 1) (hs : k + 1 < w.heap.size) : Nodes ((w.setCell ⟨k + 1, 0, none⟩ a).setCell ⟨k + 1, 1, none⟩ (.int .i64 b)).heap.size ((w.setCell ⟨k + 1, 0, none⟩ a).setCell ⟨k + 1, 1, none⟩ (.int .i64 b)) u L := by
  refine Recs.more (Recs.keep h fun p hp => ?_) (by simp [World.setCell]; omega)
  have hne : ∀ j, (⟨k + 1, j, none⟩ : Addr) ≠ p := fun j e => by rw [← e] at hp; exact absurd hp (by show ¬ k + 1 < B; omega)
  have e1 : ∀ (w' : World) (j : Nat) (u : Value), (w'.setCell ⟨k + 1, j, none⟩ u).cell? p = w'.cell? p := fun w' j u => World.cell?_setCell_other (h := hne j) ..
  rw [e1, e1]
end
theorem stored_other {w : World} {k g n c : Nat} {L : List Nd} {a b : Value} (h : Nodes w.heap.size w (.slice (some ⟨g, 0, none⟩) n c) L) (hne : k + 1 < g) : Nodes ((w.setCell ⟨k + 1, 0, none⟩ a).setCell ⟨k + 1, 1, none⟩ b).heap.size ((w.setCell ⟨k + 1, 0, none⟩ a).setCell ⟨k + 1, 1, none⟩ b) (.slice (some ⟨g, 0, none⟩) n c) L := by
  refine Recs.more (Recs.other h fun p hp => ?_) (by simp [World.setCell])
  have hne : ∀ j, (⟨k + 1, j, none⟩ : Addr) ≠ p := fun j e => by
    have : k + 1 = g := by rw [← hp, ← e]
    omega
  have e1 : ∀ (w' : World) (j : Nat) (u : Value), (w'.setCell ⟨k + 1, j, none⟩ u).cell? p = w'.cell? p := fun w' j u => World.cell?_setCell_other (h := hne j) ..
  rw [e1, e1]
theorem stored_below {w w' : World} {k : Nat} {a b : Value} (h : Below w.heap.size w w') (hk : w.heap.size ≤ k + 1) : Below w.heap.size w ((w'.setCell ⟨k + 1, 0, none⟩ a).setCell ⟨k + 1, 1, none⟩ b) :=
  (h.setCell hk _).setCell hk _
theorem boxed_new (w : World) (v : Value) (last : Int) : Boxed ((w.alloc (.cells #[v, .int .i64 last] 28)).alloc (.cells #[.slice none 0 0, .int .i64 0] 28)) w.heap.size v last :=
  ⟨heap_two_a _ _ _, heap_two_b _ _ _, by rw [size_two]; omega⟩
/-- a slice handed out: the one that came in, an empty one, or one in memory from S on -/
def FromOr (v : Value) (S : Nat) (u : Value) : Prop := u = v ∨ u = .slice none 0 0 ∨ ∃ g n c, u = .slice (some ⟨g, 0, none⟩) n c ∧ S ≤ g
/-- what a call returns that hands out a tree and an error -/
def TreeErr (v : Value) (w : World) (R : Tr × Int) (e : Ending) (w' : World) : Prop := ∃ u, e = .returned (.tuple #[.agg #[u, .int .i64 R.1.last], .int .i64 R.2]) ∧ Nodes w'.heap.size w' u R.1.L ∧ Below w.heap.size w w' ∧ FromOr v w.heap.size u

set_option maxHeartbeats 2000000 in
theorem refSet_any (v : Value) (L : List Nd) (last n : Int) (s : ByteArray) (hs : s.size ≤ maxLen) (w : World) (h : Nodes w.heap.size w v L) (hn : L.length ≤ 1099511627776) (h0 : 0 < L.length) :
    Calls Tryz.prog 76 #[.agg #[v, .int .i64 last], .int .i64 n, .string s] w (TreeErr v w (set ⟨L, last⟩ n s.data.toList)) := by
  have HA := Lib.hid (refAt_any v L last n w.heap.size ((w.alloc (.cells #[v, .int .i64 last] 28)).alloc (.cells #[.slice none 0 0, .int .i64 0] 28)) ((h.alloc (Nat.le_refl _) _).keep fun p hp => World.cell?_alloc_lt _ _ p (by rw [World.alloc_size]; omega)) (by rw [size_two]; omega) hn)
  have HBX := Lib.hid (boxed_new w v last)
  have HB0 := Lib.hid (below_two w (.cells #[v, .int .i64 last] 28) (.cells #[.slice none 0 0, .int .i64 0] 28))
  have H := Lib.hid h
  obtain ⟨A, c, rfl, hA1, hA2⟩ := h.form
  clear h
  have HSET : Hid (set ⟨L, last⟩ n s.data.toList = if (nodeAt L n).kind = 0 then (⟨L, last⟩, 5) else if (nodeAt L n).kind = 1 then (⟨L, last⟩, 8) else if mayErr (nodeAt L n).kind s.data.toList ≠ 0 then (⟨L, last⟩, mayErr (nodeAt L n).kind s.data.toList) else (withNode ⟨L, last⟩ { nodeAt L n with data := s.data.toList }, 0)) := rfl
  generalize set ⟨L, last⟩ n s.data.toList = R at *
  generalize nodeAt L n = x at *
  unfold nodeV at HA
  go_enter Tryz.func76, Tryz.ntmps76
  go_wp2_with fail
  refine HA.out.mono ?_
  rintro e w1 ⟨rfl, hb1⟩
  have BX1 := Lib.hid (HBX.out.below hb1)
  have B1 := Lib.hid (HB0.out.trans (hb1.mono (by rw [size_two]; omega)))
  have N1 := Lib.hid (H.out.below B1.out)
  clear hb1
  have BX2 := BX1.out.alloc (.cells #[.int .i64 x.num, .int .i64 x.up, .string ⟨x.name.toArray⟩, .int .i64 x.kind, .string ⟨x.data.toArray⟩] 77)
  have x0 := BX2.t0
  have x1 := BX2.t1
  have y0 := BX2.r0
  have y1 := BX2.r1
  have g0 := BX2.f0
  have g1 := BX2.f1
  have z2 : w.heap.size + 1 < (w1.alloc (.cells #[.int .i64 x.num, .int .i64 x.up, .string ⟨x.name.toArray⟩, .int .i64 x.kind, .string ⟨x.data.toArray⟩] 77)).heap.size := BX2.2.2
  have N2 := Lib.hid (N1.out.alloc B1.out.size (.cells #[.int .i64 x.num, .int .i64 x.up, .string ⟨x.name.toArray⟩, .int .i64 x.kind, .string ⟨x.data.toArray⟩] 77))
  have B2 := Lib.hid (B1.out.alloc B1.out.size (.cells #[.int .i64 x.num, .int .i64 x.up, .string ⟨x.name.toArray⟩, .int .i64 x.kind, .string ⟨x.data.toArray⟩] 77))
  clear BX2
  by_cases k0 : x.kind = 0
  · have t0 : (x.kind == 0) = true := by simpa using k0
    have HX : Hid (R = (⟨L, last⟩, 5)) := HSET.out.trans (if_pos k0)
    clear k0
    go_wp2_with fail
    refine bodyPost_ret_by (v := .tuple #[.agg #[.slice A L.length c, .int .i64 last], .int .i64 5]) ?_ rfl ?_
    · rw [results_cell_tmp rfl]
      go_simp
    · rw [HX.out]
      exact ⟨_, rfl, stored_nodes N2.out (by omega) z2, stored_below B2.out (by omega), Or.inl rfl⟩
  · have t0 : (x.kind == 0) = false := by simpa using k0
    by_cases k1 : x.kind = 1
    · have t1 : (x.kind == 1) = true := by simpa using k1
      have HX : Hid (R = (⟨L, last⟩, 8)) := HSET.out.trans ((if_neg k0).trans (if_pos k1))
      clear k0 k1
      go_wp2_with fail
      refine bodyPost_ret_by (v := .tuple #[.agg #[.slice A L.length c, .int .i64 last], .int .i64 8]) ?_ rfl ?_
      · rw [results_cell_tmp rfl]
        go_simp
      · rw [HX.out]
        exact ⟨_, rfl, stored_nodes N2.out (by omega) z2, stored_below B2.out (by omega), Or.inl rfl⟩
    · have t1 : (x.kind == 1) = false := by simpa using k1
      have HM := Lib.hid (refMay_any x.kind s hs)
      have HS3 : Hid (R = if mayErr x.kind s.data.toList ≠ 0 then (⟨L, last⟩, mayErr x.kind s.data.toList) else (withNode ⟨L, last⟩ { x with data := s.data.toList }, 0)) := HSET.out.trans ((if_neg k0).trans (if_neg k1))
      generalize mayErr x.kind s.data.toList = er at *
      by_cases ke : er = 0
      · have te : (er == 0) = true := by simpa using ke
        have HX : Hid (R = (withNode ⟨L, last⟩ { x with data := s.data.toList }, 0)) := HS3.out.trans (if_neg (by simpa using ke))
        clear k0 k1 HSET HS3
        subst ke
        go_wp2_with fail
        refine (HM.out _).mono ?_
        rintro e w2 ⟨rfl, rfl⟩
        clear x0 x1 y0 y1 g0 g1 N2 B2 z2
        have BX3 := BX1.out.alloc (.cells #[.int .i64 x.num, .int .i64 x.up, .string ⟨x.name.toArray⟩, .int .i64 x.kind, .string s] 77)
        have x0 := BX3.t0
        have x1 := BX3.t1
        have HW := Lib.hid (refWith_any (.slice A L.length c) L last { x with data := s.data.toList } w.heap.size (w1.alloc (.cells #[.int .i64 x.num, .int .i64 x.up, .string ⟨x.name.toArray⟩, .int .i64 x.kind, .string s] 77)) (N1.out.alloc B1.out.size _) (by rw [World.alloc_size]; have := B1.out.size; omega) hn h0)
        have HBX3 := Lib.hid BX3
        have B3 := Lib.hid (B1.out.alloc B1.out.size (.cells #[.int .i64 x.num, .int .i64 x.up, .string ⟨x.name.toArray⟩, .int .i64 x.kind, .string s] 77))
        unfold nodeV at HW
        simp only [mk_bytes] at HW
        clear BX3
        go_wp2_with fail
        refine HW.out.mono ?_
        rintro e w3 ⟨g3, n3, c3, rfl, hg3, hn3, hb3⟩
        have BX4 := HBX3.out.below hb3
        have B4 := Lib.hid (on B3.out hb3)
        have y0 := BX4.r0
        have y1 := BX4.r1
        have g0 := BX4.f0
        have g1 := BX4.f1
        have z4 := BX4.2.2
        have N4 := Lib.hid hn3
        clear hn3 hb3 BX4
        go_wp2_with fail
        refine bodyPost_ret_by (v := .tuple #[.agg #[.slice (some ⟨g3, 0, none⟩) n3 c3, .int .i64 last], .int .i64 0]) ?_ rfl ?_
        · rw [results_cell_tmp rfl]
          go_simp
        · rw [HX.out]
          exact ⟨_, rfl, stored_other N4.out (by have := B1.out.size; rw [World.alloc_size] at hg3; have := BX1.out.2.2; omega), stored_below B4.out (by omega), Or.inr (Or.inr ⟨_, _, _, rfl, by have := B1.out.size; rw [World.alloc_size] at hg3; omega⟩)⟩
      · have te : (er == 0) = false := by simpa using ke
        have HX : Hid (R = (⟨L, last⟩, er)) := HS3.out.trans (if_pos ke)
        clear k0 k1 ke HSET HS3
        go_wp2_with fail
        refine (HM.out _).mono ?_
        rintro e w2 ⟨rfl, rfl⟩
        go_wp2_with fail
        refine bodyPost_ret_by (v := .tuple #[.agg #[.slice A L.length c, .int .i64 last], .int .i64 er]) ?_ rfl ?_
        · rw [results_cell_tmp rfl]
          go_simp
        · rw [HX.out]
          exact ⟨_, rfl, stored_nodes N2.out (by omega) z2, stored_below B2.out (by omega), Or.inl rfl⟩
end Go.Proofs.YtpihldcchjoinaaGreatDoor.W07
/-
  Layer 7 (tree), a walk: the plain answer's Cut: a tree without a node, in new memory, or what is wrong; nothing that was there is changed.
-/
namespace Go.Proofs.YtpihldcchjoinaaGreatDoor.W07
open Go Go.RowKit Go.Proofs.YtpihldcchjoinaaGreatDoor.Strs Go.Proofs.YtpihldcchjoinaaGreatDoor.Recs Go.Proofs.YtpihldcchjoinaaGreatDoor.M07
open Go.Proofs.YtpihldcchjoinaaGreatDoor.M06 (Ent)
open Go.Proofs.YtpihldcchjoinaaGreatDoor.Kit (ret_str ret_bool ret_int mk_of mk_bytes ba_ext below_draws on)

theorem own_nodes_more {w : World} {base : Nat} {v : Value} {out : List Nd} {x : Nd} (h : w.ownsRow base 77 5 v (out.length + 1) (out.flatMap nodeC ++ [.int .i64 x.num, .int .i64 x.up, .string ⟨x.name.toArray⟩, .int .i64 x.kind, .string ⟨x.data.toArray⟩])) : OwnNodes w base v (out ++ [x]) := by
  unfold OwnNodes
  rw [List.length_append, List.flatMap_append]
  have : ([x].flatMap nodeC) = [.int .i64 x.num, .int .i64 x.up, .string ⟨x.name.toArray⟩, .int .i64 x.kind, .string ⟨x.data.toArray⟩] := by simp [nodeC, strV]
  rw [this]; exact h
theorem stored_own {w : World} {k base : Nat} {u : Value} {L : List Nd} {a b : Value} (h : OwnNodes w base u L) (hne : k + 1 < base) : Nodes ((w.setCell ⟨k + 1, 0, none⟩ a).setCell ⟨k + 1, 1, none⟩ b).heap.size ((w.setCell ⟨k + 1, 0, none⟩ a).setCell ⟨k + 1, 1, none⟩ b) u L := by
  have hr := h.reads
  rcases h.2 with ⟨rfl, h0⟩ | ⟨g, cap, cur, rfl, hb, -⟩
  · have : L = [] := List.length_eq_zero_iff.1 h0
    subst this
    exact recs_nil _ _ _ _
  · exact stored_other hr (by omega)
/-- nodes that lie below B, or in a row of one's own from S on -/
def Apart (B S : Nat) (w : World) (u : Value) (L : List Nd) : Prop := Nodes B w u L ∨ ∃ base, S ≤ base ∧ OwnNodes w base u L
theorem Apart.reads {B S : Nat} {w : World} {u : Value} {L : List Nd} (h : Apart B S w u L) (hB : B ≤ w.heap.size) : Nodes w.heap.size w u L := by
  rcases h with h | ⟨base, _, h⟩
  · exact h.more hB
  · exact h.reads
theorem own_cell {w : World} {base q j : Nat} {u : Value} {L : List Nd} {a : Value} (h : OwnNodes w base u L) (hq : q < base) : OwnNodes (w.setCell ⟨q, j, none⟩ a) base u L := by
  refine ⟨h.1, ?_⟩
  rcases h.2 with h0 | ⟨g, cap, cur, e, hb, hh, rest⟩
  · exact Or.inl h0
  · refine Or.inr ⟨g, cap, cur, e, hb, ?_, rest⟩
    rw [Below.heap_setCell _ _ _ _ (by show g ≠ q; omega)]; exact hh
theorem Apart.cell {B S : Nat} {w : World} {q j : Nat} {u : Value} {L : List Nd} {a : Value} (h : Apart B S w u L) (h1 : B ≤ q) (h2 : q < S) : Apart B S (w.setCell ⟨q, j, none⟩ a) u L := by
  rcases h with h | ⟨base, hb, h⟩
  · exact Or.inl (h.below ((Below.refl B w).setCell h1 _))
  · exact Or.inr ⟨base, hb, own_cell h (by omega)⟩
theorem Apart.alloc {B S : Nat} {w : World} {u : Value} {L : List Nd} (h : Apart B S w u L) (hB : B ≤ w.heap.size) (o : Obj) : Apart B S (w.alloc o) u L := by
  rcases h with h | ⟨base, hb, h⟩
  · exact Or.inl (h.alloc hB o)
  · exact Or.inr ⟨base, hb, World.ownsRow.alloc h o⟩
end Go.Proofs.YtpihldcchjoinaaGreatDoor.W07
