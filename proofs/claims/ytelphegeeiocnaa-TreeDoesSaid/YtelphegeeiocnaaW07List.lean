/-
  Layer 7 (tree), walks: the plain answers In and List: what each returns; new memory may be laid, nothing that was there is changed.
-/
import Derived.Test.YtelphegeeiocnaaW07Walk
namespace Go.Proofs.Ytelphegeeiocnaa.W07
open Go Go.RowKit Go.Proofs.Ytelphegeeiocnaa.Strs Go.Proofs.Ytelphegeeiocnaa.Recs Go.Proofs.Ytelphegeeiocnaa.M07
open Go.Proofs.Ytelphegeeiocnaa.M06 (Ent)
open Go.Proofs.Ytelphegeeiocnaa.W06 (Ents HandsE refPut_any)
open Go.Proofs.Ytelphegeeiocnaa.W03 (less_bytes same_bytes)
open Go.Proofs.Ytelphegeeiocnaa.Kit (ret_str ret_bool ret_int mk_of mk_bytes ba_ext below_draws on list_full list_ne list_none list_nil bytes_nil bytes_cons)

set_option maxHeartbeats 2000000 in
theorem refIn_any (v : Value) (L : List Nd) (last d : Int) (s : ByteArray) (B : Nat) (w : World) (h : Nodes B w v L) (hB : B ≤ w.heap.size) (hn : L.length ≤ 1099511627776) :
    Calls Try.prog 46 #[.agg #[v, .int .i64 last], .int .i64 d, .string s] w fun e w' => e = .returned (.int .i64 (inDir L d s.data.toList)) ∧ Below w.heap.size w w' := by
  have H := Lib.hid h
  obtain ⟨A, c, rfl, hA1, hA2⟩ := h.form
  unfold maxLen at hA2
  clear h
  generalize hm : L.length = m at *
  have HM := Lib.hid hm
  clear hm
  go_enter Try.func46, Try.ntmps46
  go_wp2_with fail
  go_loopw [7] (fun i wr => ∃ k : Nat, k ≤ m ∧ i = .int .i64 k ∧ Hid (inDir L d s.data.toList = inDir (L.drop k) d s.data.toList) ∧ wr = w.alloc (.cells #[.slice A m c, .int .i64 last] 29)) (fun i _ => m - (intOf i).toNat)
  case atStart => exact ⟨0, Nat.zero_le _, rfl, rfl, rfl⟩
  case round =>
    obtain ⟨k, hk, rfl, hr, rfl⟩ := hrel
    by_cases hlt : k < m
    · obtain ⟨b, o, hl1, rfl, hbl, hc0, hc1, hc2, hc3, hc4⟩ := Nodes.at_ H.out hlt
      have hbw : b < w.heap.size := by omega
      obtain ⟨nm, hnmE⟩ : ∃ t : ByteArray, (⟨(L[k]).name.toArray⟩ : ByteArray) = t := ⟨_, rfl⟩
      have hnl : nm.data.toList = (L[k]).name := by rw [← hnmE]
      rw [hnmE] at hc2
      have hsb := same_bytes nm s
      rw [hnl] at hsb
      clear hnmE hnl
      by_cases hup : (L[k]).up = d
      · have t1 : ((L[k]).up == d) = true := by simpa using hup
        by_cases hnm : (L[k]).name = s.data.toList
        · have t2 : (nm.toList == s.toList) = true := by rw [hsb]; simpa using hnm
          by_cases hnu : (L[k]).num = 1
          · have t3 : ((L[k]).num != 1) = false := by simpa using hnu
            have t4 : ((L[k]).num == 1) = true := by simpa using hnu
            have HX := Lib.hid (hr.out.trans (in_on hl1 (fun e => e.2.2 hnu)))
            clear hup hnm hnu hsb
            go_wp2_with fail
            go_roundw
            case rel => exact ⟨k + 1, by omega, by go_num, HX, by trivial⟩
            case measure => simp [intOf]; omega
          · have t3 : ((L[k]).num != 1) = true := by simpa using hnu
            have t4 : ((L[k]).num == 1) = false := by simpa using hnu
            have HX := Lib.hid (hr.out.trans (in_here hl1 ⟨hup, hnm, hnu⟩))
            clear hup hnm hnu hsb
            go_wp2_with fail
            go_ret
            exact ⟨ret_int HX.out.symm, below_one w _⟩
        · have t2 : (nm.toList == s.toList) = false := by rw [hsb]; simpa using hnm
          have HX := Lib.hid (hr.out.trans (in_on hl1 (fun e => hnm e.2.1)))
          clear hup hnm hsb
          go_wp2_with fail
          go_roundw
          case rel => exact ⟨k + 1, by omega, by go_num, HX, by trivial⟩
          case measure => simp [intOf]; omega
      · have t1 : ((L[k]).up == d) = false := by simpa using hup
        have HX := Lib.hid (hr.out.trans (in_on hl1 (fun e => hup e.1)))
        clear hup hsb
        go_wp2_with fail
        go_roundw
        case rel => exact ⟨k + 1, by omega, by go_num, HX, by trivial⟩
        case measure => simp [intOf]; omega
    · have HX := Lib.hid (hr.out.trans (in_end (by rw [HM.out]; exact hlt)))
      go_wp2_with fail
      go_ret
      exact ⟨ret_int HX.out.symm, below_one w _⟩

/-! ### List -/
set_option maxHeartbeats 2000000 in
theorem refList_any (v : Value) (L : List Nd) (last d : Int) (B : Nat) (w : World) (h : Nodes B w v L) (hB : B ≤ w.heap.size) (hn : L.length ≤ 1099511627776) :
    Calls Try.prog 35 #[.agg #[v, .int .i64 last], .int .i64 d] w (HandsE w (listDir L d)) := by
  have H := Lib.hid h
  obtain ⟨A, c, rfl, hA1, hA2⟩ := h.form
  unfold maxLen at hA2
  clear h
  generalize hm : L.length = m at *
  have HM := Lib.hid hm
  clear hm
  go_enter Try.func35, Try.ntmps35
  go_wp2_with fail
  go_loopw [5, 6] (fun u i wr => ∃ (k : Nat) (out : List Ent), k ≤ m ∧ i = .int .i64 k ∧ out.length ≤ k ∧ Hid (out = listDir (L.take k) d) ∧ Hid (Ents wr.heap.size wr u out) ∧ wr.cell? ⟨w.heap.size, 0, none⟩ = some (.slice A m c) ∧ w.heap.size < wr.heap.size ∧ Below w.heap.size w wr) (fun _ i _ => m - (intOf i).toNat)
  case atStart => exact ⟨0, [], Nat.zero_le _, rfl, Nat.le_refl _, rfl, recs_nil _ _ _ _, by simp, by simp, below_one w _⟩
  case round =>
    obtain ⟨k, out, hk, rfl, hout, hr, hu, hbx, hsz, hb⟩ := hrel
    by_cases hlt : k < m
    · obtain ⟨b, o, hl1, rfl, hbl, hc0, hc1, hc2, hc3, hc4⟩ := Nodes.at_ (H.out.below (hb.mono hB)) hlt
      have hbw : b < wr.heap.size := by have := hb.size; omega
      by_cases hup : (L[k]).up = d
      · have t1 : ((L[k]).up == d) = true := by simpa using hup
        by_cases hnu : (L[k]).num = 1
        · have t4 : ((L[k]).num == 1) = true := by simpa using hnu
          have HX := Lib.hid (hr.out.trans (list_out hl1 (by simp [stands, hnu])).symm)
          clear hup hnu
          go_wp2_with fail
          go_roundw
          case rel => exact ⟨k + 1, out, by omega, by go_num, by omega, HX, hu, hbx, hsz, hb⟩
          case measure => simp [intOf]; omega
        · have t4 : ((L[k]).num == 1) = false := by simpa using hnu
          have HX := Lib.hid (list_in (d := d) hl1 (by simp [stands, hup, hnu]))
          rw [← hr.out] at HX
          have hle := M06.put_len out (entOf L[k])
          have HP := Lib.hid (refPut_any u5 out wr.heap.size ⟨(L[k]).name.toArray⟩ (L[k]).num (wr.drewN 1) (hu.out.drewN 1) (Nat.le_refl _) (by omega))
          clear hup hnu
          go_wp2_with fail
          go_region_held3 (fun w' => w'.cell? ⟨w.heap.size, 0, none⟩ = some (.slice (some ⟨b, o, none⟩) m c) ∧ w'.cell? ⟨b, o + k * 5, none⟩ = some (.int .i64 (L[k]).num) ∧ w'.cell? ⟨b, o + k * 5 + 2, none⟩ = some (.string ⟨(L[k]).name.toArray⟩))
            (first | exact ⟨(hb1.cell hsz).trans hbx, (hb1.cell hbw).trans hc0, (hb1.cell hbw).trans hc2⟩ | exact ⟨hbx, hc0, hc2⟩ | go_keep)
            (first | (go_at_call 49; refine HP.out.mono ?_; rintro e w1 ⟨u1, rfl, hu1, hb1⟩))
          all_goals (go_wp2_with fail)
          have D1 : Below w.heap.size w w1 := on (on hb (below_draws wr 1)) hb1
          have U1 := Lib.hid (W06.OwnEnts.reads hu1)
          have hy : w1.cell? ⟨w.heap.size, 0, none⟩ = some (.slice (some ⟨b, o, none⟩) m c) := (hb1.cell hsz).trans hbx
          have hz : w.heap.size < w1.heap.size := Nat.lt_of_lt_of_le hsz hb1.size
          clear hu1 hb1
          go_roundw
          case rel => exact ⟨k + 1, _, by omega, by go_num, by have := HX.out; omega, HX.symm, U1, hy, hz, D1⟩
          case measure => simp [intOf]; omega
      · have t1 : ((L[k]).up == d) = false := by simpa using hup
        have HX := Lib.hid (hr.out.trans (list_out hl1 (by simp [stands, hup])).symm)
        clear hup
        go_wp2_with fail
        go_roundw
        case rel => exact ⟨k + 1, out, by omega, by go_num, by omega, HX, hu, hbx, hsz, hb⟩
        case measure => simp [intOf]; omega
    · have HX : Hid (out = listDir L d) := hr.out.trans (by rw [List.take_of_length_le (by rw [HM.out]; omega)])
      go_wp2_with fail
      go_ret
      exact ⟨_, rfl, by rw [← HX.out]; exact hu.out, hb⟩
end Go.Proofs.Ytelphegeeiocnaa.W07
