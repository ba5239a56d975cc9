/-
  Layer 6 (ents), walks: the plain answers Merge, Next and Same: what each returns; new memory may be laid, nothing that was there is changed.
-/
import Derived.Test.YtnfamakpbgaoiaaW06Put
import Derived.Laws.ResultCell
import Derived.Laws.NewBlocks
namespace Go.Proofs.Ytnfamakpbgaoiaa.W06
open Go Go.RowKit Go.Proofs.Ytnfamakpbgaoiaa.Strs Go.Proofs.Ytnfamakpbgaoiaa.Recs Go.Proofs.Ytnfamakpbgaoiaa.M06
open Go.Proofs.Ytnfamakpbgaoiaa.M03 (lt)
open Go.Proofs.Ytnfamakpbgaoiaa.W03 (less_bytes same_bytes)
open Go.Proofs.Ytnfamakpbgaoiaa.Kit (ret_str ret_bool ret_int mk_of mk_bytes ba_ext below_draws on)

/-- what a call returns that hands out entries -/
def HandsE (w : World) (L : List Ent) (e : Ending) (w' : World) : Prop := ∃ v, e = .returned v ∧ Ents w'.heap.size w' v L ∧ Below w.heap.size w w'
theorem makes_handsE {w w' : World} {L : List Ent} {e : Ending} (h : MakesE w L e w') : HandsE w L e w' := by
  obtain ⟨v, he, hown, hb⟩ := h
  exact ⟨v, he, hown.reads, hb⟩
theorem fold_at {M out : List Ent} {k : Nat} (hk : k < M.length) : (M.take (k + 1)).foldl put out = put ((M.take k).foldl put out) M[k] := by
  rw [take_at hk, List.foldl_append]; rfl

set_option maxHeartbeats 1000000 in
theorem refMerge_any (va vb : Value) (La Lb : List Ent) (w : World) (ha : Ents w.heap.size w va La) (hb : Ents w.heap.size w vb Lb) (hna : La.length ≤ 549755813888) (hnb : Lb.length ≤ 549755813888) :
    Calls Try.prog 20 #[va, vb] w (HandsE w (merge La Lb)) := by
  have HB := Lib.hid (refAll_any vb Lb w.heap.size w hb (by omega))
  have HA := Lib.hid (fun q => refAll_any va La w.heap.size (w.drewN q) (ha.drewN q) (by omega))
  obtain ⟨A0, c0, rfl, -, -⟩ := ha.form
  obtain ⟨A1, c1, rfl, -, -⟩ := hb.form
  have la := all_len La
  have lb := all_len Lb
  clear ha hb
  have HM0 : Hid (merge La Lb = (all La).foldl put (all Lb)) := rfl
  generalize merge La Lb = R at *
  generalize all La = M at *
  generalize all Lb = N at *
  go_enter Try.func20, Try.ntmps20
  go_wp2_with fail
  refine HB.out.mono ?_
  rintro e w1 ⟨⟨u, rfl, hu⟩, q0, rfl⟩
  have HU := Lib.hid hu
  clear hu
  go_wp2_with fail
  refine (HA.out q0).mono ?_
  rintro e w2 ⟨⟨x, rfl, hx⟩, q1, rfl⟩
  have H : Hid (Ents w.heap.size w x M) := hx
  obtain ⟨A, c, rfl, hA1, hA2⟩ := hx.form
  clear hx
  unfold maxLen at hA2
  generalize hm : M.length = n at *
  have HM := Lib.hid hm
  clear hm
  have B0 : Below w.heap.size w ((w.drewN q0).drewN q1) := by rw [World.drewN_drewN]; exact below_draws w _
  have U0 : Hid (Ents ((w.drewN q0).drewN q1).heap.size ((w.drewN q0).drewN q1) u N) := HU.out
  generalize (w.drewN q0).drewN q1 = W0 at *
  go_wp2_with fail
  go_loopw [5, 6] (fun u i wr => ∃ (k : Nat) (out : List Ent), k ≤ n ∧ i = .int .i64 k ∧ out.length ≤ N.length + k ∧ Hid (out = (M.take k).foldl put N) ∧ Hid (Ents wr.heap.size wr u out) ∧ Below w.heap.size w wr) (fun _ i _ => n - (intOf i).toNat)
  case atStart => exact ⟨0, N, Nat.zero_le _, rfl, Nat.le_refl _, rfl, U0, B0⟩
  case round =>
    obtain ⟨k, out, hk, rfl, hout, hr, hown, hb⟩ := hrel
    by_cases hlt : k < n
    · obtain ⟨b, o, hl1, t, rfl, hbl, ht, hc0, hc1⟩ := Ents.at_ (H.out.below hb) hlt
      have HX := Lib.hid (fold_at (out := N) hl1)
      rw [← hr.out] at HX
      have HPT := Lib.hid (refPut_any u5 out wr.heap.size t (M[k]).2 wr hown.out (Nat.le_refl _) (by omega))
      have HE : Hid ((t.data.toList, (M[k]).2) = M[k]) := by show _ = _; rw [ht]
      rw [HE.out] at HPT
      have hl2 := put_len out M[k]
      clear ht
      go_wp2_with fail
      refine HPT.out.mono ?_
      rintro e w3 ⟨u3, rfl, hu3, hb3⟩
      have B3 := Lib.hid (on hb hb3)
      have U3 := Lib.hid hu3.reads
      clear hu3 hb3
      go_wp2_with fail
      go_roundw
      case rel => exact ⟨k + 1, _, by omega, by go_num, by omega, HX.symm, U3, B3.out⟩
      case measure => simp [intOf]; omega
    · have HX : Hid (out = R) := hr.out.trans (by rw [HM0.out, take_all (by rw [HM.out]; exact hlt)])
      go_wp2_with fail
      go_ret
      exact ⟨_, rfl, by rw [← HX.out]; exact hown.out, hb⟩
/-! ### Next -/
theorem next_here {L : List Ent} {s : List UInt8} {k : Nat} (hk : k < L.length) (h : lt s (L[k]).1) : next (L.drop k) s = (L[k], true) := by
  rw [drop_at hk, next, if_pos h]
theorem next_on {L : List Ent} {s : List UInt8} {k : Nat} (hk : k < L.length) (h : ¬ lt s (L[k]).1) : next (L.drop k) s = next (L.drop (k + 1)) s := by
  rw [drop_at hk, next, if_neg h]
theorem next_end {L : List Ent} {s : List UInt8} {k : Nat} (hk : ¬ k < L.length) : next (L.drop k) s = (([], 0), false) := by
  rw [List.drop_of_length_le (by omega)]; rfl
theorem below_box (w : World) (o : Obj) (q : Nat) (v0 v1 : Value) : Below w.heap.size w ((((w.alloc o).drewN q).setCell ⟨w.heap.size, 0, none⟩ v0).setCell ⟨w.heap.size, 1, none⟩ v1) := by
  have h1 : Below w.heap.size w ((w.alloc o).drewN q) := ((Below.refl w.heap.size w).alloc (Nat.le_refl _) o).trans ((below_draws (w.alloc o) q).mono (by simp))
  exact (h1.setCell (Nat.le_refl _) _).setCell (Nat.le_refl _) _
/-- an entry's value -/
def entV (e : Ent) : Value := .agg #[strV e.1, .int .i64 e.2]

set_option maxHeartbeats 1000000 in
theorem refNext_any (v : Value) (L : List Ent) (B : Nat) (s : ByteArray) (w : World) (h : Ents B w v L) (hB : B ≤ w.heap.size) (hn : L.length ≤ 1099511627776) :
    Calls Try.prog 9 #[v, .string s] w fun e w' => e = .returned (.tuple #[entV (next (all L) s.data.toList).1, .bool (next (all L) s.data.toList).2]) ∧ Below w.heap.size w w' := by
  have HA := Lib.hid (fun w h => refAll_any v L B w h hn)
  have H0 := Lib.hid h
  obtain ⟨A0, c0, rfl, -, -⟩ := h.form
  clear h
  have la := all_len L
  generalize all L = M at *
  go_enter Try.func9, Try.ntmps9
  go_wp2_with fail
  refine (HA.out _ (H0.out.alloc hB _)).mono ?_
  rintro e w1 ⟨⟨u, rfl, hu⟩, q0, rfl⟩
  have H := Lib.hid hu
  obtain ⟨A, c, rfl, hA1, hA2⟩ := hu.form
  clear hu
  unfold maxLen at hA2
  generalize hm : M.length = n at *
  have HM := Lib.hid hm
  clear hm
  go_wp2_with fail
  go_loopw [6] (fun i wr => ∃ k : Nat, k ≤ n ∧ i = .int .i64 k ∧ Hid (next M s.data.toList = next (M.drop k) s.data.toList) ∧ wr = (w.alloc (.cells #[.string ⟨#[]⟩, .int .i64 0] 24)).drewN q0) (fun i _ => n - (intOf i).toNat)
  case atStart => exact ⟨0, Nat.zero_le _, rfl, rfl, rfl⟩
  case round =>
    obtain ⟨k, hk, rfl, hr, rfl⟩ := hrel
    by_cases hlt : k < n
    · obtain ⟨b, o, hl1, t, rfl, hbl, ht, hc0, hc1⟩ := Ents.at_ H.out hlt
      have hlb := less_bytes t s
      have hsb := same_bytes t s
      by_cases hl : lt s.data.toList t.data.toList
      · have t1 : Op.bytesLess t.toList s.toList = false := by rw [hlb]; simpa using M03.lt_asymm hl
        have t2 : (t.toList == s.toList) = false := by rw [hsb]; simpa using fun e : t.data.toList = s.data.toList => M03.lt_irrefl _ (e ▸ hl)
        have HX := Lib.hid (hr.out.trans (next_here hl1 (by rw [← ht]; exact hl)))
        have HT := Lib.hid (ent_text ht)
        clear hsb hlb hl ht
        go_wp2_with fail
        refine bodyPost_ret_by (v := .tuple #[.agg #[.string t, .int .i64 (M[k]).2], .bool true]) ?_ rfl ?_
        · rw [results_cell_tmp rfl]
          go_simp
        · refine ⟨?_, below_box w _ q0 _ _⟩
          rw [HX.out, HT.out]; rfl
      · have HX := Lib.hid (hr.out.trans (next_on hl1 (by rw [← ht]; exact hl)))
        by_cases hl2 : lt t.data.toList s.data.toList
        · have t1 : Op.bytesLess t.toList s.toList = true := by rw [hlb]; simpa using hl2
          clear hlb hsb hl ht hl2
          go_wp2_with fail
          go_roundw
          case rel => exact ⟨k + 1, by omega, by go_num, HX, by trivial⟩
          case measure => simp [intOf]; omega
        · have t1 : Op.bytesLess t.toList s.toList = false := by rw [hlb]; simpa using hl2
          have t2 : (t.toList == s.toList) = true := by
            rw [hsb]
            rcases M03.lt_total t.data.toList s.data.toList with e | e | e
            · exact absurd e hl2
            · simpa using e
            · exact absurd e hl
          clear hlb hsb hl ht hl2
          go_wp2_with fail
          go_roundw
          case rel => exact ⟨k + 1, by omega, by go_num, HX, by trivial⟩
          case measure => simp [intOf]; omega
    · have HX := Lib.hid (hr.out.trans (next_end (by rw [HM.out]; exact hlt)))
      go_wp2_with fail
      refine bodyPost_ret_by (v := .tuple #[.agg #[.string ⟨#[]⟩, .int .i64 0], .bool false]) ?_ rfl ?_
      · rw [results_cell_tmp rfl]
        go_simp
      · refine ⟨?_, below_box w _ q0 _ _⟩
        rw [HX.out]; rfl

/-! ### Same -/
theorem ents_upto {La Lb : List Ent} {k : Nat} (hl : La.length = Lb.length) (hk : ¬ k < La.length) (h : ∀ j (h1 : j < La.length) (h2 : j < Lb.length), j < k → La[j] = Lb[j]) : La = Lb := by
  apply List.ext_getElem hl
  intro i h1 h2
  exact h i h1 h2 (by omega)
set_option maxHeartbeats 400000 in
theorem refSame_any (va vb : Value) (La Lb : List Ent) (B : Nat) (w : World) (ha : Ents B w va La) (hb : Ents B w vb Lb) :
    Calls Try.prog 14 #[va, vb] w fun e w' => e = .returned (.bool (decide (La = Lb))) ∧ ∃ n, w' = w.drewN n := by
  obtain ⟨A, c, rfl, hA1, hA2⟩ := ha.form
  obtain ⟨A', c', rfl, hB1, hB2⟩ := hb.form
  unfold maxLen at hA2 hB2
  by_cases hl : La.length = Lb.length
  · have HL := Lib.hid hl
    have HA := Lib.hid ha
    have HB := Lib.hid (hl ▸ hb)
    have hne : ((La.length : Int) != (Lb.length : Int)) = false := by simp [hl]
    rw [← hl]
    rw [← hl] at hB1 hne
    clear hl ha hb hne
    generalize hn : La.length = n at *
    have HN := Lib.hid hn
    clear hn
    go_enter Try.func14, Try.ntmps14
    go_wp2
    go_loopw [5] (fun i wr => ∃ k : Nat, k ≤ n ∧ i = .int .i64 k ∧ Hid (∀ j (h1 : j < La.length) (h2 : j < Lb.length), j < k → La[j] = Lb[j]) ∧ ∃ q, wr = w.drewN q) (fun i _ => n - (intOf i).toNat)
    case atStart => exact ⟨0, Nat.zero_le _, rfl, fun j _ _ hj => by omega, 0, rfl⟩
    case round =>
      obtain ⟨k, hk, rfl, hr, q, rfl⟩ := hrel
      by_cases hlt : k < n
      · obtain ⟨b, o, hl1, s, rfl, hbl, hs, hc0, hc1⟩ := Ents.at_ HA.out hlt
        obtain ⟨b', o', hl2, s', rfl, hbl', hs', hd0, hd1⟩ := Ents.at_ HB.out hlt
        have HS := Lib.hid hs
        have HS' := Lib.hid hs'
        clear hs hs'
        have HE : Hid (La[k] = Lb[k] ↔ s.data.toList = s'.data.toList ∧ (La[k]).2 = (Lb[k]).2) := by
          show _ ↔ _
          rw [HS.out, HS'.out]
          exact Prod.ext_iff
        have hsb := same_bytes s s'
        by_cases h1 : s.data.toList = s'.data.toList
        · have t1 : (s.toList == s'.toList) = true := by rw [hsb]; simpa using h1
          by_cases h2 : (La[k]).2 = (Lb[k]).2
          · have t2 : ((La[k]).2 == (Lb[k]).2) = true := by simpa using h2
            have HX : Hid (La[k] = Lb[k]) := HE.out.2 ⟨h1, h2⟩
            clear h1 h2 hsb
            go_wp2_with fail
            go_quiet (fail)
            go_wp2_with fail
            go_roundw
            case rel => exact ⟨k + 1, by omega, by go_num, fun j h1 h2 hj => by
              by_cases e : j = k
              · subst e; exact HX.out
              · exact hr.out j h1 h2 (by omega), q + nq, by first | rfl | rw [World.drewN_drewN]⟩
            case measure => simp [intOf]; omega
          · have t2 : ((La[k]).2 == (Lb[k]).2) = false := by simpa using h2
            have HX : Hid (¬ La = Lb) := fun e => h2 (by simp only [e])
            clear h1 h2 hsb
            go_wp2_with fail
            go_quiet (fail)
            go_wp2_with fail
            go_ret
            exact ⟨ret_bool (decide_eq_false HX.out).symm, q + nq, by first | rfl | rw [World.drewN_drewN]⟩
        · have t1 : (s.toList == s'.toList) = false := by rw [hsb]; simpa using h1
          have HX : Hid (¬ La = Lb) := fun e => h1 (by rw [HS.out, HS'.out]; simp only [e])
          clear h1 hsb
          go_wp2_with fail
          go_quiet (fail)
          go_wp2_with fail
          go_ret
          exact ⟨ret_bool (decide_eq_false HX.out).symm, q + nq, by first | rfl | rw [World.drewN_drewN]⟩
      · have HX := Lib.hid (ents_upto (HN.out.trans HL.out) (k := k) (by rw [HN.out]; exact hlt) hr.out)
        go_wp2
        go_ret
        exact ⟨ret_bool (decide_eq_true HX.out).symm, q, rfl⟩
  · have hne : ((La.length : Int) != (Lb.length : Int)) = true := by simp; omega
    have hd : ¬ La = Lb := fun e => hl (by rw [e])
    go_enter Try.func14, Try.ntmps14
    go_wp2
    go_ret
    exact ⟨ret_bool (by simp [hd]), 0, rfl⟩
end Go.Proofs.Ytnfamakpbgaoiaa.W06
