/-
  Layer 6 (ents), walks: the plain answers Merge, Next and Same: what each returns; new memory may be laid, nothing that was there is changed.
-/
import Derived.Test.YtelphegeeiocnaaW06Put
import Derived.Laws.ResultCell
import Derived.Laws.NewBlocks
namespace Go.Proofs.Ytelphegeeiocnaa.W06
open Go Go.RowKit Go.Proofs.Ytelphegeeiocnaa.Strs Go.Proofs.Ytelphegeeiocnaa.Recs Go.Proofs.Ytelphegeeiocnaa.M06
open Go.Proofs.Ytelphegeeiocnaa.M03 (lt)
open Go.Proofs.Ytelphegeeiocnaa.W03 (less_bytes same_bytes)
open Go.Proofs.Ytelphegeeiocnaa.Kit (ret_str ret_bool ret_int mk_of mk_bytes ba_ext below_draws on)

/-- what a call returns that hands out entries -/
def HandsE (w : World) (L : List Ent) (e : Ending) (w' : World) : Prop := ∃ v, e = .returned v ∧ Ents w'.heap.size w' v L ∧ Below w.heap.size w w'
theorem makes_handsE {w w' : World} {L : List Ent} {e : Ending} (h : MakesE w L e w') : HandsE w L e w' := by
  obtain ⟨v, he, hown, hb⟩ := h
  exact ⟨v, he, hown.reads, hb⟩
theorem fold_at {M out : List Ent} {k : Nat} (hk : k < M.length) : (M.take (k + 1)).foldl put out = put ((M.take k).foldl put out) M[k] := by
  rw [take_at hk, List.foldl_append]; rfl

/-! ### Next -/
theorem next_here {L : List Ent} {s : List UInt8} {k : Nat} (hk : k < L.length) (h : lt s (L[k]).1) : next (L.drop k) s = (L[k], true) := by
  rw [drop_at hk, next, if_pos h]
theorem next_on {L : List Ent} {s : List UInt8} {k : Nat} (hk : k < L.length) (h : ¬ lt s (L[k]).1) : next (L.drop k) s = next (L.drop (k + 1)) s := by
  rw [drop_at hk, next, if_neg h]
theorem next_end {L : List Ent} {s : List UInt8} {k : Nat} (hk : ¬ k < L.length) : next (L.drop k) s = (([], 0), false) := by
  rw [List.drop_of_length_le (by omega)]; rfl
theorem below_box (w : World) (o : Obj) (q : Nat) (v0 v1 : Value) : Below w.heap.size w ((((w.alloc o).drewN q).setCell ⟨w.heap.size, 0, none⟩ v0).setCell ⟨w.heap.size, 1, none⟩ v1) := by
  have h1 : Below w.heap.size w ((w.alloc o).drewN q) := ((Below.refl w.heap.size w).alloc (Nat.le_refl _) o).trans ((below_draws (w.alloc o) q).mono (by simp))
  exact (h1.setCell (Nat.le_refl _) _).setCell (Nat.le_refl _) _
/-- an entry's value -/
def entV (e : Ent) : Value := .agg #[strV e.1, .int .i64 e.2]


/-! ### Same -/
theorem ents_upto {La Lb : List Ent} {k : Nat} (hl : La.length = Lb.length) (hk : ¬ k < La.length) (h : ∀ j (h1 : j < La.length) (h2 : j < Lb.length), j < k → La[j] = Lb[j]) : La = Lb := by
  apply List.ext_getElem hl
  intro i h1 h2
  exact h i h1 h2 (by omega)
set_option maxHeartbeats 400000 in
theorem refSame_any (va vb : Value) (La Lb : List Ent) (B : Nat) (w : World) (ha : Ents B w va La) (hb : Ents B w vb Lb) :
    Calls Try.prog 36 #[va, vb] w fun e w' => e = .returned (.bool (decide (La = Lb))) ∧ ∃ n, w' = w.drewN n := by
  obtain ⟨A, c, rfl, hA1, hA2⟩ := ha.form
  obtain ⟨A', c', rfl, hB1, hB2⟩ := hb.form
  unfold maxLen at hA2 hB2
  by_cases hl : La.length = Lb.length
  · have HL := Lib.hid hl
    have HA := Lib.hid ha
    have HB := Lib.hid (hl ▸ hb)
    have hne : ((La.length : Int) != (Lb.length : Int)) = false := by simp [hl]
    rw [← hl]
    rw [← hl] at hB1 hne
    clear hl ha hb hne
    generalize hn : La.length = n at *
    have HN := Lib.hid hn
    clear hn
    go_enter Try.func36, Try.ntmps36
    go_wp2
    go_loopw [5] (fun i wr => ∃ k : Nat, k ≤ n ∧ i = .int .i64 k ∧ Hid (∀ j (h1 : j < La.length) (h2 : j < Lb.length), j < k → La[j] = Lb[j]) ∧ ∃ q, wr = w.drewN q) (fun i _ => n - (intOf i).toNat)
    case atStart => exact ⟨0, Nat.zero_le _, rfl, fun j _ _ hj => by omega, 0, rfl⟩
    case round =>
      obtain ⟨k, hk, rfl, hr, q, rfl⟩ := hrel
      by_cases hlt : k < n
      · obtain ⟨b, o, hl1, s, rfl, hbl, hs, hc0, hc1⟩ := Ents.at_ HA.out hlt
        obtain ⟨b', o', hl2, s', rfl, hbl', hs', hd0, hd1⟩ := Ents.at_ HB.out hlt
        have HS := Lib.hid hs
        have HS' := Lib.hid hs'
        clear hs hs'
        have HE : Hid (La[k] = Lb[k] ↔ s.data.toList = s'.data.toList ∧ (La[k]).2 = (Lb[k]).2) := by
          show _ ↔ _
          rw [HS.out, HS'.out]
          exact Prod.ext_iff
        have hsb := same_bytes s s'
        by_cases h1 : s.data.toList = s'.data.toList
        · have t1 : (s.toList == s'.toList) = true := by rw [hsb]; simpa using h1
          by_cases h2 : (La[k]).2 = (Lb[k]).2
          · have t2 : ((La[k]).2 == (Lb[k]).2) = true := by simpa using h2
            have HX : Hid (La[k] = Lb[k]) := HE.out.2 ⟨h1, h2⟩
            clear h1 h2 hsb
            go_wp2_with fail
            go_quiet (fail)
            go_wp2_with fail
            go_roundw
            case rel => exact ⟨k + 1, by omega, by go_num, fun j h1 h2 hj => by
              by_cases e : j = k
              · subst e; exact HX.out
              · exact hr.out j h1 h2 (by omega), q + nq, by first | rfl | rw [World.drewN_drewN]⟩
            case measure => simp [intOf]; omega
          · have t2 : ((La[k]).2 == (Lb[k]).2) = false := by simpa using h2
            have HX : Hid (¬ La = Lb) := fun e => h2 (by simp only [e])
            clear h1 h2 hsb
            go_wp2_with fail
            go_quiet (fail)
            go_wp2_with fail
            go_ret
            exact ⟨ret_bool (decide_eq_false HX.out).symm, q + nq, by first | rfl | rw [World.drewN_drewN]⟩
        · have t1 : (s.toList == s'.toList) = false := by rw [hsb]; simpa using h1
          have HX : Hid (¬ La = Lb) := fun e => h1 (by rw [HS.out, HS'.out]; simp only [e])
          clear h1 hsb
          go_wp2_with fail
          go_quiet (fail)
          go_wp2_with fail
          go_ret
          exact ⟨ret_bool (decide_eq_false HX.out).symm, q + nq, by first | rfl | rw [World.drewN_drewN]⟩
      · have HX := Lib.hid (ents_upto (HN.out.trans HL.out) (k := k) (by rw [HN.out]; exact hlt) hr.out)
        go_wp2
        go_ret
        exact ⟨ret_bool (decide_eq_true HX.out).symm, q, rfl⟩
  · have hne : ((La.length : Int) != (Lb.length : Int)) = true := by simp; omega
    have hd : ¬ La = Lb := fun e => hl (by rw [e])
    go_enter Try.func36, Try.ntmps36
    go_wp2
    go_ret
    exact ⟨ret_bool (by simp [hd]), 0, rfl⟩
end Go.Proofs.Ytelphegeeiocnaa.W06
