/-
  Walks of Go's library on slices of entries: slices.Grow of nil, slices.Concat: all the entries, one slice behind the other, in new memory; nothing that was there is changed. The conditions stand in the statements.
-/
import Derived.Test.YtelphegeeiocnaaW06Around
import Derived.Test.YtelphegeeiocnaaRecAppend
import Derived.Lib.AppendZeros
import Derived.Lib.Walk
namespace Go.Proofs.Ytelphegeeiocnaa.W06
open Go Go.RowKit Go.Proofs.Ytelphegeeiocnaa.Strs Go.Proofs.Ytelphegeeiocnaa.Recs Go.Proofs.Ytelphegeeiocnaa.M06
open Go.Proofs.Ytelphegeeiocnaa.Kit (ret_str ret_bool ret_int mk_of mk_bytes ba_ext below_draws on)

theorem entC_one (r : Ent) : ∀ c ∈ entC r, c.oneCell' = true := by intro c hc; simp [entC, strV] at hc; rcases hc with rfl | rfl <;> rfl
theorem grow_none (n : Nat) (w : World) (hn : n ≤ 4398046511104) :
    Calls Try.prog 60 #[.slice none 0 0, .int .i64 n] w (MakesE w []) := by
  obtain ⟨i0, hi, hz0, hz1, hz2⟩ := info_parts ent_info
  have h1 : ¬ ((n : Int) < 0) := by omega
  rcases Nat.eq_zero_or_pos n with h0 | h0
  · subst h0
    go_enter Try.func60, Try.ntmps60
    go_wp2_with fail
    go_ret
    exact ⟨_, rfl, own_ents_nil _ _, Below.refl _ _⟩
  · have HR := Lib.hid (fun ty => Lib.run_append_nil_zeros (P := Try.prog) w 41 3 ty 45 i0 (.agg #[.string ⟨#[]⟩, .int .i64 0]) .i64 .i64 Try.underlying41 Try.underlying3 hi hz0 n h0 (by rw [hz1]; omega) (by omega) (by rw [hz2]; omega))
    have hG1 := grownCap_ge w n 0 45
    have hG2 := grownCap_le_maxLen w n 0 45 (by unfold maxLen; omega)
    generalize grownCap w n 0 45 = G at *
    have HZ : Hid ((Builtin.zeroCells (Value.agg #[.string ⟨#[]⟩, .int .i64 0]).cells n ++ Builtin.zeroCells (Value.agg #[.string ⟨#[]⟩, .int .i64 0]).cells (G - n)).size = G * 2) := by
      show _ = _
      simp [Builtin.zeroCells]
      rw [show (Value.agg #[.string ⟨#[]⟩, .int .i64 0]).cells.size = 2 from rfl]
      omega
    unfold maxLen at hG2
    generalize Builtin.zeroCells (Value.agg #[.string ⟨#[]⟩, .int .i64 0]).cells n ++ Builtin.zeroCells (Value.agg #[.string ⟨#[]⟩, .int .i64 0]).cells (G - n) = Z at *
    go_enter Try.func60, Try.ntmps60
    go_wp2_with (at_builtin; refine Lib.wpList_append_run _ rfl _ _ _ _ rfl _ _ rfl rfl _ _ (HR.out _) ?_)
    go_ret
    refine ⟨_, rfl, ⟨rfl, Or.inr ⟨w.heap.size, G, Z, rfl, Nat.le_refl _, ?_, Nat.zero_le _, ?_, HZ.out, by simp⟩⟩, ?_⟩
    · show (w.heap.push _)[w.heap.size]? = _
      simp
    · unfold maxLen; omega
    · exact ((Below.refl w.heap.size w).alloc (Nat.le_refl _) _).drew
/-- a row of slices of entries -/
def Lists (B : Nat) (w : World) (b o : Nat) (Ls : List (List Ent)) : Prop := ∀ j (h : j < Ls.length), ∃ A c, w.cell? ⟨b, o + j, none⟩ = some (.slice A (Ls[j]).length c) ∧ Ents B w (.slice A (Ls[j]).length c) Ls[j]
theorem Lists.below {B : Nat} {w w' : World} {b o : Nat} {Ls : List (List Ent)} (h : Lists B w b o Ls) (hb : b < B) (hw : Below B w w') : Lists B w' b o Ls := fun j hj => by
  obtain ⟨A, c, h1, h2⟩ := h j hj
  exact ⟨A, c, by rw [hw.cell hb]; exact h1, h2.below hw⟩
theorem flat_next {Ls : List (List Ent)} {k : Nat} (hk : k < Ls.length) : (Ls.take (k + 1)).flatten = (Ls.take k).flatten ++ Ls[k] := by
  rw [List.take_succ_eq_append_getElem hk, List.flatten_append]; simp
theorem flat_all {Ls : List (List Ent)} {k : Nat} (hk : ¬ k < Ls.length) : (Ls.take k).flatten = Ls.flatten := by rw [List.take_of_length_le (by omega)]
theorem flat_upto (Ls : List (List Ent)) (k : Nat) : (Ls.take k).flatten.length ≤ Ls.flatten.length := by
  have : Ls.flatten = (Ls.take k).flatten ++ (Ls.drop k).flatten := by rw [← List.flatten_append, List.take_append_drop]
  rw [this, List.length_append]; omega
theorem own_ents_all {w : World} {base : Nat} {v : Value} {out L : List Ent} (h : w.ownsRow base 45 2 v (out.length + L.length) (out.flatMap entC ++ L.flatMap entC)) : OwnEnts w base v (out ++ L) := by
  unfold OwnEnts
  rw [List.length_append, List.flatMap_append]
  exact h
set_option maxHeartbeats 1000000 in
theorem concat_any (b o m cap B : Nat) (Ls : List (List Ent)) (w : World) (hm : Ls.length = m) (hL : Lists B w b o Ls) (hb : b < B) (hB : B ≤ w.heap.size) (hm2 : m ≤ 1099511627776) (ht : Ls.flatten.length ≤ 4398046511104) :
    Calls Try.prog 54 #[.slice (some ⟨b, o, none⟩) m cap] w (MakesE w Ls.flatten) := by
  obtain ⟨i0, hi, hz0, hz1, hz2⟩ := info_parts ent_info
  have H := Lib.hid hL
  have HM := Lib.hid hm
  clear hL hm
  have HI := Lib.hid hi
  go_enter Try.func54, Try.ntmps54
  go_wp2_with fail
  go_loopw [3, 11] (fun u i wr => ∃ k z : Nat, k ≤ m ∧ i = .int .i64 k ∧ u = .int .i64 z ∧ Hid (z = (Ls.take k).flatten.length) ∧ wr = w) (fun _ i _ => m - (intOf i).toNat)
  case atStart => exact ⟨0, 0, Nat.zero_le _, rfl, rfl, rfl, rfl⟩
  case round =>
    obtain ⟨k, z, hk, rfl, rfl, hz, hwr⟩ := hrel
    have hwr := hwr.symm
    subst hwr
    by_cases hlt : k < m
    · have hk2 : k < Ls.length := by rw [HM.out]; exact hlt
      obtain ⟨A, c, hc, hE⟩ := H.out k hk2
      have hup := flat_upto Ls (k + 1)
      rw [flat_next hk2, List.length_append, ← hz.out] at hup
      have HZ : Hid (z + (Ls[k]).length = (Ls.take (k + 1)).flatten.length) := by show _ = _; rw [flat_next hk2, List.length_append, ← hz.out]
      clear hE
      generalize (Ls[k]).length = n at *
      have h0 : ¬ ((z : Int) + (n : Int) < 0) := by omega
      go_wp2_with fail
      go_roundw
      case rel => exact ⟨k + 1, z + n, by omega, by go_num, by go_num, HZ, by trivial⟩
      case measure => simp [intOf]; omega
    · have HZ : Hid (z = Ls.flatten.length) := hz.out.trans (by rw [flat_all (by rw [HM.out]; exact hlt)])
      have hzz : z ≤ 4398046511104 := by rw [HZ.out]; exact ht
      go_wp2_with fail
      refine (grow_none z w hzz).mono ?_
      rintro e w1 ⟨u, rfl, hu, hb1⟩
      have U := Lib.hid hu
      have B1 := Lib.hid hb1
      clear hu hb1
      clear hzz HZ hz
      go_wp2_with fail
      go_loopw [6, 27] (fun u i wr => ∃ k : Nat, k ≤ m ∧ i = .int .i64 k ∧ Hid (OwnEnts wr w.heap.size u (Ls.take k).flatten) ∧ Below w.heap.size w wr) (fun _ i _ => m - (intOf i).toNat)
      case atStart => exact ⟨0, Nat.zero_le _, rfl, U.out, B1.out⟩
      case round =>
        clear U B1
        obtain ⟨k, hk, rfl, hown, hb1⟩ := hrel
        have hbs := hb1.size
        by_cases hlt : k < m
        · have hk2 : k < Ls.length := by rw [HM.out]; exact hlt
          obtain ⟨A, c, hc, hE⟩ := (H.out.below hb (hb1.mono hB)) k hk2
          have hup := flat_upto Ls (k + 1)
          have HN := Lib.hid (flat_next hk2)
          rw [HN.out, List.length_append] at hup
          have HE := Lib.hid hE
          have HT := Lib.hid ht
          clear hE ht
          generalize (Ls.take k).flatten = out at *
          generalize Ls[k] = L at *
          have a1 : out.length + L.length ≤ maxLen := by have := HT.out; unfold maxLen; omega
          have a2 : (out.length + L.length) * 24 ≤ 140737488355328 := by have := HT.out; omega
          go_wp2_with (at_builtin; refine wpList_append_recs rfl (.tmp 31) (.tmp 32) 41 rfl w.heap.size 45 i0 (.agg #[.string ⟨#[]⟩, .int .i64 0]) 2 24 Try.underlying41 HI.out hz0 hz1 hz2 rfl (by decide) _ _ _ rfl hown.out _ L B rfl HE.out entC_len entC_one a1 a2 hbs ?_; intro v1 w2 hown1 hg2 _)
          have O2 := Lib.hid (own_ents_all hown1)
          have B2 := Lib.hid (hb1.grown hg2 hbs (fun k hk => (hown.out.lt k hk).1))
          clear hown1 hg2 a1 a2
          rw [← HN.out] at O2
          go_wp2
          go_roundw
          case rel => exact ⟨k + 1, by omega, by go_num, O2, B2.out⟩
          case measure => simp [intOf]; omega
        · have HX := Lib.hid (flat_all (Ls := Ls) (k := k) (by rw [HM.out]; exact hlt))
          rw [HX.out] at hown
          go_wp2_with fail
          go_ret
          exact ⟨_, rfl, hown.out, hb1⟩
end Go.Proofs.Ytelphegeeiocnaa.W06
