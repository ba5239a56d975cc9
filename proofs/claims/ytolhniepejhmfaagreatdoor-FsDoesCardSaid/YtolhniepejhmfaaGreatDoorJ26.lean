/-
  Texts joined, in build order, each with its own comment and its own conditions: W08Concat.
-/
import Derived.Test.YtolhniepejhmfaaGreatDoorJ11
import Derived.Test.YtolhniepejhmfaaGreatDoorJ10
import Derived.Lib.AppendZeros
import Derived.Lib.Walk
/-
  Walks of Go's library on slices of texts: slices.Grow of nil, slices.Concat: all the texts, one slice behind the other, in new memory; nothing that was there is changed. The conditions stand in the statements.
-/
namespace Go.Proofs.YtolhniepejhmfaaGreatDoor.W08
set_option maxRecDepth 100000
open Go Go.RowKit Go.Proofs.YtolhniepejhmfaaGreatDoor.Strs Go.Proofs.YtolhniepejhmfaaGreatDoor.Recs
open Go.Proofs.YtolhniepejhmfaaGreatDoor.W04 (Makes)
open Go.Proofs.YtolhniepejhmfaaGreatDoor.M07 (Bytes)
open Go.Proofs.YtolhniepejhmfaaGreatDoor.Kit (ret_str ret_bool ret_int mk_of mk_bytes ba_ext below_draws on)

theorem growT_none (n : Nat) (w : World) (hn : n ≤ 4398046511104) :
    Calls Tryz.prog 119 #[.slice none 0 0, .int .i64 n] w (Makes w []) := by
  obtain ⟨i0, hi, hz0, hz1, hz2⟩ := info_parts text_info
  have h1 : ¬ ((n : Int) < 0) := by omega
  rcases Nat.eq_zero_or_pos n with h0 | h0
  · subst h0
    go_enter Tryz.func119, Tryz.ntmps119
    go_wp2_with fail
    go_ret
    exact ⟨_, rfl, World.ownsRow_nil _ _ _ _, Below.refl _ _⟩
  · have HR := Lib.hid (fun ty => Lib.run_append_nil_zeros (P := Tryz.prog) w 131 3 ty 9 i0 (.string ⟨#[]⟩) .i64 .i64 Tryz.underlying131 Tryz.underlying3 hi hz0 n h0 (by rw [hz1]; omega) (by omega) (by rw [hz2]; omega))
    have hG1 := grownCap_ge w n 0 9
    have hG2 := grownCap_le_maxLen w n 0 9 (by unfold maxLen; omega)
    generalize grownCap w n 0 9 = G at *
    have HZ : Hid ((Builtin.zeroCells (Value.string ⟨#[]⟩).cells n ++ Builtin.zeroCells (Value.string ⟨#[]⟩).cells (G - n)).size = G * 1) := by
      show _ = _
      simp [Builtin.zeroCells]
      rw [show (Value.string ⟨#[]⟩).cells.size = 1 from rfl]
      omega
    unfold maxLen at hG2
    generalize Builtin.zeroCells (Value.string ⟨#[]⟩).cells n ++ Builtin.zeroCells (Value.string ⟨#[]⟩).cells (G - n) = Z at *
    go_enter Tryz.func119, Tryz.ntmps119
    go_wp2_with (at_builtin; refine Lib.wpList_append_run _ rfl _ _ _ _ rfl _ _ rfl rfl _ _ (HR.out _) ?_)
    go_ret
    refine ⟨_, rfl, ⟨rfl, Or.inr ⟨w.heap.size, G, Z, rfl, Nat.le_refl _, ?_, Nat.zero_le _, ?_, HZ.out, by simp⟩⟩, ?_⟩
    · show (w.heap.push _)[w.heap.size]? = _
      simp
    · unfold maxLen; omega
    · exact ((Below.refl w.heap.size w).alloc (Nat.le_refl _) _).drew
/-- a row of slices of texts -/
def TextLists (B : Nat) (w : World) (b o : Nat) (Ls : List (List Bytes)) : Prop := ∀ j (h : j < Ls.length), ∃ A c, w.cell? ⟨b, o + j, none⟩ = some (.slice A (Ls[j]).length c) ∧ Texts B w (.slice A (Ls[j]).length c) Ls[j]
theorem TextLists.below {B : Nat} {w w' : World} {b o : Nat} {Ls : List (List Bytes)} (h : TextLists B w b o Ls) (hb : b < B) (hw : Below B w w') : TextLists B w' b o Ls := fun j hj => by
  obtain ⟨A, c, h1, h2⟩ := h j hj
  exact ⟨A, c, by rw [hw.cell hb]; exact h1, h2.below hw⟩
theorem flatT_next {Ls : List (List Bytes)} {k : Nat} (hk : k < Ls.length) : (Ls.take (k + 1)).flatten = (Ls.take k).flatten ++ Ls[k] := by
  rw [List.take_succ_eq_append_getElem hk, List.flatten_append]; simp
theorem flatT_all {Ls : List (List Bytes)} {k : Nat} (hk : ¬ k < Ls.length) : (Ls.take k).flatten = Ls.flatten := by rw [List.take_of_length_le (by omega)]
theorem flatT_upto (Ls : List (List Bytes)) (k : Nat) : (Ls.take k).flatten.length ≤ Ls.flatten.length := by
  have : Ls.flatten = (Ls.take k).flatten ++ (Ls.drop k).flatten := by rw [← List.flatten_append, List.take_append_drop]
  rw [this, List.length_append]; omega
/-- an own row of texts -/
def OwnTexts (w : World) (base : Nat) (v : Value) (L : List Bytes) : Prop := w.ownsRow base 9 1 v L.length (L.map strV)
theorem own_texts_all {w : World} {base : Nat} {v : Value} {out L : List Bytes} (h : w.ownsRow base 9 1 v (out.length + L.length) (out.map strV ++ L.flatMap oneT)) : OwnTexts w base v (out ++ L) := by
  unfold OwnTexts
  rw [List.length_append, List.map_append]
  rw [flat_one] at h
  exact h
set_option maxHeartbeats 1000000 in
theorem concatT_any (b o m cap B : Nat) (Ls : List (List Bytes)) (w : World) (hm : Ls.length = m) (hL : TextLists B w b o Ls) (hb : b < B) (hB : B ≤ w.heap.size) (hm2 : m ≤ 1099511627776) (ht : Ls.flatten.length ≤ 4398046511104) :
    Calls Tryz.prog 111 #[.slice (some ⟨b, o, none⟩) m cap] w (Makes w Ls.flatten) := by
  obtain ⟨i0, hi, hz0, hz1, hz2⟩ := info_parts text_info
  have H := Lib.hid hL
  have HM := Lib.hid hm
  clear hL hm
  have HI := Lib.hid hi
  go_enter Tryz.func111, Tryz.ntmps111
  go_wp2_with fail
  go_loopw [3, 11] (fun u i wr => ∃ k z : Nat, k ≤ m ∧ i = .int .i64 k ∧ u = .int .i64 z ∧ Hid (z = (Ls.take k).flatten.length) ∧ wr = w) (fun _ i _ => m - (intOf i).toNat)
  case atStart => exact ⟨0, 0, Nat.zero_le _, rfl, rfl, rfl, rfl⟩
  case round =>
    obtain ⟨k, z, hk, rfl, rfl, hz, hwr⟩ := hrel
    have hwr := hwr.symm
    subst hwr
    by_cases hlt : k < m
    · have hk2 : k < Ls.length := by rw [HM.out]; exact hlt
      obtain ⟨A, c, hc, hE⟩ := H.out k hk2
      have hup := flatT_upto Ls (k + 1)
      rw [flatT_next hk2, List.length_append, ← hz.out] at hup
      have HZ : Hid (z + (Ls[k]).length = (Ls.take (k + 1)).flatten.length) := by show _ = _; rw [flatT_next hk2, List.length_append, ← hz.out]
      clear hE
      generalize (Ls[k]).length = n at *
      have h0 : ¬ ((z : Int) + (n : Int) < 0) := by omega
      go_wp2_with fail
      go_roundw
      case rel => exact ⟨k + 1, z + n, by omega, by go_num, by go_num, HZ, by trivial⟩
      case measure => simp [intOf]; omega
    · have HZ : Hid (z = Ls.flatten.length) := hz.out.trans (by rw [flatT_all (by rw [HM.out]; exact hlt)])
      have hzz : z ≤ 4398046511104 := by rw [HZ.out]; exact ht
      go_wp2_with fail
      refine (growT_none z w hzz).mono ?_
      rintro e w1 ⟨u, rfl, hu, hb1⟩
      have U := Lib.hid hu
      have B1 := Lib.hid hb1
      clear hu hb1
      clear hzz HZ hz
      go_wp2_with fail
      go_loopw [6, 27] (fun u i wr => ∃ k : Nat, k ≤ m ∧ i = .int .i64 k ∧ Hid (OwnTexts wr w.heap.size u (Ls.take k).flatten) ∧ Below w.heap.size w wr) (fun _ i _ => m - (intOf i).toNat)
      case atStart => exact ⟨0, Nat.zero_le _, rfl, U.out, B1.out⟩
      case round =>
        clear U B1
        obtain ⟨k, hk, rfl, hown, hb1⟩ := hrel
        have hbs := hb1.size
        by_cases hlt : k < m
        · have hk2 : k < Ls.length := by rw [HM.out]; exact hlt
          obtain ⟨A, c, hc, hE⟩ := (H.out.below hb (hb1.mono hB)) k hk2
          have hup := flatT_upto Ls (k + 1)
          have HN := Lib.hid (flatT_next hk2)
          rw [HN.out, List.length_append] at hup
          have HE := Lib.hid hE
          have HT := Lib.hid ht
          clear hE ht
          generalize (Ls.take k).flatten = out at *
          generalize Ls[k] = L at *
          have a1 : out.length + L.length ≤ maxLen := by have := HT.out; unfold maxLen; omega
          have a2 : (out.length + L.length) * 16 ≤ 140737488355328 := by have := HT.out; omega
          go_wp2_with (at_builtin; refine wpList_append_recs rfl (.tmp 31) (.tmp 32) 131 rfl w.heap.size 9 i0 (.string ⟨#[]⟩) 1 16 Tryz.underlying131 HI.out hz0 hz1 hz2 rfl (by decide) _ _ _ rfl hown.out _ L B rfl (texts_recs HE.out) one_len one_one a1 a2 hbs ?_; intro v1 w2 hown1 hg2 _)
          have O2 := Lib.hid (own_texts_all hown1)
          have B2 := Lib.hid (hb1.grown hg2 hbs (fun k hk => (hown.out.lt k hk).1))
          clear hown1 hg2 a1 a2
          rw [← HN.out] at O2
          go_wp2
          go_roundw
          case rel => exact ⟨k + 1, by omega, by go_num, O2, B2.out⟩
          case measure => simp [intOf]; omega
        · have HX := Lib.hid (flatT_all (Ls := Ls) (k := k) (by rw [HM.out]; exact hlt))
          rw [HX.out] at hown
          go_wp2_with fail
          go_ret
          exact ⟨_, rfl, hown.out, hb1⟩
/-- two slices, one behind the other -/
theorem concat_two (w : World) (A1 A2 : Option Addr) (n1 n2 c1 c2 : Nat) (L1 L2 : List Bytes) (t : TypeId) (h1 : Texts w.heap.size w (.slice A1 n1 c1) L1) (h2 : Texts w.heap.size w (.slice A2 n2 c2) L2) (ht : L1.length + L2.length ≤ 4398046511104) (cap : Nat) :
    Calls Tryz.prog 111 #[.slice (some ⟨w.heap.size, 0, none⟩) 2 cap] (w.alloc (.cells #[.slice A1 n1 c1, .slice A2 n2 c2] t)) (Makes (w.alloc (.cells #[.slice A1 n1 c1, .slice A2 n2 c2] t)) (L1 ++ L2)) := by
  obtain ⟨rfl, -, -⟩ := h1.count
  obtain ⟨rfl, -, -⟩ := h2.count
  have := concatT_any w.heap.size 0 2 cap (w.heap.size + 1) [L1, L2] (w.alloc (.cells #[.slice A1 L1.length c1, .slice A2 L2.length c2] t)) rfl (by
    intro j hj
    have hj2 : j < 2 := hj
    match j, hj2 with
    | 0, _ => exact ⟨A1, c1, by simp, (h1.alloc (Nat.le_refl _) _).more (by omega)⟩
    | 1, _ => exact ⟨A2, c2, by simp, (h2.alloc (Nat.le_refl _) _).more (by omega)⟩) (by omega) (by simp) (by omega) (by simp; omega)
  simpa using this
end Go.Proofs.YtolhniepejhmfaaGreatDoor.W08
