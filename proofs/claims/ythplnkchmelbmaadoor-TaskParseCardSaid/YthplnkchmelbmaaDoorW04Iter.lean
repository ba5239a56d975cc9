/-
  Layer 4 (path), walks: the program's iterator of a path's parts, as a contract of an iterator: it hands out the text's parts, in order; at every text of at most 2^40 bytes.
-/
import Derived.Test.YthplnkchmelbmaaDoorW04Seq
import Derived.RangeFuncBox
namespace Go.Proofs.YthplnkchmelbmaaDoor.W04
set_option maxRecDepth 100000
open Go Go.RowKit Go.Shelf Go.Proofs.YthplnkchmelbmaaDoor.Range Go.Proofs.YthplnkchmelbmaaDoor.M04
open Go.Proofs.YthplnkchmelbmaaDoor.Kit (ret_str ret_bool ret_int mk_of mk_bytes below_draws on)
attribute [local go_sem] Oper.semAt_some

theorem parts_at (s : ByteArray) (w : World) : Calls Tryd.prog 45 #[.string s] w fun e w' => e = .returned (.func (.func 50) #[] #[.pointer (some ⟨w.heap.size, 0, none⟩)]) ∧ w' = w.alloc (.cells #[.string s] 9) := by
  go_enter Tryd.func45, Tryd.ntmps45
  go_wp2_with fail
  go_ret
  exact ⟨rfl, rfl⟩
theorem new_cell (W : World) (v : Value) (t : TypeId) : (W.alloc (.cells #[v] t)).cell? ⟨W.heap.size, 0, none⟩ = some v ∧ (W.alloc (.cells #[v] t)).frozen? ⟨W.heap.size, 0, none⟩ = false := by
  exact ⟨(Boxed.new W t v).cell, (Boxed.new W t v).frozen⟩
theorem three_cells (w : World) (s : ByteArray) : (three w s).cell? ⟨w.heap.size, 0, none⟩ = some (.string s) ∧ (three w s).frozen? ⟨w.heap.size, 0, none⟩ = false ∧ (three w s).cell? ⟨w.heap.size + 1, 0, none⟩ = some (.string ⟨#[47]⟩) ∧ (three w s).cell? ⟨w.heap.size + 2, 0, none⟩ = some (.int .i64 0) := by
  have a0 := new_cell w (.string s) 9
  have a1 := new_cell (w.alloc (.cells #[.string s] 9)) (.string ⟨#[47]⟩) 9
  have a2 := new_cell ((w.alloc (.cells #[.string s] 9)).alloc (.cells #[.string ⟨#[47]⟩] 9)) (.int .i64 0) 3
  simp only [World.size_alloc] at a1 a2
  have g1 := World.grownBy_alloc (w.alloc (.cells #[.string s] 9)) (.cells #[.string ⟨#[47]⟩] 9) none
  have g2 := World.grownBy_alloc ((w.alloc (.cells #[.string s] 9)).alloc (.cells #[.string ⟨#[47]⟩] 9)) (.cells #[.int .i64 0] 3) none
  have t1 : Turns (fun _ => False) (w.alloc (.cells #[.string s] 9)) (three w s) := (Turns.alloc _ _ _).trans (Turns.alloc _ _ _)
  have t2 : Turns (fun _ => False) ((w.alloc (.cells #[.string s] 9)).alloc (.cells #[.string ⟨#[47]⟩] 9)) (three w s) := Turns.alloc _ _ _
  exact ⟨t1.cell a0.1 id, (t1.frozen a0.1 id).trans a0.2, t2.cell a1.1 id, a2.1⟩
theorem keepsOf_void {x : ByteArray} (h : ¬ 0 < x.size) : keepsOf x = false := by unfold keepsOf keeps; rw [Kit.bytes_nil h]; rfl
theorem keepsOf_point {x : ByteArray} (h : (x.toList == [46]) = true) : keepsOf x = false := by unfold keepsOf keeps; rw [← Lib.toList_data, beq_iff_eq.1 h]; rfl
theorem keepsOf_yes {x : ByteArray} (h : 0 < x.size) (h2 : (x.toList == [46]) = false) : keepsOf x = true := by
  unfold keepsOf keeps
  rw [Lib.toList_data] at h2
  simp only [Bool.and_eq_true]
  refine ⟨?_, ?_⟩
  · have := Kit.bytes_ne h; simpa using this
  · simpa using h2
theorem filter_no {pre : List ByteArray} {x : ByteArray} (h : keepsOf x = false) : (pre ++ [x]).filter keepsOf = pre.filter keepsOf := by rw [List.filter_append, List.filter_cons, if_neg (by simp [h]), List.filter_nil, List.append_nil]
theorem filter_yes {pre : List ByteArray} {x : ByteArray} (h : keepsOf x = true) : (pre ++ [x]).filter keepsOf = pre.filter keepsOf ++ [x] := by rw [List.filter_append, List.filter_cons, if_pos h, List.filter_nil]
theorem filter_pre {a b : List ByteArray} (h : a <+: b) : a.filter keepsOf <+: b.filter keepsOf := by
  obtain ⟨t, rfl⟩ := h
  rw [List.filter_append]; exact ⟨_, rfl⟩

set_option maxRecDepth 100000 in
set_option maxHeartbeats 2000000 in
theorem parts_seq (b : Nat) (s : ByteArray) (hs : s.size ≤ 281474976710656) (w0 : World) (c0 : w0.cell? ⟨b, 0, none⟩ = some (.string s)) (hb : b < w0.heap.size) :
    Seq Tryd.prog 50 #[.pointer (some ⟨b, 0, none⟩)] (fun x : ByteArray => .string x) (fun _ => False) 6 (partsOf s) w0 := by
  intro l J Jx W hW hJ hJx hY h0
  replace c0 : W.cell? ⟨b, 0, none⟩ = some (.string s) := (hW.cell (p := ⟨b, 0, none⟩) hb).trans c0
  have hbW : b < W.heap.size := Nat.lt_of_lt_of_le hb hW.size
  rw [partsOf_pieces] at *
  have HS := Lib.hid (splitSeq_at s)
  refine (callsIn_wide (n := 9)).1 ?_
  refine callsIn_of_wp_marks Tryd.func50 rfl trivial ?_ rfl
  simp only [Tryd.ntmps50, List.size_toArray, List.length_cons, List.length_nil, Nat.reduceAdd, Nat.reduceSub, Array.replicate_succ, Array.replicate_zero, List.push_toArray, List.append_toArray, List.nil_append, List.cons_append]
  gi_wp2
  refine ⟨trivial, ?_⟩
  gi_at_call 51
  refine (callsIn_wide.2 (HS.out _)).mono ?_
  rintro e w1 ⟨rfl, rfl⟩
  gi_wp2
  have b0 := new_cell W (.func (.yield l) #[] #[]) 37
  obtain ⟨V, hV⟩ : ∃ V, W.alloc (.cells #[.func (.yield l) #[] #[]] 37) = V := ⟨_, rfl⟩
  rw [hV] at b0 ⊢
  have hVs : V.heap.size = W.heap.size + 1 := by rw [← hV]; simp
  have hVb : Below W.heap.size W V := by rw [← hV]; exact (Below.refl _ W).alloc (Nat.le_refl _) _
  have d0 := three_cells V s
  have hU : (three V s).heap.size = W.heap.size + 4 := by unfold three; simp [hVs]
  have tV : Turns (fun _ => False) V (three V s) := ((Turns.alloc _ _ _).trans (Turns.alloc _ _ _)).trans (Turns.alloc _ _ _)
  have tW : Turns (fun _ => False) W (three V s) := by rw [← hV] at *; exact (Turns.alloc _ _ _).trans tV
  have b1 := tV.cell b0.1 id
  obtain ⟨U, hU2⟩ : ∃ U, three V s = U := ⟨_, rfl⟩
  rw [hU2] at d0 hU tW b1 ⊢
  clear hU2 tV
  refine wp_range (gf := 61) (lb := caught (W.heap.size + 1)) (by rw [← hVs]; rfl) (enters_of Tryd.func61 (by kernel_rfl) rfl)
    (split_seq (W.heap.size + 1) s hs U (by rw [← hVs]; exact d0.1) (by rw [← hVs]; exact d0.2.1) (by rw [← hVs]; exact d0.2.2.1) (by rw [← hVs]; exact d0.2.2.2) (by omega)) (by rintro k ⟨_, hk⟩; omega) rfl
    (fun k => W.heap.size + 1 ≤ k ∧ k < W.heap.size + 6) (fun k => by unfold Its Three; omega)
    (fun pre W' => J (pre.filter keepsOf) W' ∧ W'.cell? ⟨W.heap.size, 0, none⟩ = some (.func (.yield l) #[] #[]))
    (fun c pre W' => c = .ret ∧ Jx (pre.filter keepsOf) W')
    (fun pre A B h ht => ⟨hJ _ _ _ h.1 (ht.wider fun k hk => Or.inr (by omega)), ht.cell h.2 (fun h1 => absurd h1.1 (Nat.not_succ_le_self _))⟩)
    (fun c pre A B h ht => ⟨h.1, hJx _ _ _ h.2 (ht.wider fun k hk => Or.inr (by omega))⟩)
    ⟨hJ _ _ _ h0 (tW.wider fun k hk => hk.elim), b1⟩
    (fun x => { tmps := #[.func (.yield l) #[] #[], .pointer (some ⟨b, 0, none⟩), .pointer (some ⟨W.heap.size, 0, none⟩), .string x, .string s, .func (.func 61) #[] (caught (W.heap.size + 1)), .string x, undef, undef, undef, undef, undef, undef, undef, undef, undef, undef, undef, undef], defers := [] }) ?assign ?body ?done ?stop
  case assign =>
    intro l x W K hK
    gi_wp2
    exact hK
  case body =>
    rintro l' pre x W1 ⟨hj, hc⟩ hsz hpre
    by_cases h0 : 0 < x.size
    · have hn := Kit.list_ne h0
      have hf := Kit.list_full h0
      cases hp : (x.toList == [46]) with
      | true =>
        have hpe := beq_iff_eq.1 hp
        gi_wp2
        refine ⟨fun _ h => (by cases h), ?_⟩
        gi_wp2
        exact ⟨Turns.refl _ _, by rw [filter_no (keepsOf_point hp)]; exact hj, hc⟩
      | false =>
        have hk := keepsOf_yes h0 hp
        obtain ⟨fn, tmps, assign, body, hy, hR⟩ := hY (pre.filter keepsOf) x W1 hj (by omega) (by rw [← filter_yes hk]; exact filter_pre hpre)
        clear hY
        gi_wp2
        refine (round_in _ _ hR).mono ?_
        rintro e W3 (⟨rfl, hJ3, hk3⟩ | ⟨rfl, hJx3, hk3⟩)
        · gi_wp2
          exact ⟨hk3.wider fun k h h2 => h (Or.inr ⟨Nat.le_of_succ_le h2.1, h2.2⟩), by rw [filter_yes hk]; exact hJ3, hk3.cell hc (fun h => h (Or.inr ⟨Nat.le_refl _, by simp⟩))⟩
        · gi_wp2
          exact ⟨hk3.wider fun k h h2 => h (Or.inr ⟨Nat.le_of_succ_le h2.1, h2.2⟩), rfl, by rw [filter_yes hk]; exact hJx3⟩
    · have hn := Kit.list_nil h0
      have hf := Kit.list_none h0
      gi_wp2
      refine ⟨fun _ h => (by cases h), ?_⟩
      gi_wp2
      exact ⟨Turns.refl _ _, by rw [filter_no (keepsOf_void h0)]; exact hj, hc⟩
  case done =>
    rintro W2 ⟨hj, -⟩ hK
    gi_wp2
    refine ⟨by simp, .inl ⟨_, _, rfl, run_takeDeferred hK, ?_⟩⟩
    exact ⟨_, results_none rfl _ _ _, ⟨_, rfl⟩, .inl (hJ _ _ _ hj (Turns.putObj _ (Or.inr (by omega))))⟩
  case stop =>
    rintro c pre W2 hpre ⟨rfl, hjx⟩ hK
    gi_wp2
    refine ⟨by simp, .inl ⟨_, _, rfl, run_takeDeferred hK, ?_⟩⟩
    exact ⟨_, results_none rfl _ _ _, ⟨_, rfl⟩, .inr ⟨_, filter_pre hpre, hJx _ _ _ hjx (Turns.putObj _ (Or.inr (by omega)))⟩⟩
end Go.Proofs.YthplnkchmelbmaaDoor.W04
