/-
  Layer 6 (ents), walks: what the landed Right, Find, Put, Cut, Names, Merge and Next return; new memory may be laid, nothing that was there is changed. The bounds on the lists stand in the statements.
-/
import Derived.Test.YtnfamakpbgaoiaaW06Concat
import Derived.Deep.RegionHeld3
namespace Go.Proofs.Ytnfamakpbgaoiaa.W06
open Go Go.RowKit Go.Proofs.Ytnfamakpbgaoiaa.Strs Go.Proofs.Ytnfamakpbgaoiaa.Recs Go.Proofs.Ytnfamakpbgaoiaa.M06
open Go.Proofs.Ytnfamakpbgaoiaa.Kit (ret_str ret_bool ret_int mk_of mk_bytes ba_ext below_draws on)

/-- what a call returns that hands out texts -/
def HandsT (w : World) (L : List (List UInt8)) (e : Ending) (w' : World) : Prop := ∃ v, e = .returned v ∧ Texts w'.heap.size w' v L ∧ Below w.heap.size w w'
theorem draws_below {w w' : World} {e : Ending} {v : Value} (h : e = .returned v ∧ ∃ n, w' = w.drewN n) : e = .returned v ∧ Below w.heap.size w w' := by
  obtain ⟨he, n, hw⟩ := h
  exact ⟨he, by rw [hw]; exact below_draws _ _⟩
theorem none_form {B : Nat} {w : World} {v : Value} (h : Ents B w v []) : ∃ A c, v = .slice A 0 c := by
  obtain ⟨A, c, rfl, -, -⟩ := h.form
  exact ⟨A, c, rfl⟩
theorem some_form {B : Nat} {w : World} {v : Value} {a : Ent} {r : List Ent} (h : Ents B w v (a :: r)) : ∃ (b o n c : Nat) (t : ByteArray), v = .slice (some ⟨b, o, none⟩) (n + 1) c ∧ n + 1 ≤ c ∧ c ≤ maxLen ∧ b < B ∧ t.data.toList = a.1 ∧ w.cell? ⟨b, o, none⟩ = some (.string t) ∧ w.cell? ⟨b, o + 1, none⟩ = some (.int .i64 a.2) := by
  obtain ⟨A, c, rfl, h1, h2⟩ := h.form
  obtain ⟨b, o, hl, t, rfl, hb, ht, hc0, hc1⟩ := Ents.at_ h (k := 0) (by simp)
  rw [Nat.zero_mul, Nat.add_zero] at hc0 hc1
  exact ⟨b, o, r.length, c, t, rfl, h1, h2, hb, ht, hc0, hc1⟩

theorem lists_two {w : World} {A1 A2 : Option Addr} {c1 c2 B : Nat} {L1 L2 : List Ent} (h1 : Ents B w (.slice A1 L1.length c1) L1) (h2 : Ents B w (.slice A2 L2.length c2) L2) (hB : B ≤ w.heap.size) (t : TypeId) :
    Lists (w.heap.size + 1) (w.alloc (.cells #[.slice A1 L1.length c1, .slice A2 L2.length c2] t)) w.heap.size 0 [L1, L2] := by
  intro j hj
  match j, hj with
  | 0, _ => exact ⟨A1, c1, by simp, (h1.alloc hB _).more (by omega)⟩
  | 1, _ => exact ⟨A2, c2, by simp, (h2.alloc hB _).more (by omega)⟩
theorem lists_three {w : World} {A1 A2 A3 : Option Addr} {c1 c2 c3 B : Nat} {L1 L2 L3 : List Ent} (h1 : Ents B w (.slice A1 L1.length c1) L1) (h2 : Ents B w (.slice A2 L2.length c2) L2) (h3 : Ents B w (.slice A3 L3.length c3) L3) (hB : B ≤ w.heap.size) (t : TypeId) :
    Lists (w.heap.size + 1) (w.alloc (.cells #[.slice A1 L1.length c1, .slice A2 L2.length c2, .slice A3 L3.length c3] t)) w.heap.size 0 [L1, L2, L3] := by
  intro j hj
  match j, hj with
  | 0, _ => exact ⟨A1, c1, by simp, (h1.alloc hB _).more (by omega)⟩
  | 1, _ => exact ⟨A2, c2, by simp, (h2.alloc hB _).more (by omega)⟩
  | 2, _ => exact ⟨A3, c3, by simp, (h3.alloc hB _).more (by omega)⟩
section
variable (v : Value) (L : List Ent) (w : World)
theorem right_any (h : Ents w.heap.size w v L) (hn : L.length ≤ 1099511627776) : Calls Try.prog 13 #[v] w fun e w' => e = .returned (.bool (right L)) ∧ Below w.heap.size w w' :=
  (codeRight_any v L _ w h hn).mono fun _ _ => draws_below
theorem find_any (s : ByteArray) (h : Ents w.heap.size w v L) (hn : L.length ≤ 1099511627776) : Calls Try.prog 6 #[v, .string s] w fun e w' => e = .returned (.tuple #[.int .i64 (M06.find (all L) s.data.toList).1, .bool (M06.find (all L) s.data.toList).2]) ∧ Below w.heap.size w w' := by
  have HU := Lib.hid (usable_any v L _ w h hn)
  have HA := Lib.hid (fun (q : Nat) (u : Value) (hu : Ents w.heap.size w u (all L)) => around_any u (all L) _ s (w.drewN q) hu (Nat.le_refl _) (right_all L) (Nat.le_trans (all_len L) hn))
  obtain ⟨A, c, rfl, -, -⟩ := h.form
  clear h
  rw [find_parts]
  generalize all L = M at *
  generalize s.data.toList = S at *
  cases hm : M06.mid M S with
  | nil =>
    have HM := Lib.hid hm
    clear hm
    go_enter Try.func6, Try.ntmps6
    go_wp2_with fail
    refine HU.out.mono ?_
    rintro e w1 ⟨⟨u, rfl, hu⟩, q, rfl⟩
    have HA := Lib.hid (HA.out q u hu)
    clear hu
    go_wp2_with fail
    refine HA.out.mono ?_
    rintro e w2 ⟨v1, v2, v3, rfl, -, h2, -, hb⟩
    have B2 := Lib.hid (on (below_draws w q) hb)
    rw [HM.out] at h2
    obtain ⟨A2, c2, rfl⟩ := none_form h2
    clear hb h2
    go_wp2_with fail
    go_ret2
    exact ⟨rfl, B2.out⟩
  | cons a r =>
    have HM := Lib.hid hm
    clear hm
    go_enter Try.func6, Try.ntmps6
    go_wp2_with fail
    refine HU.out.mono ?_
    rintro e w1 ⟨⟨u, rfl, hu⟩, q, rfl⟩
    have HA := Lib.hid (HA.out q u hu)
    clear hu
    go_wp2_with fail
    refine HA.out.mono ?_
    rintro e w2 ⟨v1, v2, v3, rfl, -, h2, -, hb⟩
    have B2 := Lib.hid (on (below_draws w q) hb)
    rw [HM.out] at h2
    obtain ⟨b, o, n, c2, t, rfl, hn1, hn2, hbl, -, hc0, hc1⟩ := some_form h2
    unfold maxLen at hn2
    have hne : ((n : Int) + 1 == 0) = false := by simp; omega
    clear hb h2
    go_wp2_with fail
    go_ret2
    exact ⟨rfl, B2.out⟩
theorem cut_any (s : ByteArray) (h : Ents w.heap.size w v L) (hn : L.length ≤ 1099511627776) : Calls Try.prog 17 #[v, .string s] w (HandsE w (cut L s.data.toList)) := by
  have HU := Lib.hid (usable_any v L _ w h hn)
  have HA := Lib.hid (fun (q : Nat) (u : Value) (hu : Ents w.heap.size w u (all L)) => around_any u (all L) _ s (w.drewN q) hu (Nat.le_refl _) (right_all L) (Nat.le_trans (all_len L) hn))
  obtain ⟨A, c, rfl, -, -⟩ := h.form
  clear h
  rw [cut_parts]
  have hl1 := low_high_len (all L) s.data.toList
  have hl2 := all_len L
  generalize all L = M at *
  generalize s.data.toList = S at *
  go_enter Try.func17, Try.ntmps17
  go_wp2_with fail
  refine HU.out.mono ?_
  rintro e w1 ⟨⟨u, rfl, hu⟩, q, rfl⟩
  have HA := Lib.hid (HA.out q u hu)
  clear hu
  go_wp2_with fail
  refine HA.out.mono ?_
  rintro e w2 ⟨v1, v2, v3, rfl, h1, -, h3, hb⟩
  have B2 := Lib.hid (on (below_draws w q) hb)
  have hbs := hb.size
  obtain ⟨A1, c1, rfl, -, -⟩ := h1.form
  obtain ⟨A3, c3, rfl, -, -⟩ := h3.form
  have HC := Lib.hid (concat_any w2.heap.size 0 2 2 (w2.heap.size + 1) [low M S, high M S] (w2.alloc (.cells #[.slice A1 (low M S).length c1, .slice A3 (high M S).length c3] 22)) rfl (lists_two h1 h3 hbs _) (by omega) (by simp) (by omega) (by simp; omega))
  clear hb h1 h3
  go_wp2_with fail
  refine HC.out.mono ?_
  rintro e w3 ⟨u3, rfl, hu3, hb3⟩
  have U3 := Lib.hid hu3.reads
  rw [show [low M S, high M S].flatten = low M S ++ high M S by simp] at U3
  have B3 := Lib.hid (on B2.out (((Below.refl w2.heap.size w2).alloc (Nat.le_refl _) _).trans (hb3.mono (by simp))))
  clear hu3 hb3
  go_wp2_with fail
  go_ret
  exact ⟨_, rfl, U3.out, B3.out⟩
set_option maxHeartbeats 1000000 in
theorem next_any (s : ByteArray) (h : Ents w.heap.size w v L) (hn : L.length ≤ 1099511627776) : Calls Try.prog 8 #[v, .string s] w fun e w' => e = .returned (.tuple #[entV (next (all L) s.data.toList).1, .bool (next (all L) s.data.toList).2]) ∧ Below w.heap.size w w' := by
  have HU := Lib.hid (usable_any v L _ (w.alloc (.cells #[.string ⟨#[]⟩, .int .i64 0] 24)) (h.alloc (Nat.le_refl _) _) hn)
  have HA := Lib.hid (fun (q : Nat) (u : Value) (hu : Ents w.heap.size (w.alloc (.cells #[.string ⟨#[]⟩, .int .i64 0] 24)) u (all L)) => around_any u (all L) w.heap.size s ((w.alloc (.cells #[.string ⟨#[]⟩, .int .i64 0] 24)).drewN q) (hu.drewN q) (by show _ ≤ (w.alloc _).heap.size; simp) (right_all L) (Nat.le_trans (all_len L) hn))
  obtain ⟨A, c, rfl, -, -⟩ := h.form
  clear h
  rw [next_parts]
  generalize all L = M at *
  generalize s.data.toList = S at *
  cases hm : high M S with
  | nil =>
    have HM := Lib.hid hm
    clear hm
    go_enter Try.func8, Try.ntmps8
    go_wp2_with fail
    refine HU.out.mono ?_
    rintro e w1 ⟨⟨u, rfl, hu⟩, q, rfl⟩
    have HA := Lib.hid (HA.out q u hu)
    clear hu
    go_wp2_with fail
    refine HA.out.mono ?_
    rintro e w2 ⟨v1, v2, v3, rfl, -, -, h3, hb⟩
    have hb2 : Below (w.alloc (.cells #[.string ⟨#[]⟩, .int .i64 0] 24)).heap.size (w.alloc (.cells #[.string ⟨#[]⟩, .int .i64 0] 24)) w2 := on (below_draws _ q) hb
    have hx0 : w2.cell? ⟨w.heap.size, 0, none⟩ = some (.string ⟨#[]⟩) := by rw [hb2.cell (by simp)]; simp
    have hx1 : w2.cell? ⟨w.heap.size, 1, none⟩ = some (.int .i64 0) := by rw [hb2.cell (by simp)]; simp
    have hf0 : w2.frozen? ⟨w.heap.size, 0, none⟩ = false := by rw [hb2.frozen (by simp)]; simp
    have hf1 : w2.frozen? ⟨w.heap.size, 1, none⟩ = false := by rw [hb2.frozen (by simp)]; simp
    have B2 : Hid (Below w.heap.size w w2) := ((Below.refl w.heap.size w).alloc (Nat.le_refl _) _).trans (hb2.mono (by simp))
    rw [HM.out] at h3
    obtain ⟨A3, c3, rfl⟩ := none_form h3
    clear hb hb2 h3
    go_wp2_with fail
    refine bodyPost_ret_by (v := .tuple #[.agg #[.string ⟨#[]⟩, .int .i64 0], .bool false]) ?_ rfl ⟨rfl, (B2.out.setCell (Nat.le_refl _) _).setCell (Nat.le_refl _) _⟩
    rw [results_cell_tmp rfl]
    go_simp
  | cons a r =>
    have HM := Lib.hid hm
    clear hm
    go_enter Try.func8, Try.ntmps8
    go_wp2_with fail
    refine HU.out.mono ?_
    rintro e w1 ⟨⟨u, rfl, hu⟩, q, rfl⟩
    have HA := Lib.hid (HA.out q u hu)
    clear hu
    go_wp2_with fail
    refine HA.out.mono ?_
    rintro e w2 ⟨v1, v2, v3, rfl, -, -, h3, hb⟩
    have hb2 : Below (w.alloc (.cells #[.string ⟨#[]⟩, .int .i64 0] 24)).heap.size (w.alloc (.cells #[.string ⟨#[]⟩, .int .i64 0] 24)) w2 := on (below_draws _ q) hb
    have hx0 : w2.cell? ⟨w.heap.size, 0, none⟩ = some (.string ⟨#[]⟩) := by rw [hb2.cell (by simp)]; simp
    have hx1 : w2.cell? ⟨w.heap.size, 1, none⟩ = some (.int .i64 0) := by rw [hb2.cell (by simp)]; simp
    have hf0 : w2.frozen? ⟨w.heap.size, 0, none⟩ = false := by rw [hb2.frozen (by simp)]; simp
    have hf1 : w2.frozen? ⟨w.heap.size, 1, none⟩ = false := by rw [hb2.frozen (by simp)]; simp
    have B2 : Hid (Below w.heap.size w w2) := ((Below.refl w.heap.size w).alloc (Nat.le_refl _) _).trans (hb2.mono (by simp))
    rw [HM.out] at h3
    obtain ⟨b, o, n, c2, t, rfl, hn1, hn2, hbl, ht, hc0, hc1⟩ := some_form h3
    unfold maxLen at hn2
    have hne : ((n : Int) + 1 == 0) = false := by simp; omega
    have HT := Lib.hid (ent_text ht)
    clear hb hb2 h3 ht hbl
    go_wp2_with fail
    refine bodyPost_ret_by (v := .tuple #[.agg #[.string t, .int .i64 a.2], .bool true]) ?_ rfl ⟨?_, (B2.out.setCell (Nat.le_refl _) _).setCell (Nat.le_refl _) _⟩
    · rw [results_cell_tmp rfl]
      go_simp
    · rw [HT.out]; rfl
set_option maxHeartbeats 1000000 in
theorem names_any (h : Ents w.heap.size w v L) (hn : L.length ≤ 1099511627776) : Calls Try.prog 12 #[v] w (HandsT w (names L)) := by
  obtain ⟨i0, hi, hz0, hz1, hz2⟩ := info_parts text_info
  have HU := Lib.hid (usable_any v L _ w h hn)
  have HNM : Hid (names L = (all L).map (·.1)) := rfl
  obtain ⟨A0, c0, rfl, -, -⟩ := h.form
  have hl := all_len L
  clear h
  generalize names L = R at *
  generalize all L = M at *
  go_enter Try.func12, Try.ntmps12
  go_wp2_with fail
  refine HU.out.mono ?_
  rintro e w1 ⟨⟨u, rfl, hu⟩, q0, rfl⟩
  have H := Lib.hid hu
  obtain ⟨A, c, rfl, hA1, hA2⟩ := hu.form
  clear hu
  unfold maxLen at hA2
  generalize hm : M.length = n at *
  have HM := Lib.hid hm
  clear hm
  go_wp2_with fail
  go_loopw [3, 9] (fun u i wr => ∃ (k : Nat) (out : List (List UInt8)), k ≤ n ∧ i = .int .i64 k ∧ out.length = k ∧ Hid (out = (M.take k).map (·.1)) ∧ Hid (wr.ownsRow w.heap.size 9 1 u out.length (out.map strV)) ∧ Below w.heap.size w wr) (fun _ i _ => n - (intOf i).toNat)
  case atStart => exact ⟨0, [], Nat.zero_le _, rfl, rfl, rfl, World.ownsRow_nil _ _ _ _, below_draws _ _⟩
  case round =>
    obtain ⟨k, out, hk, rfl, hout, hr, hown, hb⟩ := hrel
    by_cases hlt : k < n
    · obtain ⟨b, o, hl1, t, rfl, hbl, ht, hc0, hc1⟩ := Ents.at_ (H.out.below hb) hlt
      have HX : Hid ((M.take (k + 1)).map (·.1) = out ++ [t.data.toList]) := by
        show _ = _
        rw [take_at hl1, List.map_append, ← hr.out, ht]; rfl
      have hbs := hb.size
      have a1 : out.length + 1 ≤ maxLen := by unfold maxLen; omega
      have a2 : (out.length + 1) * 16 ≤ 140737488355328 := by omega
      clear ht
      have HX1 := Lib.hid (hb.alloc hbs (.cells #[.string t, .int .i64 (M[k]).2] 24))
      have HX2 := Lib.hid (HX1.out.alloc HX1.out.size (.cells #[.string t] 9))
      have hc1 := cell_one_new (wr.alloc (.cells #[.string t, .int .i64 (M[k]).2] 24)) (.string t) 9
      rw [World.size_alloc] at hc1
      have HC1 := Lib.hid hc1
      clear hc1
      go_wp2_with (at_builtin; refine wpList_append_own _ rfl (.tmp 13) (.tmp 16) 30 rfl w.heap.size 9 i0 (.string ⟨#[]⟩) 1 16 Try.underlying30 hi hz0 hz1 hz2 rfl (by decide) _ _ _ rfl ((hown.out.alloc _).alloc _) ⟨_, 0, none⟩ 1 1 [.string t] rfl rfl HC1.out (by intro u hu; simp at hu; subst hu; rfl) a1 a2 HX2.out.size ?_; intro v1 w2 hown1 hgrow1 _)
      have B2 := Lib.hid (HX2.out.grown hgrow1 HX2.out.size (fun k hk => (hown.out.lt k hk).1))
      have O1 := Lib.hid (own_more hown1)
      clear hown1 hgrow1 a1 a2
      go_wp2
      go_roundw
      case rel => exact ⟨k + 1, _, by omega, by go_num, by rw [List.length_append, hout]; rfl, HX.symm, O1, B2.out⟩
      case measure => simp [intOf]; omega
    · have HX : Hid (out = R) := hr.out.trans (by rw [HNM.out, take_all (by rw [HM.out]; exact hlt)])
      go_wp2_with fail
      go_ret
      exact ⟨_, rfl, by rw [← HX.out]; exact Texts.of_own hown.out, hb⟩
theorem usable_hands (v : Value) (L : List Ent) (B : Nat) (w : World) (h : Ents B w v L) (hn : L.length ≤ 1099511627776) :
    Calls Try.prog 22 #[v] w fun e w' => ∃ u, e = .returned u ∧ Ents B w' u (all L) ∧ Below w.heap.size w w' :=
  (usable_any v L B w h hn).mono fun _ _ ⟨⟨u, he, hu⟩, q, hw⟩ => ⟨u, he, by rw [hw]; exact hu, by rw [hw]; exact below_draws _ _⟩
theorem one_ent (w : World) (en : ByteArray) (z : Int) (t : TypeId) : Ents (w.heap.size + 1) (w.alloc (.cells #[.string en, .int .i64 z] t)) (.slice (some ⟨w.heap.size, 0, none⟩) 1 1) [(en.data.toList, z)] := by
  refine ⟨_, 1, rfl, Nat.le_refl _, by decide, fun _ => ⟨_, rfl, Nat.lt_succ_self _, fun k hk j hj => ?_⟩⟩
  obtain rfl : k = 0 := by simpa using hk
  have h := cells_new w [.string en, .int .i64 z] t j
  rw [Nat.zero_mul, Nat.zero_add]
  show _ = ([strV en.data.toList, .int .i64 z])[j]?
  have he : strV en.data.toList = .string en := by unfold strV; rw [mk_bytes]
  rw [he]
  match j, hj with
  | 0, _ => exact h _ rfl
  | 1, _ => exact h _ rfl
section
variable {w9 w' w'' : World} {B : Nat} {x0 x1 : Value}
theorem boxed_below (hS : w'.cell? ⟨B, 0, none⟩ = some x0 ∧ w'.cell? ⟨B, 1, none⟩ = some x1 ∧ Below w9.heap.size w9 w') : Below w9.heap.size w9 w' := hS.2.2
theorem boxed_on (hs : B < w9.heap.size) (hS : w'.cell? ⟨B, 0, none⟩ = some x0 ∧ w'.cell? ⟨B, 1, none⟩ = some x1 ∧ Below w9.heap.size w9 w') (hb : Below w'.heap.size w' w'') : w''.cell? ⟨B, 0, none⟩ = some x0 ∧ w''.cell? ⟨B, 1, none⟩ = some x1 ∧ Below w9.heap.size w9 w'' := by
  have := hS.2.2.size
  exact ⟨by rw [hb.cell (by show B < _; omega)]; exact hS.1, by rw [hb.cell (by show B < _; omega)]; exact hS.2.1, on hS.2.2 hb⟩
theorem boxed_draw (hS : w'.cell? ⟨B, 0, none⟩ = some x0 ∧ w'.cell? ⟨B, 1, none⟩ = some x1 ∧ Below w9.heap.size w9 w') : w'.drew.cell? ⟨B, 0, none⟩ = some x0 ∧ w'.drew.cell? ⟨B, 1, none⟩ = some x1 ∧ Below w9.heap.size w9 w'.drew := ⟨hS.1, hS.2.1, hS.2.2.drew⟩
end
set_option maxHeartbeats 2000000 in
theorem put_any (en : ByteArray) (z : Int) (h : Ents w.heap.size w v L) (hn : L.length ≤ 1099511627776) : Calls Try.prog 15 #[v, .agg #[.string en, .int .i64 z]] w (HandsE w (put L (en.data.toList, z))) := by
  obtain ⟨w1, hw1⟩ : ∃ w1 : World, w1 = w.alloc (.cells #[.string en, .int .i64 z] 24) := ⟨_, rfl⟩
  have x0 : w1.cell? ⟨w.heap.size, 0, none⟩ = some (.string en) := by rw [hw1]; simp
  have x1 : w1.cell? ⟨w.heap.size, 1, none⟩ = some (.int .i64 z) := by rw [hw1]; simp
  have hs1 : w.heap.size < w1.heap.size := by rw [hw1]; simp
  have B1 : Hid (Below w.heap.size w w1) := by rw [hw1]; exact (Below.refl _ _).alloc (Nat.le_refl _) _
  have HU := Lib.hid (fun (w' : World) (hb : Below w1.heap.size w1 w') => usable_hands v L w.heap.size w' (h.below (B1.out.trans (hb.mono B1.out.size))) hn)
  have HA := Lib.hid (fun (w' : World) (u : Value) (hu : Ents w.heap.size w' u (all L)) (hs : w.heap.size ≤ w'.heap.size) => around_any u (all L) w.heap.size en w' hu hs (right_all L) (Nat.le_trans (all_len L) hn))
  obtain ⟨A, c, rfl, -, -⟩ := h.form
  clear h
  rw [put_parts]
  have hl1 := low_high_len (all L) en.data.toList
  have hl2 := all_len L
  generalize all L = M at *
  show Calls _ _ _ _ (HandsE w (low M en.data.toList ++ (en.data.toList, z) :: high M en.data.toList))
  go_enter Try.func15, Try.ntmps15
  go_wp2_with fail
  rw [← hw1]
  clear hw1
  go_region_held3 (fun w' => w'.cell? ⟨w.heap.size, 0, none⟩ = some (.string en) ∧ w'.cell? ⟨w.heap.size, 1, none⟩ = some (.int .i64 z) ∧ Below w1.heap.size w1 w')
    (first | exact boxed_on hs1 (by assumption) hb3 | exact boxed_on hs1 (by assumption) hb2 | exact ⟨x0, x1, (Below.refl _ _).drew⟩ | exact boxed_draw (by assumption) | go_keep)
    (first
      | (go_at_call 22; refine (HU.out _ (boxed_below (by assumption))).mono ?_; rintro e x2 ⟨y1, rfl, hu, hb2⟩; have U1 := Lib.hid hu; clear hu)
      | (go_at_call 21; refine (HA.out _ _ U1.out (Nat.le_trans B1.out.size (boxed_below (by assumption)).size)).mono ?_; rintro e x3 ⟨v1, v2, v3, rfl, h1, -, h3, hb3⟩; have P1 := Lib.hid h1; have P3 := Lib.hid h3; clear h1 h3))
  obtain ⟨hx0, hx1, hbb⟩ := (by assumption : x3.cell? ⟨w.heap.size, 0, none⟩ = some (.string en) ∧ x3.cell? ⟨w.heap.size, 1, none⟩ = some (.int .i64 z) ∧ Below w1.heap.size w1 x3)
  have B3 : Hid (Below w.heap.size w x3) := B1.out.trans (hbb.mono B1.out.size)
  have hs3 := B3.out.size
  obtain ⟨A1, c1, rfl, -, -⟩ := P1.out.form
  obtain ⟨A3, c3, rfl, -, -⟩ := P3.out.form
  have hC := concat_any (x3.heap.size + 1) 0 3 3 (x3.heap.size + 2) [low M en.data.toList, [(en.data.toList, z)], high M en.data.toList] ((x3.alloc (.cells #[.string en, .int .i64 z] 24)).alloc (.cells #[.slice A1 (low M en.data.toList).length c1, .slice (some ⟨x3.heap.size, 0, none⟩) 1 1, .slice A3 (high M en.data.toList).length c3] 22)) rfl (by
    have q := lists_three (L2 := [(en.data.toList, z)]) (A2 := some ⟨x3.heap.size, 0, none⟩) (c2 := 1) (w := x3.alloc (.cells #[.string en, .int .i64 z] 24)) (B := x3.heap.size + 1) ((P1.out.alloc hs3 (.cells #[.string en, .int .i64 z] 24)).more (by omega)) (one_ent x3 en z 24) ((P3.out.alloc hs3 (.cells #[.string en, .int .i64 z] 24)).more (by omega)) (by rw [World.size_alloc]; exact Nat.le_refl _) 22
    rw [World.size_alloc] at q
    exact q) (by omega) (by rw [World.size_alloc, World.size_alloc]; exact Nat.le_refl _) (by omega) (by simp; omega)
  have HC := Lib.hid hC
  clear hC hbb hb3
  go_wp2_with fail
  refine HC.out.mono ?_
  rintro e w4 ⟨u4, rfl, hu4, hb4⟩
  have U4 := Lib.hid hu4.reads
  rw [show [low M en.data.toList, [(en.data.toList, z)], high M en.data.toList].flatten = low M en.data.toList ++ (en.data.toList, z) :: high M en.data.toList by simp] at U4
  have B4 := Lib.hid (on B3.out ((((Below.refl x3.heap.size x3).alloc (Nat.le_refl _) (.cells #[.string en, .int .i64 z] 24)).alloc (by simp) _).trans (hb4.mono (by simp; omega))))
  clear hu4 hb4
  go_wp2_with fail
  go_ret
  exact ⟨_, rfl, U4.out, B4.out⟩
end
theorem own_on {w w' : World} {base : Nat} {v : Value} {L : List Ent} (h : OwnEnts w base v L) (hb : Below w.heap.size w w') : OwnEnts w' base v L := by
  refine ⟨h.1, ?_⟩
  rcases h.2 with hn | ⟨g, cap, cur, hv, hg, hh, rest⟩
  · exact Or.inl hn
  · refine Or.inr ⟨g, cap, cur, hv, hg, ?_, rest⟩
    rw [hb.block g ?_]; exact hh
    rcases Nat.lt_or_ge g w.heap.size with hlt | hge
    · exact hlt
    · rw [Array.getElem?_eq_none hge] at hh; cases hh
section
variable {w W W' : World} {e0 base : Nat} {x0 x1 : Value} {row : Option Nat}
theorem beside_grown (hS : W.cell? ⟨e0, 0, none⟩ = some x0 ∧ W.cell? ⟨e0, 1, none⟩ = some x1 ∧ Below base w W) (hg : W.grownBy W' row) (hrow : ∀ q, row = some q → q ≠ e0 ∧ base ≤ q) (hbase : base ≤ w.heap.size) : W'.cell? ⟨e0, 0, none⟩ = some x0 ∧ W'.cell? ⟨e0, 1, none⟩ = some x1 ∧ Below base w W' :=
  ⟨hg.cell hS.1 (fun e => (hrow _ e.symm).1 rfl), hg.cell hS.2.1 (fun e => (hrow _ e.symm).1 rfl), hS.2.2.grown hg (Nat.le_trans hbase hS.2.2.size) (fun k hk => (hrow k hk).2)⟩
theorem beside_draw (hS : W.cell? ⟨e0, 0, none⟩ = some x0 ∧ W.cell? ⟨e0, 1, none⟩ = some x1 ∧ Below base w W) : W.drew.cell? ⟨e0, 0, none⟩ = some x0 ∧ W.drew.cell? ⟨e0, 1, none⟩ = some x1 ∧ Below base w W.drew := ⟨hS.1, hS.2.1, hS.2.2.drew⟩
theorem beside_alloc (hS : W.cell? ⟨e0, 0, none⟩ = some x0 ∧ W.cell? ⟨e0, 1, none⟩ = some x1 ∧ Below base w W) (hbase : base ≤ w.heap.size) (o : Obj) : (W.alloc o).cell? ⟨e0, 0, none⟩ = some x0 ∧ (W.alloc o).cell? ⟨e0, 1, none⟩ = some x1 ∧ Below base w (W.alloc o) :=
  ⟨(World.cell?_alloc_lt W o _ (World.block_lt_of_cell? W _ hS.1)).trans hS.1, (World.cell?_alloc_lt W o _ (World.block_lt_of_cell? W _ hS.2.1)).trans hS.2.1, hS.2.2.alloc (Nat.le_trans hbase hS.2.2.size) o⟩
theorem undrew (h : W.drew.grownBy W' row) : W.grownBy W' row := ⟨h.os, h.tape, h.output, h.size, h.block⟩
theorem own_ents_two {v : Value} {out lo : List Ent} {e : Ent} (h : w.ownsRow base 24 2 v (out.length + lo.length + [e].length) (out.flatMap entC ++ lo.flatMap entC ++ [e].flatMap entC)) : OwnEnts w base v (out ++ lo ++ [e]) := by
  unfold OwnEnts
  rw [List.length_append, List.length_append, List.flatMap_append, List.flatMap_append]
  exact h
theorem beside_below (hS : W.cell? ⟨e0, 0, none⟩ = some x0 ∧ W.cell? ⟨e0, 1, none⟩ = some x1 ∧ Below base w W) : Below base w W := hS.2.2
theorem one_kept {t : ByteArray} {z : Int} {ty : TypeId} (hg : (W.alloc (.cells #[.string t, .int .i64 z] ty)).grownBy W' row) (hrow : row ≠ some W.heap.size) : Ents (W.heap.size + 1) W' (.slice (some ⟨W.heap.size, 0, none⟩) 1 1) [(t.data.toList, z)] :=
  Recs.other (one_ent W t z ty) (fun p hp => World.cell?_of_block (hg.block p.block (by rw [World.size_alloc, hp]; exact Nat.lt_succ_self _) (by rw [hp]; exact fun e => hrow e.symm)))
end
set_option maxHeartbeats 2000000 in
theorem merge_any (va vb : Value) (La Lb : List Ent) (w : World) (ha : Ents w.heap.size w va La) (hb : Ents w.heap.size w vb Lb) (hna : La.length ≤ 549755813888) (hnb : Lb.length ≤ 549755813888) : Calls Try.prog 19 #[va, vb] w (HandsE w (merge La Lb)) := by
  obtain ⟨i0, hi, hz0, hz1, hz2⟩ := info_parts ent_info
  have HI := Lib.hid hi
  have HB := Lib.hid (usable_any vb Lb w.heap.size w hb (by omega))
  have HA := Lib.hid (fun q => usable_any va La w.heap.size (w.drewN q) (ha.drewN q) (by omega))
  obtain ⟨A0, c0, rfl, -, -⟩ := ha.form
  obtain ⟨A1, c1, rfl, -, -⟩ := hb.form
  have la := all_len La
  have lb := all_len Lb
  have HRM := Lib.hid (right_all La)
  have HRN := Lib.hid (right_all Lb)
  clear ha hb
  have HM0 : Hid (merge La Lb = (all La).foldl put (all Lb)) := rfl
  generalize merge La Lb = R at *
  generalize all La = M at *
  generalize all Lb = N at *
  go_enter Try.func19, Try.ntmps19
  go_wp2_with fail
  refine HB.out.mono ?_
  rintro e w1 ⟨⟨u, rfl, hu⟩, q0, rfl⟩
  have HU := Lib.hid hu
  clear hu
  go_wp2_with fail
  refine (HA.out q0).mono ?_
  rintro e w2 ⟨⟨x, rfl, hx⟩, q1, rfl⟩
  have H : Hid (Ents w.heap.size w x M) := hx
  obtain ⟨A, c, rfl, hA1, hA2⟩ := hx.form
  clear hx
  unfold maxLen at hA2
  generalize hm : M.length = n at *
  have HM := Lib.hid hm
  clear hm
  have B0 : Below w.heap.size w ((w.drewN q0).drewN q1) := by rw [World.drewN_drewN]; exact below_draws w _
  have U0 : Hid (Ents w.heap.size w u N) := HU.out
  generalize (w.drewN q0).drewN q1 = W0 at *
  go_wp2_with fail
  go_loopw [5, 6, 17] (fun s r i wr => ∃ (k : Nat) (out rs : List Ent), k ≤ n ∧ i = .int .i64 k ∧ Hid (out.length + rs.length ≤ N.length + k) ∧ Hid ((M.take k).foldl put N = out ++ rs) ∧ Hid (right (out ++ rs) = true) ∧ Hid (∀ h : k < M.length, ∀ a ∈ out, M03.lt a.1 (M[k]).1) ∧ Hid (OwnEnts wr w.heap.size s out) ∧ Hid (Ents w.heap.size wr r rs) ∧ Hid (Below w.heap.size w wr)) (fun _ _ i _ => n - (intOf i).toNat)
  case atStart => exact ⟨0, [], N, Nat.zero_le _, rfl, by show _ ≤ _; simp, rfl, HRN, fun _ a ha => by simp at ha, own_ents_nil _ _, U0.out.below B0, B0⟩
  case round =>
    obtain ⟨k, out, rs, hk, rfl, hlen, hf, hrt, hlow, hown, hrs, hb⟩ := hrel
    by_cases hlt : k < n
    · obtain ⟨b, o, hl1, t, rfl, hbl, ht, hc0, hc1⟩ := Ents.at_ (H.out.below hb.out) hlt
      obtain ⟨w1, hw1⟩ : ∃ w1 : World, w1 = wr.alloc (.cells #[.string t, .int .i64 (M[k]).2] 24) := ⟨_, rfl⟩
      have x0 : w1.cell? ⟨wr.heap.size, 0, none⟩ = some (.string t) := by rw [hw1]; simp
      have x1 : w1.cell? ⟨wr.heap.size, 1, none⟩ = some (.int .i64 (M[k]).2) := by rw [hw1]; simp
      have hs1 : wr.heap.size < w1.heap.size := by rw [hw1]; simp
      have Bw : Hid (Below wr.heap.size wr w1) := by rw [hw1]; exact (Below.refl _ _).alloc (Nat.le_refl _) _
      have B1 : Hid (Below w.heap.size w w1) := hb.out.trans (Bw.out.mono hb.out.size)
      have HO := Lib.hid (show OwnEnts w1 w.heap.size u5 out by rw [hw1]; exact own_alloc hown.out _)
      have HA := Lib.hid (around_any u6 rs w.heap.size t w1 (hrs.out.below (Bw.out.mono hb.out.size)) B1.out.size (right_high hrt.out) (by have := hlen.out; have := HM.out; omega))
      have HE : Hid ((t.data.toList, (M[k]).2) = M[k]) := by show _ = _; rw [ht]
      have HG := Lib.hid (merge_step hrt.out (hlow.out hl1))
      have HRT : Hid (right ((out ++ low rs (M[k]).1 ++ [M[k]]) ++ high rs (M[k]).1) = true) := by
        show _ = _
        rw [← HG.out]; exact right_putL _ (right_all _)
      have HMK : Hid (∀ h : k + 1 < M.length, M03.lt (M[k]).1 (M[k + 1]).1) := fun h => List.pairwise_iff_getElem.1 ((right_iff _).1 HRM.out) k (k + 1) hl1 h (Nat.lt_succ_self k)
      rw [← hf.out] at HG
      have HF := Lib.hid (fold_at (out := N) hl1)
      rw [HG.out] at HF
      have hll := low_high_len rs (M[k]).1
      have HLB := Lib.hid (fun a (h : a ∈ low rs (M[k]).1) => low_below h)
      have HT := Lib.hid ht
      rw [ht] at HA
      have hgb : ∀ q, u5.ownBlock = some q → q < wr.heap.size := fun q hq => (hown.out.lt q hq).2
      have HGB := Lib.hid hgb
      clear ht hgb HG
      go_wp2_with fail
      rw [← hw1]
      clear hw1
      refine HA.out.mono ?_
      rintro e w2 ⟨v1, v2, v3, rfl, h1, -, h3, hb2⟩
      have y0 : w2.cell? ⟨wr.heap.size, 0, none⟩ = some (.string t) := by rw [hb2.cell hs1]; exact x0
      have y1 : w2.cell? ⟨wr.heap.size, 1, none⟩ = some (.int .i64 (M[k]).2) := by rw [hb2.cell hs1]; exact x1
      have hs2 : wr.heap.size < w2.heap.size := by have := hb2.size; omega
      have B2 := Lib.hid (on B1.out hb2)
      have HO2 := Lib.hid (own_on HO.out hb2)
      have P1 := Lib.hid h1
      have P3 := Lib.hid h3
      clear h1 h3 hb2 x0 x1
      generalize low rs (M[k]).1 = lo at *
      generalize high rs (M[k]).1 = hi2 at *
      have a1 : Hid (out.length + lo.length + 1 ≤ maxLen) := by have := hlen.out; show _ ≤ _; unfold maxLen; omega
      have a2 : Hid ((out.length + lo.length + 1) * 24 ≤ 140737488355328) := by have := hlen.out; show _ ≤ _; omega
      have HO2d : Hid (OwnEnts w2.drew w.heap.size u5 out) := HO2.out
      have P1d : Hid (Ents w.heap.size w2.drew v1 lo) := P1.out
      have B2d : Hid (Below w.heap.size w w2.drew) := B2.out.drew
      have hne5 : ∀ q, u5.ownBlock = some q → q ≠ wr.heap.size ∧ w.heap.size ≤ q := fun q hq => ⟨by have := HGB.out q hq; omega, (HO2.out.lt q hq).1⟩
      have HNE5 := Lib.hid hne5
      clear hne5
      go_wp2_with fail
      go_region_held3 (fun w' => w'.cell? ⟨wr.heap.size, 0, none⟩ = some (.string t) ∧ w'.cell? ⟨wr.heap.size, 1, none⟩ = some (.int .i64 (M[k]).2) ∧ Below w.heap.size w w')
        (first | exact beside_grown (by assumption) hg4 hq4 (Nat.le_refl _) | exact beside_grown (by assumption) hg3 HNE5.out (Nat.le_refl _) | exact beside_alloc (by assumption) (Nat.le_refl _) _ | exact ⟨y0, y1, B2.out.drew⟩ | exact beside_draw (by assumption) | go_keep)
        (first
          | (refine wp_append_recs (.tmp 29) (.tmp 30) 22 rfl w.heap.size 24 i0 (.agg #[.string ⟨#[]⟩, .int .i64 0]) 2 24 Try.underlying22 HI.out hz0 hz1 hz2 rfl (by decide) u5 out.length (out.flatMap entC) rfl HO2.out v1 lo w.heap.size rfl P1.out entC_len entC_one (Nat.le_of_succ_le a1.out) (Nat.le_trans (Nat.mul_le_mul_right 24 (Nat.le_succ _)) a2.out) B2.out.size ?_; intro s1 w3 hown3 hg3 hq3; have B3 : Below w.heap.size w w3 := Below.grown B2d.out hg3 B2d.out.size (fun q hq => (HNE5.out q hq).2); have hq4 : ∀ q, s1.ownBlock = some q → q ≠ wr.heap.size ∧ w.heap.size ≤ q := fun q hq => ⟨(hq3 q hq).elim (fun e => (HNE5.out q e).1) (fun e => Nat.ne_of_gt (Nat.lt_of_lt_of_le hs2 e)), (hown3.lt q hq).1⟩)
          | (refine wp_append_recs (.tmp 29) (.tmp 30) 22 rfl w.heap.size 24 i0 (.agg #[.string ⟨#[]⟩, .int .i64 0]) 2 24 Try.underlying22 HI.out hz0 hz1 hz2 rfl (by decide) u5 out.length (out.flatMap entC) rfl (own_alloc HO2d.out _) v1 lo w.heap.size rfl (P1d.out.alloc B2d.out.size _) entC_len entC_one (Nat.le_of_succ_le a1.out) (Nat.le_trans (Nat.mul_le_mul_right 24 (Nat.le_succ _)) a2.out) (Nat.le_trans B2d.out.size (Nat.le_trans (Nat.le_succ _) (Nat.le_of_eq (World.size_alloc _ _).symm))) ?_; intro s1 w3 hown3 hg3 hq3; have B3 : Below w.heap.size w w3 := Below.grown (Below.alloc B2d.out B2d.out.size _) hg3 (Nat.le_trans B2d.out.size (Nat.le_trans (Nat.le_succ _) (Nat.le_of_eq (World.size_alloc _ _).symm))) (fun q hq => (HNE5.out q hq).2); have hq4 : ∀ q, s1.ownBlock = some q → q ≠ wr.heap.size ∧ w.heap.size ≤ q := fun q hq => ⟨(hq3 q hq).elim (fun e => (HNE5.out q e).1) (fun e => Nat.ne_of_gt (Nat.lt_of_lt_of_le hs2 (Nat.le_trans (Nat.le_trans (Nat.le_succ _) (Nat.le_of_eq (World.size_alloc w2.drew _).symm)) e))), (hown3.lt q hq).1⟩)
          | (refine wp_append_recs (.tmp 31) (.tmp 33) 22 rfl w.heap.size 24 i0 (.agg #[.string ⟨#[]⟩, .int .i64 0]) 2 24 Try.underlying22 HI.out hz0 hz1 hz2 rfl (by decide) s1 (out.length + lo.length) (out.flatMap entC ++ lo.flatMap entC) rfl (World.ownsRow.alloc hown3 _) _ [(t.data.toList, (M[k]).2)] _ rfl (one_ent w3 t (M[k]).2 24) entC_len entC_one a1.out a2.out (Nat.le_trans B3.size (Nat.le_trans (Nat.le_succ _) (Nat.le_of_eq (World.size_alloc w3 _).symm))) ?_; intro s2 w4 hown4 hg4 _)
          | (refine wp_append_recs (.tmp 31) (.tmp 33) 22 rfl w.heap.size 24 i0 (.agg #[.string ⟨#[]⟩, .int .i64 0]) 2 24 Try.underlying22 HI.out hz0 hz1 hz2 rfl (by decide) s1 (out.length + lo.length) (out.flatMap entC ++ lo.flatMap entC) rfl hown3 _ [(t.data.toList, (M[k]).2)] _ rfl (one_kept (undrew hg3) (fun e => Nat.lt_irrefl _ (Nat.lt_trans hs2 (HGB.out _ e)))) entC_len entC_one a1.out a2.out B3.size ?_; intro s2 w4 hown4 hg4 _))
      all_goals (
        have B4 := Lib.hid (beside_below (w := w) (W := w4) (e0 := wr.heap.size) (x0 := .string t) (x1 := .int .i64 (M[k]).2) (by assumption))
        rw [HE.out] at hown4
        have O4 : Hid (OwnEnts w4 w.heap.size s2 (out ++ lo ++ [M[k]])) := own_ents_two hown4
        have P4 : Hid (Ents w.heap.size w4 v3 hi2) := P3.out.keep fun p hp => (B4.out.cell hp).trans (B2.out.cell hp).symm
        clear hown3 hg3 hq3 hq4 hown4 hg4 B3
        go_wp2_with fail
        go_roundw
        case rel => exact ⟨k + 1, out ++ lo ++ [M[k]], hi2, by omega, by go_num, by have := hlen.out; show _ ≤ _; simp only [List.length_append, List.length_singleton]; omega, HF, HRT, fun h a ha => by
          rcases List.mem_append.1 ha with ha | ha
          · rcases List.mem_append.1 ha with ha | ha
            · exact M03.lt_trans (hlow.out hl1 a ha) (HMK.out h)
            · exact M03.lt_trans (HLB.out a ha) (HMK.out h)
          · rw [List.mem_singleton.1 ha]; exact HMK.out h, O4, P4, B4⟩
        case measure => simp [intOf]; omega)
    · have HX : Hid (R = out ++ rs) := by
        show _ = _
        rw [HM0.out, ← hf.out, take_all (by rw [HM.out]; exact hlt)]
      have a1 : out.length + rs.length ≤ maxLen := by have := hlen.out; unfold maxLen; omega
      have a2 : (out.length + rs.length) * 24 ≤ 140737488355328 := by have := hlen.out; omega
      have A1 := Lib.hid a1
      have A2 := Lib.hid a2
      clear a1 a2
      go_wp2_with (at_builtin; refine wpList_append_recs rfl (.tmp 37) (.tmp 38) 22 rfl w.heap.size 24 i0 (.agg #[.string ⟨#[]⟩, .int .i64 0]) 2 24 Try.underlying22 HI.out hz0 hz1 hz2 rfl (by decide) _ _ _ rfl hown.out _ rs _ rfl hrs.out entC_len entC_one A1.out A2.out hb.out.size ?_; intro v1 w2 hown1 hg1 _)
      have O1 := Lib.hid (own_ents_all hown1)
      have B1 := Lib.hid (hb.out.grown hg1 hb.out.size (fun q hq => (hown.out.lt q hq).1))
      rw [← HX.out] at O1
      clear hown1 hg1
      go_wp2_with fail
      go_ret
      exact ⟨_, rfl, O1.out.reads, B1.out⟩
end Go.Proofs.Ytnfamakpbgaoiaa.W06
