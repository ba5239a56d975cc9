/-
  Layer 6 (ents), walks: what the landed Right, Find, Put, Cut, Names, Merge and Next return; new memory may be laid, nothing that was there is changed. The bounds on the lists stand in the statements.
-/
import Derived.Test.YtelphegeeiocnaaW06Concat
import Derived.Deep.RegionHeld3
namespace Go.Proofs.Ytelphegeeiocnaa.W06
open Go Go.RowKit Go.Proofs.Ytelphegeeiocnaa.Strs Go.Proofs.Ytelphegeeiocnaa.Recs Go.Proofs.Ytelphegeeiocnaa.M06
open Go.Proofs.Ytelphegeeiocnaa.Kit (ret_str ret_bool ret_int mk_of mk_bytes ba_ext below_draws on)

/-- entries are handed out that lie in new memory -/
def HandsN (w : World) (L : List Ent) (e : Ending) (w' : World) : Prop := ∃ v, e = .returned v ∧ Ents w'.heap.size w' v L ∧ (∀ b o n c, v = .slice (some ⟨b, o, none⟩) n c → w.heap.size ≤ b) ∧ Below w.heap.size w w'
theorem own_new {w : World} {base B : Nat} {v : Value} {L : List Ent} (h : OwnEnts w base v L) (hB : B ≤ base) : ∀ b o n c, v = .slice (some ⟨b, o, none⟩) n c → B ≤ b := by
  rintro b o n c rfl
  exact Nat.le_trans hB (h.lt b rfl).1
theorem hands_of_new {w w' : World} {L : List Ent} {e : Ending} (h : HandsN w L e w') : HandsE w L e w' := by
  obtain ⟨v, he, hu, -, hb⟩ := h
  exact ⟨v, he, hu, hb⟩
/-- what a call returns that hands out texts -/
def HandsT (w : World) (L : List (List UInt8)) (e : Ending) (w' : World) : Prop := ∃ v, e = .returned v ∧ Texts w'.heap.size w' v L ∧ Below w.heap.size w w'
theorem draws_below {w w' : World} {e : Ending} {v : Value} (h : e = .returned v ∧ ∃ n, w' = w.drewN n) : e = .returned v ∧ Below w.heap.size w w' := by
  obtain ⟨he, n, hw⟩ := h
  exact ⟨he, by rw [hw]; exact below_draws _ _⟩
theorem none_form {B : Nat} {w : World} {v : Value} (h : Ents B w v []) : ∃ A c, v = .slice A 0 c := by
  obtain ⟨A, c, rfl, -, -⟩ := h.form
  exact ⟨A, c, rfl⟩
theorem some_form {B : Nat} {w : World} {v : Value} {a : Ent} {r : List Ent} (h : Ents B w v (a :: r)) : ∃ (b o n c : Nat) (t : ByteArray), v = .slice (some ⟨b, o, none⟩) (n + 1) c ∧ n + 1 ≤ c ∧ c ≤ maxLen ∧ b < B ∧ t.data.toList = a.1 ∧ w.cell? ⟨b, o, none⟩ = some (.string t) ∧ w.cell? ⟨b, o + 1, none⟩ = some (.int .i64 a.2) := by
  obtain ⟨A, c, rfl, h1, h2⟩ := h.form
  obtain ⟨b, o, hl, t, rfl, hb, ht, hc0, hc1⟩ := Ents.at_ h (k := 0) (by simp)
  rw [Nat.zero_mul, Nat.add_zero] at hc0 hc1
  exact ⟨b, o, r.length, c, t, rfl, h1, h2, hb, ht, hc0, hc1⟩

theorem lists_two {w : World} {A1 A2 : Option Addr} {c1 c2 B : Nat} {L1 L2 : List Ent} (h1 : Ents B w (.slice A1 L1.length c1) L1) (h2 : Ents B w (.slice A2 L2.length c2) L2) (hB : B ≤ w.heap.size) (t : TypeId) :
    Lists (w.heap.size + 1) (w.alloc (.cells #[.slice A1 L1.length c1, .slice A2 L2.length c2] t)) w.heap.size 0 [L1, L2] := by
  intro j hj
  match j, hj with
  | 0, _ => exact ⟨A1, c1, by simp, (h1.alloc hB _).more (by omega)⟩
  | 1, _ => exact ⟨A2, c2, by simp, (h2.alloc hB _).more (by omega)⟩
theorem lists_three {w : World} {A1 A2 A3 : Option Addr} {c1 c2 c3 B : Nat} {L1 L2 L3 : List Ent} (h1 : Ents B w (.slice A1 L1.length c1) L1) (h2 : Ents B w (.slice A2 L2.length c2) L2) (h3 : Ents B w (.slice A3 L3.length c3) L3) (hB : B ≤ w.heap.size) (t : TypeId) :
    Lists (w.heap.size + 1) (w.alloc (.cells #[.slice A1 L1.length c1, .slice A2 L2.length c2, .slice A3 L3.length c3] t)) w.heap.size 0 [L1, L2, L3] := by
  intro j hj
  match j, hj with
  | 0, _ => exact ⟨A1, c1, by simp, (h1.alloc hB _).more (by omega)⟩
  | 1, _ => exact ⟨A2, c2, by simp, (h2.alloc hB _).more (by omega)⟩
  | 2, _ => exact ⟨A3, c3, by simp, (h3.alloc hB _).more (by omega)⟩
section
variable (v : Value) (L : List Ent) (w : World)
theorem right_any (h : Ents w.heap.size w v L) (hn : L.length ≤ 1099511627776) : Calls Try.prog 58 #[v] w fun e w' => e = .returned (.bool (right L)) ∧ Below w.heap.size w w' :=
  (codeRight_any v L _ w h hn).mono fun _ _ => draws_below
theorem find_any (s : ByteArray) (h : Ents w.heap.size w v L) (hn : L.length ≤ 1099511627776) : Calls Try.prog 27 #[v, .string s] w fun e w' => e = .returned (.tuple #[.int .i64 (M06.find (all L) s.data.toList).1, .bool (M06.find (all L) s.data.toList).2]) ∧ Below w.heap.size w w' := by
  have HU := Lib.hid (usable_any v L _ w h hn)
  have HA := Lib.hid (fun (q : Nat) (u : Value) (hu : Ents w.heap.size w u (all L)) => around_any u (all L) _ s (w.drewN q) hu (Nat.le_refl _) (right_all L) (Nat.le_trans (all_len L) hn))
  obtain ⟨A, c, rfl, -, -⟩ := h.form
  clear h
  rw [find_parts]
  generalize all L = M at *
  generalize s.data.toList = S at *
  cases hm : M06.mid M S with
  | nil =>
    have HM := Lib.hid hm
    clear hm
    go_enter Try.func27, Try.ntmps27
    go_wp2_with fail
    refine HU.out.mono ?_
    rintro e w1 ⟨⟨u, rfl, hu⟩, q, rfl⟩
    have HA := Lib.hid (HA.out q u hu)
    clear hu
    go_wp2_with fail
    refine HA.out.mono ?_
    rintro e w2 ⟨v1, v2, v3, rfl, -, h2, -, hb⟩
    have B2 := Lib.hid (on (below_draws w q) hb)
    rw [HM.out] at h2
    obtain ⟨A2, c2, rfl⟩ := none_form h2
    clear hb h2
    go_wp2_with fail
    go_ret2
    exact ⟨rfl, B2.out⟩
  | cons a r =>
    have HM := Lib.hid hm
    clear hm
    go_enter Try.func27, Try.ntmps27
    go_wp2_with fail
    refine HU.out.mono ?_
    rintro e w1 ⟨⟨u, rfl, hu⟩, q, rfl⟩
    have HA := Lib.hid (HA.out q u hu)
    clear hu
    go_wp2_with fail
    refine HA.out.mono ?_
    rintro e w2 ⟨v1, v2, v3, rfl, -, h2, -, hb⟩
    have B2 := Lib.hid (on (below_draws w q) hb)
    rw [HM.out] at h2
    obtain ⟨b, o, n, c2, t, rfl, hn1, hn2, hbl, -, hc0, hc1⟩ := some_form h2
    unfold maxLen at hn2
    have hne : ((n : Int) + 1 == 0) = false := by simp; omega
    clear hb h2
    go_wp2_with fail
    go_ret2
    exact ⟨rfl, B2.out⟩
theorem cut_new (s : ByteArray) (h : Ents w.heap.size w v L) (hn : L.length ≤ 1099511627776) : Calls Try.prog 43 #[v, .string s] w (HandsN w (cut L s.data.toList)) := by
  have HU := Lib.hid (usable_any v L _ w h hn)
  have HA := Lib.hid (fun (q : Nat) (u : Value) (hu : Ents w.heap.size w u (all L)) => around_any u (all L) _ s (w.drewN q) hu (Nat.le_refl _) (right_all L) (Nat.le_trans (all_len L) hn))
  obtain ⟨A, c, rfl, -, -⟩ := h.form
  clear h
  rw [cut_parts]
  have hl1 := low_high_len (all L) s.data.toList
  have hl2 := all_len L
  generalize all L = M at *
  generalize s.data.toList = S at *
  go_enter Try.func43, Try.ntmps43
  go_wp2_with fail
  refine HU.out.mono ?_
  rintro e w1 ⟨⟨u, rfl, hu⟩, q, rfl⟩
  have HA := Lib.hid (HA.out q u hu)
  clear hu
  go_wp2_with fail
  refine HA.out.mono ?_
  rintro e w2 ⟨v1, v2, v3, rfl, h1, -, h3, hb⟩
  have B2 := Lib.hid (on (below_draws w q) hb)
  have hbs := hb.size
  obtain ⟨A1, c1, rfl, -, -⟩ := h1.form
  obtain ⟨A3, c3, rfl, -, -⟩ := h3.form
  have HC := Lib.hid (concat_any w2.heap.size 0 2 2 (w2.heap.size + 1) [low M S, high M S] (w2.alloc (.cells #[.slice A1 (low M S).length c1, .slice A3 (high M S).length c3] 41)) rfl (lists_two h1 h3 hbs _) (by omega) (by simp) (by omega) (by simp; omega))
  clear hb h1 h3
  go_wp2_with fail
  refine HC.out.mono ?_
  rintro e w3 ⟨u3, rfl, hu3, hb3⟩
  have N3 := Lib.hid (own_new (B := w.heap.size) hu3 (by rw [World.size_alloc]; have := B2.out.size; omega))
  have U3 := Lib.hid hu3.reads
  rw [show [low M S, high M S].flatten = low M S ++ high M S by simp] at U3
  have B3 := Lib.hid (on B2.out (((Below.refl w2.heap.size w2).alloc (Nat.le_refl _) _).trans (hb3.mono (by simp))))
  clear hu3 hb3
  go_wp2_with fail
  go_ret
  exact ⟨_, rfl, U3.out, N3.out, B3.out⟩
theorem cut_any (s : ByteArray) (h : Ents w.heap.size w v L) (hn : L.length ≤ 1099511627776) : Calls Try.prog 43 #[v, .string s] w (HandsE w (cut L s.data.toList)) :=
  (cut_new v L w s h hn).mono fun _ _ => hands_of_new
theorem usable_hands (v : Value) (L : List Ent) (B : Nat) (w : World) (h : Ents B w v L) (hn : L.length ≤ 1099511627776) :
    Calls Try.prog 42 #[v] w fun e w' => ∃ u, e = .returned u ∧ Ents B w' u (all L) ∧ Below w.heap.size w w' :=
  (usable_any v L B w h hn).mono fun _ _ ⟨⟨u, he, hu⟩, q, hw⟩ => ⟨u, he, by rw [hw]; exact hu, by rw [hw]; exact below_draws _ _⟩
theorem one_ent (w : World) (en : ByteArray) (z : Int) (t : TypeId) : Ents (w.heap.size + 1) (w.alloc (.cells #[.string en, .int .i64 z] t)) (.slice (some ⟨w.heap.size, 0, none⟩) 1 1) [(en.data.toList, z)] := by
  refine ⟨_, 1, rfl, Nat.le_refl _, by decide, fun _ => ⟨_, rfl, Nat.lt_succ_self _, fun k hk j hj => ?_⟩⟩
  obtain rfl : k = 0 := by simpa using hk
  have h := cells_new w [.string en, .int .i64 z] t j
  rw [Nat.zero_mul, Nat.zero_add]
  show _ = ([strV en.data.toList, .int .i64 z])[j]?
  have he : strV en.data.toList = .string en := by unfold strV; rw [mk_bytes]
  rw [he]
  match j, hj with
  | 0, _ => exact h _ rfl
  | 1, _ => exact h _ rfl
section
variable {w9 w' w'' : World} {B : Nat} {x0 x1 : Value}
theorem boxed_below (hS : w'.cell? ⟨B, 0, none⟩ = some x0 ∧ w'.cell? ⟨B, 1, none⟩ = some x1 ∧ Below w9.heap.size w9 w') : Below w9.heap.size w9 w' := hS.2.2
theorem boxed_on (hs : B < w9.heap.size) (hS : w'.cell? ⟨B, 0, none⟩ = some x0 ∧ w'.cell? ⟨B, 1, none⟩ = some x1 ∧ Below w9.heap.size w9 w') (hb : Below w'.heap.size w' w'') : w''.cell? ⟨B, 0, none⟩ = some x0 ∧ w''.cell? ⟨B, 1, none⟩ = some x1 ∧ Below w9.heap.size w9 w'' := by
  have := hS.2.2.size
  exact ⟨by rw [hb.cell (by show B < _; omega)]; exact hS.1, by rw [hb.cell (by show B < _; omega)]; exact hS.2.1, on hS.2.2 hb⟩
theorem boxed_draw (hS : w'.cell? ⟨B, 0, none⟩ = some x0 ∧ w'.cell? ⟨B, 1, none⟩ = some x1 ∧ Below w9.heap.size w9 w') : w'.drew.cell? ⟨B, 0, none⟩ = some x0 ∧ w'.drew.cell? ⟨B, 1, none⟩ = some x1 ∧ Below w9.heap.size w9 w'.drew := ⟨hS.1, hS.2.1, hS.2.2.drew⟩
end
set_option maxHeartbeats 2000000 in
theorem put_new (en : ByteArray) (z : Int) (h : Ents w.heap.size w v L) (hn : L.length ≤ 1099511627776) : Calls Try.prog 40 #[v, .agg #[.string en, .int .i64 z]] w (HandsN w (put L (en.data.toList, z))) := by
  obtain ⟨w1, hw1⟩ : ∃ w1 : World, w1 = w.alloc (.cells #[.string en, .int .i64 z] 45) := ⟨_, rfl⟩
  have x0 : w1.cell? ⟨w.heap.size, 0, none⟩ = some (.string en) := by rw [hw1]; simp
  have x1 : w1.cell? ⟨w.heap.size, 1, none⟩ = some (.int .i64 z) := by rw [hw1]; simp
  have hs1 : w.heap.size < w1.heap.size := by rw [hw1]; simp
  have B1 : Hid (Below w.heap.size w w1) := by rw [hw1]; exact (Below.refl _ _).alloc (Nat.le_refl _) _
  have HU := Lib.hid (fun (w' : World) (hb : Below w1.heap.size w1 w') => usable_hands v L w.heap.size w' (h.below (B1.out.trans (hb.mono B1.out.size))) hn)
  have HA := Lib.hid (fun (w' : World) (u : Value) (hu : Ents w.heap.size w' u (all L)) (hs : w.heap.size ≤ w'.heap.size) => around_any u (all L) w.heap.size en w' hu hs (right_all L) (Nat.le_trans (all_len L) hn))
  obtain ⟨A, c, rfl, -, -⟩ := h.form
  clear h
  rw [put_parts]
  have hl1 := low_high_len (all L) en.data.toList
  have hl2 := all_len L
  generalize all L = M at *
  show Calls _ _ _ _ (HandsN w (low M en.data.toList ++ (en.data.toList, z) :: high M en.data.toList))
  go_enter Try.func40, Try.ntmps40
  go_wp2_with fail
  rw [← hw1]
  clear hw1
  go_region_held3 (fun w' => w'.cell? ⟨w.heap.size, 0, none⟩ = some (.string en) ∧ w'.cell? ⟨w.heap.size, 1, none⟩ = some (.int .i64 z) ∧ Below w1.heap.size w1 w')
    (first | exact boxed_on hs1 (by assumption) hb3 | exact boxed_on hs1 (by assumption) hb2 | exact ⟨x0, x1, (Below.refl _ _).drew⟩ | exact boxed_draw (by assumption) | go_keep)
    (first
      | (go_at_call 42; refine (HU.out _ (boxed_below (by assumption))).mono ?_; rintro e x2 ⟨y1, rfl, hu, hb2⟩; have U1 := Lib.hid hu; clear hu)
      | (go_at_call 41; refine (HA.out _ _ U1.out (Nat.le_trans B1.out.size (boxed_below (by assumption)).size)).mono ?_; rintro e x3 ⟨v1, v2, v3, rfl, h1, -, h3, hb3⟩; have P1 := Lib.hid h1; have P3 := Lib.hid h3; clear h1 h3))
  obtain ⟨hx0, hx1, hbb⟩ := (by assumption : x3.cell? ⟨w.heap.size, 0, none⟩ = some (.string en) ∧ x3.cell? ⟨w.heap.size, 1, none⟩ = some (.int .i64 z) ∧ Below w1.heap.size w1 x3)
  have B3 : Hid (Below w.heap.size w x3) := B1.out.trans (hbb.mono B1.out.size)
  have hs3 := B3.out.size
  obtain ⟨A1, c1, rfl, -, -⟩ := P1.out.form
  obtain ⟨A3, c3, rfl, -, -⟩ := P3.out.form
  have hC := concat_any (x3.heap.size + 1) 0 3 3 (x3.heap.size + 2) [low M en.data.toList, [(en.data.toList, z)], high M en.data.toList] ((x3.alloc (.cells #[.string en, .int .i64 z] 45)).alloc (.cells #[.slice A1 (low M en.data.toList).length c1, .slice (some ⟨x3.heap.size, 0, none⟩) 1 1, .slice A3 (high M en.data.toList).length c3] 41)) rfl (by
    have q := lists_three (L2 := [(en.data.toList, z)]) (A2 := some ⟨x3.heap.size, 0, none⟩) (c2 := 1) (w := x3.alloc (.cells #[.string en, .int .i64 z] 45)) (B := x3.heap.size + 1) ((P1.out.alloc hs3 (.cells #[.string en, .int .i64 z] 45)).more (by omega)) (one_ent x3 en z 45) ((P3.out.alloc hs3 (.cells #[.string en, .int .i64 z] 45)).more (by omega)) (by rw [World.size_alloc]; exact Nat.le_refl _) 41
    rw [World.size_alloc] at q
    exact q) (by omega) (by rw [World.size_alloc, World.size_alloc]; exact Nat.le_refl _) (by omega) (by simp; omega)
  have HC := Lib.hid hC
  clear hC hbb hb3
  go_wp2_with fail
  refine HC.out.mono ?_
  rintro e w4 ⟨u4, rfl, hu4, hb4⟩
  have N4 := Lib.hid (own_new (B := w.heap.size) hu4 (by rw [World.size_alloc, World.size_alloc]; omega))
  have U4 := Lib.hid hu4.reads
  rw [show [low M en.data.toList, [(en.data.toList, z)], high M en.data.toList].flatten = low M en.data.toList ++ (en.data.toList, z) :: high M en.data.toList by simp] at U4
  have B4 := Lib.hid (on B3.out ((((Below.refl x3.heap.size x3).alloc (Nat.le_refl _) (.cells #[.string en, .int .i64 z] 45)).alloc (by simp) _).trans (hb4.mono (by simp; omega))))
  clear hu4 hb4
  go_wp2_with fail
  go_ret
  exact ⟨_, rfl, U4.out, N4.out, B4.out⟩
theorem put_any (en : ByteArray) (z : Int) (h : Ents w.heap.size w v L) (hn : L.length ≤ 1099511627776) : Calls Try.prog 40 #[v, .agg #[.string en, .int .i64 z]] w (HandsE w (put L (en.data.toList, z))) :=
  (put_new v L w en z h hn).mono fun _ _ => hands_of_new
end
theorem own_on {w w' : World} {base : Nat} {v : Value} {L : List Ent} (h : OwnEnts w base v L) (hb : Below w.heap.size w w') : OwnEnts w' base v L := by
  refine ⟨h.1, ?_⟩
  rcases h.2 with hn | ⟨g, cap, cur, hv, hg, hh, rest⟩
  · exact Or.inl hn
  · refine Or.inr ⟨g, cap, cur, hv, hg, ?_, rest⟩
    rw [hb.block g ?_]; exact hh
    rcases Nat.lt_or_ge g w.heap.size with hlt | hge
    · exact hlt
    · rw [Array.getElem?_eq_none hge] at hh; cases hh
section
variable {w W W' : World} {e0 base : Nat} {x0 x1 : Value} {row : Option Nat}
theorem beside_grown (hS : W.cell? ⟨e0, 0, none⟩ = some x0 ∧ W.cell? ⟨e0, 1, none⟩ = some x1 ∧ Below base w W) (hg : W.grownBy W' row) (hrow : ∀ q, row = some q → q ≠ e0 ∧ base ≤ q) (hbase : base ≤ w.heap.size) : W'.cell? ⟨e0, 0, none⟩ = some x0 ∧ W'.cell? ⟨e0, 1, none⟩ = some x1 ∧ Below base w W' :=
  ⟨hg.cell hS.1 (fun e => (hrow _ e.symm).1 rfl), hg.cell hS.2.1 (fun e => (hrow _ e.symm).1 rfl), hS.2.2.grown hg (Nat.le_trans hbase hS.2.2.size) (fun k hk => (hrow k hk).2)⟩
theorem beside_draw (hS : W.cell? ⟨e0, 0, none⟩ = some x0 ∧ W.cell? ⟨e0, 1, none⟩ = some x1 ∧ Below base w W) : W.drew.cell? ⟨e0, 0, none⟩ = some x0 ∧ W.drew.cell? ⟨e0, 1, none⟩ = some x1 ∧ Below base w W.drew := ⟨hS.1, hS.2.1, hS.2.2.drew⟩
theorem beside_alloc (hS : W.cell? ⟨e0, 0, none⟩ = some x0 ∧ W.cell? ⟨e0, 1, none⟩ = some x1 ∧ Below base w W) (hbase : base ≤ w.heap.size) (o : Obj) : (W.alloc o).cell? ⟨e0, 0, none⟩ = some x0 ∧ (W.alloc o).cell? ⟨e0, 1, none⟩ = some x1 ∧ Below base w (W.alloc o) :=
  ⟨(World.cell?_alloc_lt W o _ (World.block_lt_of_cell? W _ hS.1)).trans hS.1, (World.cell?_alloc_lt W o _ (World.block_lt_of_cell? W _ hS.2.1)).trans hS.2.1, hS.2.2.alloc (Nat.le_trans hbase hS.2.2.size) o⟩
theorem undrew (h : W.drew.grownBy W' row) : W.grownBy W' row := ⟨h.os, h.tape, h.output, h.size, h.block⟩
theorem own_ents_two {v : Value} {out lo : List Ent} {e : Ent} (h : w.ownsRow base 45 2 v (out.length + lo.length + [e].length) (out.flatMap entC ++ lo.flatMap entC ++ [e].flatMap entC)) : OwnEnts w base v (out ++ lo ++ [e]) := by
  unfold OwnEnts
  rw [List.length_append, List.length_append, List.flatMap_append, List.flatMap_append]
  exact h
theorem beside_below (hS : W.cell? ⟨e0, 0, none⟩ = some x0 ∧ W.cell? ⟨e0, 1, none⟩ = some x1 ∧ Below base w W) : Below base w W := hS.2.2
theorem one_kept {t : ByteArray} {z : Int} {ty : TypeId} (hg : (W.alloc (.cells #[.string t, .int .i64 z] ty)).grownBy W' row) (hrow : row ≠ some W.heap.size) : Ents (W.heap.size + 1) W' (.slice (some ⟨W.heap.size, 0, none⟩) 1 1) [(t.data.toList, z)] :=
  Recs.other (one_ent W t z ty) (fun p hp => World.cell?_of_block (hg.block p.block (by rw [World.size_alloc, hp]; exact Nat.lt_succ_self _) (by rw [hp]; exact fun e => hrow e.symm)))
end
end Go.Proofs.Ytelphegeeiocnaa.W06
