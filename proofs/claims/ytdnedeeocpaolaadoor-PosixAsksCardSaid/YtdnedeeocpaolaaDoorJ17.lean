/-
  Texts joined, in build order, each with its own comment and its own conditions: W06Code, W08Near, W09More, W09Task, W09Put, W07Lives.
-/
import Derived.Test.YtdnedeeocpaolaaDoorJ16
import Derived.Deep.RegionHeld3
import Derived.Test.YtdnedeeocpaolaaDoorJ06
import Derived.Test.YtdnedeeocpaolaaDoorJ15
import Derived.Test.YtdnedeeocpaolaaDoorJ14
import Derived.Test.YtdnedeeocpaolaaDoorJ11
import Derived.Test.YtdnedeeocpaolaaDoorJ04
import Derived.Test.YtdnedeeocpaolaaDoorJ10
/-
  Layer 6 (ents), walks: what the landed Right, Find, Put, Cut, Names, Merge and Next return; new memory may be laid, nothing that was there is changed. The bounds on the lists stand in the statements.
-/
namespace Go.Proofs.YtdnedeeocpaolaaDoor.W06
set_option maxRecDepth 100000
open Go Go.RowKit Go.Proofs.YtdnedeeocpaolaaDoor.Strs Go.Proofs.YtdnedeeocpaolaaDoor.Recs Go.Proofs.YtdnedeeocpaolaaDoor.M06
open Go.Proofs.YtdnedeeocpaolaaDoor.Kit (ret_str ret_bool ret_int mk_of mk_bytes ba_ext below_draws on)

/-- entries are handed out that lie in new memory -/
def HandsN (w : World) (L : List Ent) (e : Ending) (w' : World) : Prop := ∃ v, e = .returned v ∧ Ents w'.heap.size w' v L ∧ (∀ b o n c, v = .slice (some ⟨b, o, none⟩) n c → w.heap.size ≤ b) ∧ Below w.heap.size w w'
theorem own_new {w : World} {base B : Nat} {v : Value} {L : List Ent} (h : OwnEnts w base v L) (hB : B ≤ base) : ∀ b o n c, v = .slice (some ⟨b, o, none⟩) n c → B ≤ b := by
  rintro b o n c rfl
  exact Nat.le_trans hB (h.lt b rfl).1
theorem hands_of_new {w w' : World} {L : List Ent} {e : Ending} (h : HandsN w L e w') : HandsE w L e w' := by
  obtain ⟨v, he, hu, -, hb⟩ := h
  exact ⟨v, he, hu, hb⟩
/-- what a call returns that hands out texts -/
def HandsT (w : World) (L : List (List UInt8)) (e : Ending) (w' : World) : Prop := ∃ v, e = .returned v ∧ Texts w'.heap.size w' v L ∧ Below w.heap.size w w'
theorem draws_below {w w' : World} {e : Ending} {v : Value} (h : e = .returned v ∧ ∃ n, w' = w.drewN n) : e = .returned v ∧ Below w.heap.size w w' := by
  obtain ⟨he, n, hw⟩ := h
  exact ⟨he, by rw [hw]; exact below_draws _ _⟩
theorem none_form {B : Nat} {w : World} {v : Value} (h : Ents B w v []) : ∃ A c, v = .slice A 0 c := by
  obtain ⟨A, c, rfl, -, -⟩ := h.form
  exact ⟨A, c, rfl⟩
theorem some_form {B : Nat} {w : World} {v : Value} {a : Ent} {r : List Ent} (h : Ents B w v (a :: r)) : ∃ (b o n c : Nat) (t : ByteArray), v = .slice (some ⟨b, o, none⟩) (n + 1) c ∧ n + 1 ≤ c ∧ c ≤ maxLen ∧ b < B ∧ t.data.toList = a.1 ∧ w.cell? ⟨b, o, none⟩ = some (.string t) ∧ w.cell? ⟨b, o + 1, none⟩ = some (.int .i64 a.2) := by
  obtain ⟨A, c, rfl, h1, h2⟩ := h.form
  obtain ⟨b, o, hl, t, rfl, hb, ht, hc0, hc1⟩ := Ents.at_ h (k := 0) (by simp)
  rw [Nat.zero_mul, Nat.add_zero] at hc0 hc1
  exact ⟨b, o, r.length, c, t, rfl, h1, h2, hb, ht, hc0, hc1⟩

theorem lists_two {w : World} {A1 A2 : Option Addr} {c1 c2 B : Nat} {L1 L2 : List Ent} (h1 : Ents B w (.slice A1 L1.length c1) L1) (h2 : Ents B w (.slice A2 L2.length c2) L2) (hB : B ≤ w.heap.size) (t : TypeId) :
    Lists (w.heap.size + 1) (w.alloc (.cells #[.slice A1 L1.length c1, .slice A2 L2.length c2] t)) w.heap.size 0 [L1, L2] := by
  intro j hj
  match j, hj with
  | 0, _ => exact ⟨A1, c1, by simp, (h1.alloc hB _).more (by omega)⟩
  | 1, _ => exact ⟨A2, c2, by simp, (h2.alloc hB _).more (by omega)⟩
theorem lists_three {w : World} {A1 A2 A3 : Option Addr} {c1 c2 c3 B : Nat} {L1 L2 L3 : List Ent} (h1 : Ents B w (.slice A1 L1.length c1) L1) (h2 : Ents B w (.slice A2 L2.length c2) L2) (h3 : Ents B w (.slice A3 L3.length c3) L3) (hB : B ≤ w.heap.size) (t : TypeId) :
    Lists (w.heap.size + 1) (w.alloc (.cells #[.slice A1 L1.length c1, .slice A2 L2.length c2, .slice A3 L3.length c3] t)) w.heap.size 0 [L1, L2, L3] := by
  intro j hj
  match j, hj with
  | 0, _ => exact ⟨A1, c1, by simp, (h1.alloc hB _).more (by omega)⟩
  | 1, _ => exact ⟨A2, c2, by simp, (h2.alloc hB _).more (by omega)⟩
  | 2, _ => exact ⟨A3, c3, by simp, (h3.alloc hB _).more (by omega)⟩
section
variable (v : Value) (L : List Ent) (w : World)
theorem right_any (h : Ents w.heap.size w v L) (hn : L.length ≤ 1099511627776) : Calls Tryd.prog 75 #[v] w fun e w' => e = .returned (.bool (right L)) ∧ Below w.heap.size w w' :=
  (codeRight_any v L _ w h hn).mono fun _ _ => draws_below
theorem find_any (s : ByteArray) (h : Ents w.heap.size w v L) (hn : L.length ≤ 1099511627776) : Calls Tryd.prog 20 #[v, .string s] w fun e w' => e = .returned (.tuple #[.int .i64 (M06.find (all L) s.data.toList).1, .bool (M06.find (all L) s.data.toList).2]) ∧ Below w.heap.size w w' := by
  have HU := Lib.hid (usable_any v L _ w h hn)
  have HA := Lib.hid (fun (q : Nat) (u : Value) (hu : Ents w.heap.size w u (all L)) => around_any u (all L) _ s (w.drewN q) hu (Nat.le_refl _) (right_all L) (Nat.le_trans (all_len L) hn))
  obtain ⟨A, c, rfl, -, -⟩ := h.form
  clear h
  rw [find_parts]
  generalize all L = M at *
  generalize s.data.toList = S at *
  cases hm : M06.mid M S with
  | nil =>
    have HM := Lib.hid hm
    clear hm
    go_enter Tryd.func20, Tryd.ntmps20
    go_wp2_with fail
    refine HU.out.mono ?_
    rintro e w1 ⟨⟨u, rfl, hu⟩, q, rfl⟩
    have HA := Lib.hid (HA.out q u hu)
    clear hu
    go_wp2_with fail
    refine HA.out.mono ?_
    rintro e w2 ⟨v1, v2, v3, rfl, -, h2, -, hb⟩
    have B2 := Lib.hid (on (below_draws w q) hb)
    rw [HM.out] at h2
    obtain ⟨A2, c2, rfl⟩ := none_form h2
    clear hb h2
    go_wp2_with fail
    go_ret2
    exact ⟨rfl, B2.out⟩
  | cons a r =>
    have HM := Lib.hid hm
    clear hm
    go_enter Tryd.func20, Tryd.ntmps20
    go_wp2_with fail
    refine HU.out.mono ?_
    rintro e w1 ⟨⟨u, rfl, hu⟩, q, rfl⟩
    have HA := Lib.hid (HA.out q u hu)
    clear hu
    go_wp2_with fail
    refine HA.out.mono ?_
    rintro e w2 ⟨v1, v2, v3, rfl, -, h2, -, hb⟩
    have B2 := Lib.hid (on (below_draws w q) hb)
    rw [HM.out] at h2
    obtain ⟨b, o, n, c2, t, rfl, hn1, hn2, hbl, -, hc0, hc1⟩ := some_form h2
    unfold maxLen at hn2
    have hne : ((n : Int) + 1 == 0) = false := by simp; omega
    clear hb h2
    go_wp2_with fail
    go_ret2
    exact ⟨rfl, B2.out⟩
theorem cut_new (s : ByteArray) (h : Ents w.heap.size w v L) (hn : L.length ≤ 1099511627776) : Calls Tryd.prog 89 #[v, .string s] w (HandsN w (cut L s.data.toList)) := by
  have HU := Lib.hid (usable_any v L _ w h hn)
  have HA := Lib.hid (fun (q : Nat) (u : Value) (hu : Ents w.heap.size w u (all L)) => around_any u (all L) _ s (w.drewN q) hu (Nat.le_refl _) (right_all L) (Nat.le_trans (all_len L) hn))
  obtain ⟨A, c, rfl, -, -⟩ := h.form
  clear h
  rw [cut_parts]
  have hl1 := low_high_len (all L) s.data.toList
  have hl2 := all_len L
  generalize all L = M at *
  generalize s.data.toList = S at *
  go_enter Tryd.func89, Tryd.ntmps89
  go_wp2_with fail
  refine HU.out.mono ?_
  rintro e w1 ⟨⟨u, rfl, hu⟩, q, rfl⟩
  have HA := Lib.hid (HA.out q u hu)
  clear hu
  go_wp2_with fail
  refine HA.out.mono ?_
  rintro e w2 ⟨v1, v2, v3, rfl, h1, -, h3, hb⟩
  have B2 := Lib.hid (on (below_draws w q) hb)
  have hbs := hb.size
  obtain ⟨A1, c1, rfl, -, -⟩ := h1.form
  obtain ⟨A3, c3, rfl, -, -⟩ := h3.form
  have HC := Lib.hid (concat_any w2.heap.size 0 2 2 (w2.heap.size + 1) [low M S, high M S] (w2.alloc (.cells #[.slice A1 (low M S).length c1, .slice A3 (high M S).length c3] 55)) rfl (lists_two h1 h3 hbs _) (by omega) (by simp) (by omega) (by simp; omega))
  clear hb h1 h3
  go_wp2_with fail
  refine HC.out.mono ?_
  rintro e w3 ⟨u3, rfl, hu3, hb3⟩
  have N3 := Lib.hid (own_new (B := w.heap.size) hu3 (by rw [World.size_alloc]; have := B2.out.size; omega))
  have U3 := Lib.hid hu3.reads
  rw [show [low M S, high M S].flatten = low M S ++ high M S by simp] at U3
  have B3 := Lib.hid (on B2.out (((Below.refl w2.heap.size w2).alloc (Nat.le_refl _) _).trans (hb3.mono (by simp))))
  clear hu3 hb3
  go_wp2_with fail
  go_ret
  exact ⟨_, rfl, U3.out, N3.out, B3.out⟩
theorem cut_any (s : ByteArray) (h : Ents w.heap.size w v L) (hn : L.length ≤ 1099511627776) : Calls Tryd.prog 89 #[v, .string s] w (HandsE w (cut L s.data.toList)) :=
  (cut_new v L w s h hn).mono fun _ _ => hands_of_new
set_option maxHeartbeats 1000000 in
theorem names_any (h : Ents w.heap.size w v L) (hn : L.length ≤ 1099511627776) : Calls Tryd.prog 38 #[v] w (HandsT w (names L)) := by
  obtain ⟨i0, hi, hz0, hz1, hz2⟩ := info_parts text_info
  have HU := Lib.hid (usable_any v L _ w h hn)
  have HNM : Hid (names L = (all L).map (·.1)) := rfl
  obtain ⟨A0, c0, rfl, -, -⟩ := h.form
  have hl := all_len L
  clear h
  generalize names L = R at *
  generalize all L = M at *
  go_enter Tryd.func38, Tryd.ntmps38
  go_wp2_with fail
  refine HU.out.mono ?_
  rintro e w1 ⟨⟨u, rfl, hu⟩, q0, rfl⟩
  have H := Lib.hid hu
  obtain ⟨A, c, rfl, hA1, hA2⟩ := hu.form
  clear hu
  unfold maxLen at hA2
  generalize hm : M.length = n at *
  have HM := Lib.hid hm
  clear hm
  go_wp2_with fail
  go_loopw [3, 9] (fun u i wr => ∃ (k : Nat) (out : List (List UInt8)), k ≤ n ∧ i = .int .i64 k ∧ out.length = k ∧ Hid (out = (M.take k).map (·.1)) ∧ Hid (wr.ownsRow w.heap.size 9 1 u out.length (out.map strV)) ∧ Below w.heap.size w wr) (fun _ i _ => n - (intOf i).toNat)
  case atStart => exact ⟨0, [], Nat.zero_le _, rfl, rfl, rfl, World.ownsRow_nil _ _ _ _, below_draws _ _⟩
  case round =>
    obtain ⟨k, out, hk, rfl, hout, hr, hown, hb⟩ := hrel
    by_cases hlt : k < n
    · obtain ⟨b, o, hl1, t, rfl, hbl, ht, hc0, hc1⟩ := Ents.at_ (H.out.below hb) hlt
      have HX : Hid ((M.take (k + 1)).map (·.1) = out ++ [t.data.toList]) := by
        show _ = _
        rw [take_at hl1, List.map_append, ← hr.out, ht]; rfl
      have hbs := hb.size
      have a1 : out.length + 1 ≤ maxLen := by unfold maxLen; omega
      have a2 : (out.length + 1) * 16 ≤ 140737488355328 := by omega
      clear ht
      have HX1 := Lib.hid (hb.alloc hbs (.cells #[.string t, .int .i64 (M[k]).2] 81))
      have HX2 := Lib.hid (HX1.out.alloc HX1.out.size (.cells #[.string t] 9))
      have hc1 := cell_one_new (wr.alloc (.cells #[.string t, .int .i64 (M[k]).2] 81)) (.string t) 9
      rw [World.size_alloc] at hc1
      have HC1 := Lib.hid hc1
      clear hc1
      go_wp2_with (at_builtin; refine wpList_append_own _ rfl (.tmp 13) (.tmp 16) 42 rfl w.heap.size 9 i0 (.string ⟨#[]⟩) 1 16 Tryd.underlying42 hi hz0 hz1 hz2 rfl (by decide) _ _ _ rfl ((hown.out.alloc _).alloc _) ⟨_, 0, none⟩ 1 1 [.string t] rfl rfl HC1.out (by intro u hu; simp at hu; subst hu; rfl) a1 a2 HX2.out.size ?_; intro v1 w2 hown1 hgrow1 _)
      have B2 := Lib.hid (HX2.out.grown hgrow1 HX2.out.size (fun k hk => (hown.out.lt k hk).1))
      have O1 := Lib.hid (own_more hown1)
      clear hown1 hgrow1 a1 a2
      go_wp2
      go_roundw
      case rel => exact ⟨k + 1, _, by omega, by go_num, by rw [List.length_append, hout]; rfl, HX.symm, O1, B2.out⟩
      case measure => simp [intOf]; omega
    · have HX : Hid (out = R) := hr.out.trans (by rw [HNM.out, take_all (by rw [HM.out]; exact hlt)])
      go_wp2_with fail
      go_ret
      exact ⟨_, rfl, by rw [← HX.out]; exact Texts.of_own hown.out, hb⟩
theorem usable_hands (v : Value) (L : List Ent) (B : Nat) (w : World) (h : Ents B w v L) (hn : L.length ≤ 1099511627776) :
    Calls Tryd.prog 46 #[v] w fun e w' => ∃ u, e = .returned u ∧ Ents B w' u (all L) ∧ Below w.heap.size w w' :=
  (usable_any v L B w h hn).mono fun _ _ ⟨⟨u, he, hu⟩, q, hw⟩ => ⟨u, he, by rw [hw]; exact hu, by rw [hw]; exact below_draws _ _⟩
theorem one_ent (w : World) (en : ByteArray) (z : Int) (t : TypeId) : Ents (w.heap.size + 1) (w.alloc (.cells #[.string en, .int .i64 z] t)) (.slice (some ⟨w.heap.size, 0, none⟩) 1 1) [(en.data.toList, z)] := by
  refine ⟨_, 1, rfl, Nat.le_refl _, by decide, fun _ => ⟨_, rfl, Nat.lt_succ_self _, fun k hk j hj => ?_⟩⟩
  obtain rfl : k = 0 := by simpa using hk
  have h := cells_new w [.string en, .int .i64 z] t j
  rw [Nat.zero_mul, Nat.zero_add]
  show _ = ([strV en.data.toList, .int .i64 z])[j]?
  have he : strV en.data.toList = .string en := by unfold strV; rw [mk_bytes]
  rw [he]
  match j, hj with
  | 0, _ => exact h _ rfl
  | 1, _ => exact h _ rfl
section
variable {w9 w' w'' : World} {B : Nat} {x0 x1 : Value}
theorem boxed_below (hS : w'.cell? ⟨B, 0, none⟩ = some x0 ∧ w'.cell? ⟨B, 1, none⟩ = some x1 ∧ Below w9.heap.size w9 w') : Below w9.heap.size w9 w' := hS.2.2
theorem boxed_on (hs : B < w9.heap.size) (hS : w'.cell? ⟨B, 0, none⟩ = some x0 ∧ w'.cell? ⟨B, 1, none⟩ = some x1 ∧ Below w9.heap.size w9 w') (hb : Below w'.heap.size w' w'') : w''.cell? ⟨B, 0, none⟩ = some x0 ∧ w''.cell? ⟨B, 1, none⟩ = some x1 ∧ Below w9.heap.size w9 w'' := by
  have := hS.2.2.size
  exact ⟨by rw [hb.cell (by show B < _; omega)]; exact hS.1, by rw [hb.cell (by show B < _; omega)]; exact hS.2.1, on hS.2.2 hb⟩
theorem boxed_draw (hS : w'.cell? ⟨B, 0, none⟩ = some x0 ∧ w'.cell? ⟨B, 1, none⟩ = some x1 ∧ Below w9.heap.size w9 w') : w'.drew.cell? ⟨B, 0, none⟩ = some x0 ∧ w'.drew.cell? ⟨B, 1, none⟩ = some x1 ∧ Below w9.heap.size w9 w'.drew := ⟨hS.1, hS.2.1, hS.2.2.drew⟩
end
set_option maxHeartbeats 2000000 in
theorem put_new (en : ByteArray) (z : Int) (h : Ents w.heap.size w v L) (hn : L.length ≤ 1099511627776) : Calls Tryd.prog 77 #[v, .agg #[.string en, .int .i64 z]] w (HandsN w (put L (en.data.toList, z))) := by
  obtain ⟨w1, hw1⟩ : ∃ w1 : World, w1 = w.alloc (.cells #[.string en, .int .i64 z] 81) := ⟨_, rfl⟩
  have x0 : w1.cell? ⟨w.heap.size, 0, none⟩ = some (.string en) := by rw [hw1]; simp
  have x1 : w1.cell? ⟨w.heap.size, 1, none⟩ = some (.int .i64 z) := by rw [hw1]; simp
  have hs1 : w.heap.size < w1.heap.size := by rw [hw1]; simp
  have B1 : Hid (Below w.heap.size w w1) := by rw [hw1]; exact (Below.refl _ _).alloc (Nat.le_refl _) _
  have HU := Lib.hid (fun (w' : World) (hb : Below w1.heap.size w1 w') => usable_hands v L w.heap.size w' (h.below (B1.out.trans (hb.mono B1.out.size))) hn)
  have HA := Lib.hid (fun (w' : World) (u : Value) (hu : Ents w.heap.size w' u (all L)) (hs : w.heap.size ≤ w'.heap.size) => around_any u (all L) w.heap.size en w' hu hs (right_all L) (Nat.le_trans (all_len L) hn))
  obtain ⟨A, c, rfl, -, -⟩ := h.form
  clear h
  rw [put_parts]
  have hl1 := low_high_len (all L) en.data.toList
  have hl2 := all_len L
  generalize all L = M at *
  show Calls _ _ _ _ (HandsN w (low M en.data.toList ++ (en.data.toList, z) :: high M en.data.toList))
  go_enter Tryd.func77, Tryd.ntmps77
  go_wp2_with fail
  rw [← hw1]
  clear hw1
  go_region_held3 (fun w' => w'.cell? ⟨w.heap.size, 0, none⟩ = some (.string en) ∧ w'.cell? ⟨w.heap.size, 1, none⟩ = some (.int .i64 z) ∧ Below w1.heap.size w1 w')
    (first | exact boxed_on hs1 (by assumption) hb3 | exact boxed_on hs1 (by assumption) hb2 | exact ⟨x0, x1, (Below.refl _ _).drew⟩ | exact boxed_draw (by assumption) | go_keep)
    (first
      | (go_at_call 46; refine (HU.out _ (boxed_below (by assumption))).mono ?_; rintro e x2 ⟨y1, rfl, hu, hb2⟩; have U1 := Lib.hid hu; clear hu)
      | (go_at_call 45; refine (HA.out _ _ U1.out (Nat.le_trans B1.out.size (boxed_below (by assumption)).size)).mono ?_; rintro e x3 ⟨v1, v2, v3, rfl, h1, -, h3, hb3⟩; have P1 := Lib.hid h1; have P3 := Lib.hid h3; clear h1 h3))
  obtain ⟨hx0, hx1, hbb⟩ := (by assumption : x3.cell? ⟨w.heap.size, 0, none⟩ = some (.string en) ∧ x3.cell? ⟨w.heap.size, 1, none⟩ = some (.int .i64 z) ∧ Below w1.heap.size w1 x3)
  have B3 : Hid (Below w.heap.size w x3) := B1.out.trans (hbb.mono B1.out.size)
  have hs3 := B3.out.size
  obtain ⟨A1, c1, rfl, -, -⟩ := P1.out.form
  obtain ⟨A3, c3, rfl, -, -⟩ := P3.out.form
  have hC := concat_any (x3.heap.size + 1) 0 3 3 (x3.heap.size + 2) [low M en.data.toList, [(en.data.toList, z)], high M en.data.toList] ((x3.alloc (.cells #[.string en, .int .i64 z] 81)).alloc (.cells #[.slice A1 (low M en.data.toList).length c1, .slice (some ⟨x3.heap.size, 0, none⟩) 1 1, .slice A3 (high M en.data.toList).length c3] 55)) rfl (by
    have q := lists_three (L2 := [(en.data.toList, z)]) (A2 := some ⟨x3.heap.size, 0, none⟩) (c2 := 1) (w := x3.alloc (.cells #[.string en, .int .i64 z] 81)) (B := x3.heap.size + 1) ((P1.out.alloc hs3 (.cells #[.string en, .int .i64 z] 81)).more (by omega)) (one_ent x3 en z 81) ((P3.out.alloc hs3 (.cells #[.string en, .int .i64 z] 81)).more (by omega)) (by rw [World.size_alloc]; exact Nat.le_refl _) 55
    rw [World.size_alloc] at q
    exact q) (by omega) (by rw [World.size_alloc, World.size_alloc]; exact Nat.le_refl _) (by omega) (by simp; omega)
  have HC := Lib.hid hC
  clear hC hbb hb3
  go_wp2_with fail
  refine HC.out.mono ?_
  rintro e w4 ⟨u4, rfl, hu4, hb4⟩
  have N4 := Lib.hid (own_new (B := w.heap.size) hu4 (by rw [World.size_alloc, World.size_alloc]; omega))
  have U4 := Lib.hid hu4.reads
  rw [show [low M en.data.toList, [(en.data.toList, z)], high M en.data.toList].flatten = low M en.data.toList ++ (en.data.toList, z) :: high M en.data.toList by simp] at U4
  have B4 := Lib.hid (on B3.out ((((Below.refl x3.heap.size x3).alloc (Nat.le_refl _) (.cells #[.string en, .int .i64 z] 81)).alloc (by simp) _).trans (hb4.mono (by simp; omega))))
  clear hu4 hb4
  go_wp2_with fail
  go_ret
  exact ⟨_, rfl, U4.out, N4.out, B4.out⟩
theorem put_any (en : ByteArray) (z : Int) (h : Ents w.heap.size w v L) (hn : L.length ≤ 1099511627776) : Calls Tryd.prog 77 #[v, .agg #[.string en, .int .i64 z]] w (HandsE w (put L (en.data.toList, z))) :=
  (put_new v L w en z h hn).mono fun _ _ => hands_of_new
end
theorem own_on {w w' : World} {base : Nat} {v : Value} {L : List Ent} (h : OwnEnts w base v L) (hb : Below w.heap.size w w') : OwnEnts w' base v L := by
  refine ⟨h.1, ?_⟩
  rcases h.2 with hn | ⟨g, cap, cur, hv, hg, hh, rest⟩
  · exact Or.inl hn
  · refine Or.inr ⟨g, cap, cur, hv, hg, ?_, rest⟩
    rw [hb.block g ?_]; exact hh
    rcases Nat.lt_or_ge g w.heap.size with hlt | hge
    · exact hlt
    · rw [Array.getElem?_eq_none hge] at hh; cases hh
section
variable {w W W' : World} {e0 base : Nat} {x0 x1 : Value} {row : Option Nat}
theorem beside_grown (hS : W.cell? ⟨e0, 0, none⟩ = some x0 ∧ W.cell? ⟨e0, 1, none⟩ = some x1 ∧ Below base w W) (hg : W.grownBy W' row) (hrow : ∀ q, row = some q → q ≠ e0 ∧ base ≤ q) (hbase : base ≤ w.heap.size) : W'.cell? ⟨e0, 0, none⟩ = some x0 ∧ W'.cell? ⟨e0, 1, none⟩ = some x1 ∧ Below base w W' :=
  ⟨hg.cell hS.1 (fun e => (hrow _ e.symm).1 rfl), hg.cell hS.2.1 (fun e => (hrow _ e.symm).1 rfl), hS.2.2.grown hg (Nat.le_trans hbase hS.2.2.size) (fun k hk => (hrow k hk).2)⟩
theorem beside_draw (hS : W.cell? ⟨e0, 0, none⟩ = some x0 ∧ W.cell? ⟨e0, 1, none⟩ = some x1 ∧ Below base w W) : W.drew.cell? ⟨e0, 0, none⟩ = some x0 ∧ W.drew.cell? ⟨e0, 1, none⟩ = some x1 ∧ Below base w W.drew := ⟨hS.1, hS.2.1, hS.2.2.drew⟩
theorem beside_alloc (hS : W.cell? ⟨e0, 0, none⟩ = some x0 ∧ W.cell? ⟨e0, 1, none⟩ = some x1 ∧ Below base w W) (hbase : base ≤ w.heap.size) (o : Obj) : (W.alloc o).cell? ⟨e0, 0, none⟩ = some x0 ∧ (W.alloc o).cell? ⟨e0, 1, none⟩ = some x1 ∧ Below base w (W.alloc o) :=
  ⟨(World.cell?_alloc_lt W o _ (World.block_lt_of_cell? W _ hS.1)).trans hS.1, (World.cell?_alloc_lt W o _ (World.block_lt_of_cell? W _ hS.2.1)).trans hS.2.1, hS.2.2.alloc (Nat.le_trans hbase hS.2.2.size) o⟩
theorem undrew (h : W.drew.grownBy W' row) : W.grownBy W' row := ⟨h.os, h.tape, h.output, h.size, h.block⟩
theorem own_ents_two {v : Value} {out lo : List Ent} {e : Ent} (h : w.ownsRow base 81 2 v (out.length + lo.length + [e].length) (out.flatMap entC ++ lo.flatMap entC ++ [e].flatMap entC)) : OwnEnts w base v (out ++ lo ++ [e]) := by
  unfold OwnEnts
  rw [List.length_append, List.length_append, List.flatMap_append, List.flatMap_append]
  exact h
theorem beside_below (hS : W.cell? ⟨e0, 0, none⟩ = some x0 ∧ W.cell? ⟨e0, 1, none⟩ = some x1 ∧ Below base w W) : Below base w W := hS.2.2
theorem one_kept {t : ByteArray} {z : Int} {ty : TypeId} (hg : (W.alloc (.cells #[.string t, .int .i64 z] ty)).grownBy W' row) (hrow : row ≠ some W.heap.size) : Ents (W.heap.size + 1) W' (.slice (some ⟨W.heap.size, 0, none⟩) 1 1) [(t.data.toList, z)] :=
  Recs.other (one_ent W t z ty) (fun p hp => World.cell?_of_block (hg.block p.block (by rw [World.size_alloc, hp]; exact Nat.lt_succ_self _) (by rw [hp]; exact fun e => hrow e.symm)))
end
end Go.Proofs.YtdnedeeocpaolaaDoor.W06
/-
  Layer 8 (seek): what any code that goes paths uses: ents' Find in a directory's list tells what stands there; a node's own entry, once, in the list of its directory. Conditions: those that each theorem bears.
-/
namespace Go.Proofs.YtdnedeeocpaolaaDoor.W08
open Go Go.RowKit Go.Proofs.YtdnedeeocpaolaaDoor.Strs Go.Proofs.YtdnedeeocpaolaaDoor.Recs
open Go.Proofs.YtdnedeeocpaolaaDoor.M07 (Tr Nd nodeAt inDir Right listDir entOf at_some in_found mem_list)
open Go.Proofs.YtdnedeeocpaolaaDoor.M08
open Go.Proofs.YtdnedeeocpaolaaDoor.M06 (Ent)
open Go.Proofs.YtdnedeeocpaolaaDoor.W06 (Ents)
open Go.Proofs.YtdnedeeocpaolaaDoor.W07 (Small listed plainN find_in)

theorem listed_is {t : Tr} (h : Right t) (n : Int) : listed t n = listDir t.L n := by
  unfold listed
  split
  · rfl
  · rename_i hk
    symm
    rw [List.eq_nil_iff_forall_not_mem]
    intro e he
    obtain ⟨a, ha, e1, _, _⟩ := (mem_list h).1 he
    have := h.up a ha
    rw [e1] at this
    exact hk this
theorem find_near {t : Tr} (h : Right t) (d : Int) (s : Bytes) : M06.find (M06.all (listed t d)) s = (inDir t.L d s, decide (inDir t.L d s ≠ 0)) := by
  by_cases hd : (nodeAt t.L d).kind = 1
  · exact find_in h s hd
  · have e : inDir t.L d s = 0 := by
      by_cases h0 : inDir t.L d s = 0
      · exact h0
      · obtain ⟨a, ha, -, e2, -⟩ := in_found h0
        have := h.up a ha
        rw [e2] at this
        exact absurd this hd
    rw [e]
    unfold listed
    rw [if_neg hd]
    rfl
theorem listed_len {t : Tr} (hs : Small t) (d : Int) : (listed t d).length ≤ 1048576 := by
  have := hs.1
  unfold listed
  split
  · exact Nat.le_trans (M07.list_len _ _) this
  · exact Nat.zero_le _
/-- a node's own entry -/
theorem own_entry {t : Tr} (h : Right t) {n : Int} (hk : (nodeAt t.L n).kind ≠ 0) (h1 : n ≠ 1) : ∃ A B, listed t (nodeAt t.L n).up = A ++ ((nodeAt t.L n).name, n) :: B ∧ (∀ e ∈ A, e.2 ≠ n) ∧ ∀ e ∈ B, e.2 ≠ n := by
  have hm := at_some hk
  rw [listed_is h]
  have hin : ((nodeAt t.L n).name, n) ∈ listDir t.L (nodeAt t.L n).up := (mem_list h).2 ⟨_, hm.1, rfl, by rw [hm.2]; exact h1, by unfold entOf; rw [hm.2]⟩
  have hr := M07.list_rises t.L (nodeAt t.L n).up
  have hu : ∀ e ∈ listDir t.L (nodeAt t.L n).up, e.2 = n → e.1 = (nodeAt t.L n).name := by
    intro e he e2
    obtain ⟨a, ha, -, -, rfl⟩ := (mem_list h).1 he
    have e3 : a.num = n := e2
    have := h.at_ ha
    rw [e3] at this
    rw [this]; rfl
  obtain ⟨A, B, e⟩ := List.append_of_mem hin
  rw [e] at hr hu
  refine ⟨A, B, e, fun x hx e2 => ?_, fun x hx e2 => ?_⟩
  · have q := (List.pairwise_append.1 hr).2.2 x hx _ List.mem_cons_self
    rw [hu x (List.mem_append_left _ hx) e2] at q
    exact M03.lt_irrefl _ q
  · have q := (List.pairwise_cons.1 (List.pairwise_append.1 hr).2.1).1 x hx
    rw [hu x (List.mem_append_right _ (List.mem_cons_of_mem _ hx)) e2] at q
    exact M03.lt_irrefl _ q
theorem near_any {t : Tr} (h : Right t) (hs : Small t) (d : Int) (s : ByteArray) {u : Value} {w : World} (hu : Ents w.heap.size w u (listed t d)) : Calls Tryd.prog 20 #[u, .string s] w fun e w' => e = .returned (.tuple #[.int .i64 (inDir t.L d s.data.toList), .bool (decide (inDir t.L d s.data.toList ≠ 0))]) ∧ Below w.heap.size w w' := by
  have := W06.find_any _ _ w s hu (Nat.le_trans (listed_len hs d) (by decide))
  rw [find_near h] at this
  exact this
end Go.Proofs.YtdnedeeocpaolaaDoor.W08
/-
  Layer 9 (posix), walks over the contracts: the laws PosixMoves and PosixNone: each returns true; nothing that was there is changed. The conditions stand in the statements.
-/
namespace Go.Proofs.YtdnedeeocpaolaaDoor.W09
set_option maxRecDepth 100000
open Go Go.RowKit Go.Proofs.YtdnedeeocpaolaaDoor.Strs Go.Proofs.YtdnedeeocpaolaaDoor.Recs Go.Proofs.YtdnedeeocpaolaaDoor.Range
open Go.Proofs.YtdnedeeocpaolaaDoor.M07 (Tr Nd nodeAt inDir Right listDir)
open Go.Proofs.YtdnedeeocpaolaaDoor.M08 Go.Proofs.YtdnedeeocpaolaaDoor.M09
open Go.Proofs.YtdnedeeocpaolaaDoor.W07 (Small Trees Wrote Nodes nodeV TreeBox heap_top)
open Go.Proofs.YtdnedeeocpaolaaDoor.W08 (Sn Snodes snC snC_len isFew few_is made Seeks)
open Go.Proofs.YtdnedeeocpaolaaDoor.Kit (ret_str ret_bool ret_int mk_of mk_bytes ba_ext below_draws on)

theorem stat_find {t : Tr} {p : Bytes} {last : Bool} (h : (M09.stat t p last).2 = 0) : (find t p last).2 = 0 ∧ (M09.stat t p last).1.1 = (find t p last).1 ∧ (M09.stat t p last).1.2.1 = (nodeAt t.L (find t p last).1).kind := by
  unfold M09.stat at h ⊢
  by_cases h1 : (find t p last).2 = 0
  · simp [h1]
  · rw [if_pos h1] at h; exact absurd h h1
theorem rename_spot {t : Tr} {a b : Bytes} (h : (M09.rename t a b).2 = 0) : (spot t b).2.2 = 0 := by
  unfold M09.rename at h
  split at h
  · rename_i q; exact absurd h q
  · split at h
    · rename_i q; exact absurd h q
    · rename_i q; simpa using q
set_option maxHeartbeats 8000000 in
theorem posixMoves_over {Rep : (Nat → Prop) → World → Value → Tr → Prop} (C : Trees Rep) (S8 : Seeks Rep) (S : Posix Rep) (w : World) (v : Value) (L : List Sn) (h : Snodes w.heap.size w v L) (p q : ByteArray) :
    Calls Tryd.prog 4 #[v, .string p, .string q] w fun e w' => e = .returned (.bool true) ∧ Below w.heap.size w w' := by
  have HFW := Lib.hid (W08.few_any v L w.heap.size w h)
  have HL := Lib.hid (fun w' => lives9_over C S w')
  have HH := Lib.hid h
  obtain ⟨A, c, rfl, -, -⟩ := h.form
  clear h
  generalize hm : L.length = m at *
  cases hf : isFew L with
  | false =>
    rw [hf] at HFW
    clear hf hm
    go_enter Tryd.func4, Tryd.ntmps4
    go_wp2_with fail
    refine HFW.out.mono ?_
    rintro e w1 ⟨rfl, hw⟩
    have hw := hw.symm
    subst hw
    go_wp2_with fail
    refine (HL.out _).mono ?_
    rintro e w2 ⟨rfl, hb⟩
    go_wp2_with fail
    go_ret
    exact ⟨rfl, hb⟩
  | true =>
    rw [hf] at HFW
    obtain ⟨hd, hl⟩ := few_is hf
    by_cases hp : (2000 : Int) < p.size
    · clear hf hm hd hl
      go_enter Tryd.func4, Tryd.ntmps4
      go_wp2_with fail
      refine HFW.out.mono ?_
      rintro e w1 ⟨rfl, hw⟩
      have hw := hw.symm
      subst hw
      go_wp2_with fail
      refine (HL.out _).mono ?_
      rintro e w2 ⟨rfl, hb⟩
      go_wp2_with fail
      go_ret
      exact ⟨rfl, hb⟩
    · by_cases hq : (2000 : Int) < q.size
      · clear hf hm hd hl
        go_enter Tryd.func4, Tryd.ntmps4
        go_wp2_with fail
        refine HFW.out.mono ?_
        rintro e w1 ⟨rfl, hw⟩
        have hw := hw.symm
        subst hw
        go_wp2_with fail
        refine (HL.out _).mono ?_
        rintro e w2 ⟨rfl, hb⟩
        go_wp2_with fail
        go_ret
        exact ⟨rfl, hb⟩
      · have hps : p.size ≤ 1048576 := by omega
        have hqs : q.size ≤ 1048576 := by omega
        have HM := W08.made_over C w (.slice A m c) L HH.out hl hd
        have HWI := Lib.hid (made_within hl)
        have HG := Lib.hid (HWI.out.good (by decide))
        generalize (made L).1 = T at *
        have HM := Lib.hid HM
        clear hf hm hd hl
        go_enter Tryd.func4, Tryd.ntmps4
        go_wp2_with fail
        refine HFW.out.mono ?_
        rintro e w1 ⟨rfl, hw⟩
        have hw := hw.symm
        subst hw
        go_wp2_with fail
        refine HM.out.mono ?_
        rintro e w2 ⟨pv, u, F, rfl, hrep, hn, hF, hb⟩
        obtain ⟨Au, cu, rfl, -, -⟩ := hn.form
        obtain ⟨w3, hw3⟩ : ∃ w3, w2.alloc (.cells #[.slice Au T.L.length cu, .int .i64 T.last] 28) = w3 := ⟨_, rfl⟩
        have ha : Below w2.heap.size w2 w3 := by rw [← hw3]; exact (Below.refl _ _).alloc (Nat.le_refl _) _
        have P3 := Lib.hid (C.below hrep ha)
        have B3 := Lib.hid (on hb ha)
        have HF := Lib.hid hF
        have HLOW := Lib.hid (C.low hrep)
        have HZ3 := Lib.hid ha.size
        have HLS := Lib.hid (S.lstat P3.out HG.out p hps)
        have HSF := Lib.hid (@stat_find T p.data.toList false)
        clear hrep hn hF hb ha HM
        go_wp2_with fail
        clear hw3
        refine HLS.out.mono ?_
        rintro e w4 ⟨rfl, hb4⟩
        have HRN := Lib.hid (@renamed T HWI.out.right p.data.toList q.data.toList)
        have HRS := Lib.hid (@rename_spot T p.data.toList q.data.toList)
        have HKR := Lib.hid (kept_rename T p.data.toList q.data.toList)
        generalize M09.stat T p.data.toList false = A1 at *
        obtain ⟨⟨a1, a2, a3⟩, a4⟩ := A1
        unfold statV
        obtain ⟨w5, hw5⟩ : ∃ w5, w4.alloc (.cells #[.int .i64 a1, .int .i64 a2, .int .i64 a3] 32) = w5 := ⟨_, rfl⟩
        have hb5 : Below w3.heap.size w3 w5 := by rw [← hw5]; exact hb4.alloc hb4.size _
        have HZ4 : Hid (w2.heap.size ≤ w4.heap.size) := Nat.le_trans HZ3.out hb4.size
        have SB := Lib.hid (show StatBox w5 w4.heap.size a1 a2 a3 by rw [← hw5]; exact heap_top _ _)
        have P5 := Lib.hid (C.below P3.out hb5)
        have B5 := Lib.hid (on B3.out hb5)
        have HSP := Lib.hid (S8.spot P5.out HG.out q hqs)
        clear hb4 hb5 HLS P3 B3
        go_wp2_with fail
        clear hw5
        refine HSP.out.mono ?_
        rintro e w6 ⟨rfl, hb6⟩
        have P6 := Lib.hid (C.below P5.out hb6)
        have B6 := Lib.hid (on B5.out hb6)
        have SB6 := Lib.hid (SB.out.below hb6)
        have HRE := Lib.hid (S.rename P6.out HG.out p q hps hqs)
        clear hb6 HSP P5 B5 SB
        have s0 := SB6.out.c0
        have s1 := SB6.out.c1
        by_cases he : a4 = 0
        · have te : (a4 != 0) = false := by simp [he]
          obtain ⟨f1, f2', f3'⟩ := HSF.out he
          have f2 : a1 = (find T p.data.toList false).1 := f2'
          have f3 : a2 = (nodeAt T.L (find T p.data.toList false).1).kind := f3'
          rw [← f2] at HRN f3
          clear HSF he f1 f2' f3'
          by_cases hk : a2 = 2
          · have tk : (a2 != 2) = false := by simp [hk]
            by_cases hr : (M09.rename T p.data.toList q.data.toList).2 = 0
            · obtain ⟨r1, r2, r3⟩ := HRN.out hr
              rw [← f3, hk] at r2
              obtain ⟨ds, hds⟩ : ∃ ds : ByteArray, ds.data.toList = (spot T q.data.toList).2.1 := ⟨⟨(spot T q.data.toList).2.1.toArray⟩, rfl⟩
              rw [mk_of hds]
              rw [← hds] at r1
              rw [hr] at HRE
              have R1 := Lib.hid r1
              have R2 := Lib.hid r2
              have R3 := Lib.hid r3
              have HSM := Lib.hid (HKR.out.right HWI.out.right)
              have hsm : Small (M09.rename T p.data.toList q.data.toList).1 := (HWI.out.next HKR.out).good (by decide) |>.small
              have HS2 := Lib.hid hsm
              clear HRN HRS hr r1 r2 r3 hds hk f2 f3 hsm HKR
              generalize (M09.rename T p.data.toList q.data.toList).1 = T2 at *
              generalize (spot T q.data.toList).1 = sd at *
              generalize (spot T q.data.toList).2.2 = se at *
              go_wp2_with fail
              refine HRE.out.mono ?_
              rintro e w7 ⟨rfl, hwr⟩
              have hs6 := SB6.out.lt
              obtain ⟨F7, p7, hF7, b7⟩ := wrote_on HF.out B6.out hwr
              obtain ⟨F8, q8, t8, -⟩ := hwr
              have c0 : w7.cell? ⟨w4.heap.size, 0, none⟩ = some (.int .i64 a1) := t8.cell s0 (fun hk => Nat.lt_irrefl _ (Nat.lt_of_lt_of_le (HLOW.out _ hk) HZ4.out))
              have hs7 : w4.heap.size < w7.heap.size := Nat.lt_of_lt_of_le hs6 t8.size
              have P7 := Lib.hid p7
              have B7 := Lib.hid b7
              have HLI := Lib.hid (C.list p7 HS2.out sd)
              have HNR := Lib.hid (fun (w' : World) (u : Value) (hu : W06.Ents w'.heap.size w' u (W07.listed T2 sd)) => W08.near_any HSM.out HS2.out sd ds hu)
              rw [R1.out, decide_eq_true R3.out] at HNR
              have HKD := Lib.hid (fun (w' : World) (hb : Below w7.heap.size w7 w') => C.kind (C.below P7.out hb) HS2.out a1)
              rw [R2.out] at HKD
              clear p7 b7 q8 t8 hF7 s0 s1 hs6 SB6
              go_wp2_with fail
              refine HLI.out.mono ?_
              rintro e w8 ⟨u8, rfl, hu8, hb8⟩
              have c0' : w8.cell? ⟨w4.heap.size, 0, none⟩ = some (.int .i64 a1) := (hb8.cell (p := ⟨w4.heap.size, 0, none⟩) hs7).trans c0
              have hs8 : w4.heap.size < w8.heap.size := Nat.lt_of_lt_of_le hs7 hb8.size
              have T8 := Lib.hid hb8
              have U8 := Lib.hid hu8
              clear c0 hb8 hu8 HLI
              go_wp2_with fail
              refine (HNR.out w8 u8 U8.out).mono ?_
              rintro e w9 ⟨rfl, hb9⟩
              have c0 : w9.cell? ⟨w4.heap.size, 0, none⟩ = some (.int .i64 a1) := (hb9.cell (p := ⟨w4.heap.size, 0, none⟩) hs8).trans c0'
              have T9 := Lib.hid (on T8.out hb9)
              clear c0' hb9 HNR T8 U8
              go_wp2_with fail
              refine (HKD.out w9 T9.out).mono ?_
              rintro e w10 ⟨rfl, hb10⟩
              have T10 := Lib.hid (on T9.out hb10)
              clear c0 hb10 T9
              go_wp2_with fail
              refine (HL.out _).mono ?_
              rintro e w11 ⟨rfl, hb11⟩
              have B11 := Lib.hid (on B7.out (on T10.out hb11))
              clear hb11
              go_wp2_with fail
              go_ret
              exact ⟨rfl, B11.out⟩
            · have tr : ((M09.rename T p.data.toList q.data.toList).2 != 0) = true := by simpa using hr
              clear HRN HRS HKR hk f2 f3
              generalize (M09.rename T p.data.toList q.data.toList).2 = re at *
              go_wp2_with fail
              refine HRE.out.mono ?_
              rintro e w7 ⟨rfl, hwr⟩
              obtain ⟨F7, p7, hF7, b7⟩ := wrote_on HF.out B6.out hwr
              have B7 := Lib.hid b7
              clear hwr p7 hF7 b7 hr
              go_wp2_with fail
              refine (HL.out _).mono ?_
              rintro e w8 ⟨rfl, hb8⟩
              go_wp2_with fail
              go_ret
              exact ⟨rfl, on B7.out hb8⟩
          · have tk : (a2 != 2) = true := by simpa using hk
            clear HRN HRS HKR hk f2 f3
            go_wp2_with fail
            refine (HL.out _).mono ?_
            rintro e w7 ⟨rfl, hb7⟩
            go_wp2_with fail
            go_ret
            exact ⟨rfl, on B6.out hb7⟩
        · have te : (a4 != 0) = true := by simpa using he
          clear HRN HRS HKR HSF he
          go_wp2_with fail
          refine (HL.out _).mono ?_
          rintro e w7 ⟨rfl, hb7⟩
          go_wp2_with fail
          go_ret
          exact ⟨rfl, on B6.out hb7⟩
end Go.Proofs.YtdnedeeocpaolaaDoor.W09
/-
  Layer 9 (posix): tasks as records; the law's Short and do: what each returns. The conditions stand in the statements.
-/
namespace Go.Proofs.YtdnedeeocpaolaaDoor.W09
open Go Go.RowKit Go.Proofs.YtdnedeeocpaolaaDoor.Strs Go.Proofs.YtdnedeeocpaolaaDoor.Recs Go.Proofs.YtdnedeeocpaolaaDoor.Range
open Go.Proofs.YtdnedeeocpaolaaDoor.M07 (Tr Nd nodeAt inDir Right listDir)
open Go.Proofs.YtdnedeeocpaolaaDoor.M08 Go.Proofs.YtdnedeeocpaolaaDoor.M09
open Go.Proofs.YtdnedeeocpaolaaDoor.W07 (Small Trees Wrote Nodes nodeV TreeBox heap_top)
open Go.Proofs.YtdnedeeocpaolaaDoor.Kit (ret_str ret_bool ret_int mk_of mk_bytes ba_ext below_draws on)

structure Tk where
  kind : Int
  path : Bytes
  text : Bytes
def tkC (x : Tk) : List Value := [.int .i64 x.kind, strV x.path, strV x.text]
theorem tkC_len (x : Tk) : (tkC x).length = 3 := rfl
abbrev Tasks (B : Nat) (w : World) (v : Value) (L : List Tk) : Prop := Recs tkC 3 B w v L
theorem Tasks.at_ {B : Nat} {w : World} {L : List Tk} {A : Option Addr} {n c : Nat} (h : Tasks B w (.slice A n c) L) {k : Nat} (hk : k < n) : ∃ (b o : Nat) (hl : k < L.length), A = some ⟨b, o, none⟩ ∧ b < B ∧ w.cell? ⟨b, o + k * 3, none⟩ = some (.int .i64 (L[k]).kind) ∧ w.cell? ⟨b, o + k * 3 + 1, none⟩ = some (.string ⟨(L[k]).path.toArray⟩) ∧ w.cell? ⟨b, o + k * 3 + 2, none⟩ = some (.string ⟨(L[k]).text.toArray⟩) := by
  obtain ⟨b, o, hl, rfl, hb, hc⟩ := Recs.flat_ h tkC_len (by omega) hk
  exact ⟨b, o, hl, rfl, hb, hc 0 (by omega), hc 1 (by omega), hc 2 (by omega)⟩
def okTk (x : Tk) : Bool := decide (x.path.length ≤ 2000) && decide (x.text.length ≤ 2000)
def isShort9 (l : List Tk) (many : Int) : Bool := l.all okTk && decide ((l.length : Int) ≤ many)
def okTo (l : List Tk) (k : Nat) : Prop := ∀ x ∈ l.take k, okTk x = true
theorem ok_next {l : List Tk} {k : Nat} (hk : k < l.length) (h : okTo l k) (h2 : okTk l[k] = true) : okTo l (k + 1) := by
  intro x hx
  rw [List.take_succ_eq_append_getElem hk] at hx
  rcases List.mem_append.1 hx with hx | hx
  · exact h x hx
  · rw [List.mem_singleton.1 hx]; exact h2
theorem ok_end {l : List Tk} {k : Nat} {many : Int} (hk : ¬ k < l.length) (h : okTo l k) : isShort9 l many = decide ((l.length : Int) ≤ many) := by
  unfold okTo at h
  rw [List.take_of_length_le (by omega)] at h
  unfold isShort9
  rw [List.all_eq_true.2 h, Bool.true_and]
theorem ok_no {l : List Tk} {k : Nat} {many : Int} (hk : k < l.length) (h2 : okTk l[k] = false) : isShort9 l many = false := by
  unfold isShort9
  rw [Bool.and_eq_false_iff]
  left
  rw [List.all_eq_false]
  exact ⟨l[k], List.getElem_mem hk, by rw [h2]; simp⟩
theorem short9_is {l : List Tk} {many : Int} (h : isShort9 l many = true) : (∀ x ∈ l, x.path.length ≤ 2000 ∧ x.text.length ≤ 2000) ∧ (l.length : Int) ≤ many := by
  unfold isShort9 okTk at h
  simp only [Bool.and_eq_true, decide_eq_true_eq, List.all_eq_true] at h
  exact h
theorem wrote_after {Rep : (Nat → Prop) → World → Value → Tr → Prop} {F : Nat → Prop} {w w1 w' : World} {v : Value} {t' : Tr} (hb : Below w.heap.size w w1) (h : Wrote Rep F v t' w1 w') : Wrote Rep F v t' w w' := by
  obtain ⟨F', h1, h2, h3⟩ := h
  exact ⟨F', h1, (Turns.new hb).trans h2, fun k hk => (h3 k hk).imp id (fun h => Nat.le_trans hb.size h)⟩
end Go.Proofs.YtdnedeeocpaolaaDoor.W09
/-
  Layer 9 (posix), walks: the plain answers Put, Cut, Rename, Write, Do: each hands out a tree and an error's number; nothing that was there is changed. The conditions stand in the statements.
-/
namespace Go.Proofs.YtdnedeeocpaolaaDoor.W09
open Go Go.RowKit Go.Proofs.YtdnedeeocpaolaaDoor.Strs Go.Proofs.YtdnedeeocpaolaaDoor.Recs Go.Proofs.YtdnedeeocpaolaaDoor.Range
open Go.Proofs.YtdnedeeocpaolaaDoor.M07 (Tr Nd nodeAt inDir Right listDir)
open Go.Proofs.YtdnedeeocpaolaaDoor.M08 Go.Proofs.YtdnedeeocpaolaaDoor.M09
open Go.Proofs.YtdnedeeocpaolaaDoor.W07 (Nodes nodeV TreeBox heap_top boxed_new below_two TreeErr FromOr Off turns_box nodes_turns off_from stored_nodes stored_below right_full)
open Go.Proofs.YtdnedeeocpaolaaDoor.Kit (ret_str ret_bool ret_int mk_of mk_bytes ba_ext below_draws on)

theorem off_nodes {F : Nat → Prop} {B : Nat} {w : World} {v : Value} {L : List Nd} (h : Nodes B w v L) (h0 : 0 < L.length) (hF : ∀ k, F k → B ≤ k) : Off F v := by
  obtain ⟨A, c, rfl, -, -⟩ := h.form
  obtain ⟨b, o, _, rfl, hb, _⟩ := W07.Nodes.at_ h h0
  intro b' o' n' c' e hk
  cases e
  have := hF _ hk
  omega
theorem FromOr.low {v u : Value} {S S' : Nat} (h : FromOr v S u) (hs : S' ≤ S) : FromOr v S' u := by
  rcases h with h | h | ⟨g, n, c, h, hg⟩
  · exact Or.inl h
  · exact Or.inr (Or.inl h)
  · exact Or.inr (Or.inr ⟨g, n, c, h, Nat.le_trans hs hg⟩)
/-- behind the store of a tree that a call handed out -/
theorem stored_out {w wj : World} {u vv : Value} {L : List Nd} {S q : Nat} (hv : Off (fun k => k = q) vv) (N : Nodes wj.heap.size wj u L) (hf : FromOr vv S u) (hS : q < S) (hq : w.heap.size ≤ q) (B : Below w.heap.size w wj) (a b : Value) :
    Nodes ((wj.setCell ⟨q, 0, none⟩ a).setCell ⟨q, 1, none⟩ b).heap.size ((wj.setCell ⟨q, 0, none⟩ a).setCell ⟨q, 1, none⟩ b) u L ∧ Below w.heap.size w ((wj.setCell ⟨q, 0, none⟩ a).setCell ⟨q, 1, none⟩ b) ∧ FromOr vv w.heap.size u := by
  have ht := turns_box wj q a b
  exact ⟨(nodes_turns N ht (off_from hv (fun k hk => by have : k = q := hk; omega) hf)).more ht.size, (B.setCell hq _).setCell hq _, FromOr.low hf (by omega)⟩
theorem out_of {v u : Value} {w W : World} {R : Tr × Int} {t' : Tr} {er : Int} (hR : R = (t', er)) (h : Nodes W.heap.size W u t'.L ∧ Below w.heap.size w W ∧ FromOr v w.heap.size u) : TreeErr v w R (.returned (.tuple #[.agg #[u, .int .i64 t'.last], .int .i64 er])) W := by
  subst hR
  exact ⟨u, rfl, h.1, h.2.1, h.2.2⟩
theorem out_all {v u : Value} {w W : World} {R Q : Tr × Int} (hR : R = Q) (h : Nodes W.heap.size W u Q.1.L ∧ Below w.heap.size w W ∧ FromOr v w.heap.size u) : TreeErr v w R (.returned (.tuple #[.agg #[u, .int .i64 Q.1.last], .int .i64 Q.2])) W := by
  subst hR
  exact ⟨u, rfl, h.1, h.2.1, h.2.2⟩
theorem two_keep {w2 w' w'' : World} {p : Nat} {a b : Value} (hp : p < w2.heap.size) (h : w'.cell? ⟨p, 0, none⟩ = some a ∧ w'.cell? ⟨p, 1, none⟩ = some b ∧ Below w2.heap.size w2 w') (hb : Below w'.heap.size w' w'') : w''.cell? ⟨p, 0, none⟩ = some a ∧ w''.cell? ⟨p, 1, none⟩ = some b ∧ Below w2.heap.size w2 w'' := by
  have hs := h.2.2.size
  exact ⟨(hb.cell (by show p < _; omega)).trans h.1, (hb.cell (by show p < _; omega)).trans h.2.1, on h.2.2 hb⟩
/-- what a plain tree is asked to be -/
structure Fits (t : Tr) (w : World) (u : Value) : Prop where
  fit : Fit t
  len : t.L.length ≤ 1048576
  some : 0 < t.L.length
  low : -1 ≤ t.last
  high : t.last ≤ 1048576
  nodes : Nodes w.heap.size w u t.L
end Go.Proofs.YtdnedeeocpaolaaDoor.W09
/-
  Layer 7 (tree), a walk of the law's lives over the contracts: it returns true; nothing that was there is changed.
-/
namespace Go.Proofs.YtdnedeeocpaolaaDoor.W07
open Go Go.RowKit Go.Proofs.YtdnedeeocpaolaaDoor.Strs Go.Proofs.YtdnedeeocpaolaaDoor.Recs Go.Proofs.YtdnedeeocpaolaaDoor.M07 Go.Proofs.YtdnedeeocpaolaaDoor.Range
open Go.Proofs.YtdnedeeocpaolaaDoor.Kit (ret_str ret_bool ret_int mk_of mk_bytes ba_ext below_draws on)

theorem wrote_below {Rep : (Nat → Prop) → World → Value → Tr → Prop} {F : Nat → Prop} {w w1 w2 : World} {v : Value} {t' : Tr} {n : Nat} (hb : Below n w w1) (hF : ∀ k, F k → n ≤ k) (hn : n ≤ w1.heap.size) (h : Wrote Rep F v t' w1 w2) :
    ∃ F', Rep F' w2 v t' ∧ (∀ k, F' k → n ≤ k) ∧ Below n w w2 := by
  obtain ⟨F', h1, h2, h3⟩ := h
  exact ⟨F', h1, fun k hk => by rcases h3 k hk with h | h; exact hF k h; omega, hb.trans (h2.below hF hn)⟩
theorem one_put : put M07.new 1 [97] 1 [] = (⟨[⟨1, 1, [], 1, []⟩, ⟨2, 1, [97], 1, []⟩], 2⟩, 2, 0) :=
  put_works (t := M07.new) (by decide +kernel)
theorem two_put : put ⟨[⟨1, 1, [], 1, []⟩, ⟨2, 1, [97], 1, []⟩], 2⟩ 2 [98] 2 [120] = (⟨[⟨1, 1, [], 1, []⟩, ⟨2, 1, [97], 1, []⟩, ⟨3, 2, [98], 2, [120]⟩], 3⟩, 3, 0) :=
  put_works (by decide +kernel)
end Go.Proofs.YtdnedeeocpaolaaDoor.W07
