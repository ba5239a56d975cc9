/-
  Texts joined, in build order, each with its own comment and its own conditions: W06Code, W08Near, W09Told, W09Ways, W09Cuts.
-/
import Derived.Test.YtmbpgjncioegdaaGreatDoorJ14
import Derived.Deep.RegionHeld3
import Derived.Test.YtmbpgjncioegdaaGreatDoorJ07
import Derived.Test.YtmbpgjncioegdaaGreatDoorJ09
import Derived.Test.YtmbpgjncioegdaaGreatDoorJ11
/-
  Layer 6 (ents), walks: what the landed Right, Find, Put, Cut, Names, Merge and Next return; new memory may be laid, nothing that was there is changed. The bounds on the lists stand in the statements.
-/
namespace Go.Proofs.YtmbpgjncioegdaaGreatDoor.W06
set_option maxRecDepth 100000
open Go Go.RowKit Go.Proofs.YtmbpgjncioegdaaGreatDoor.Strs Go.Proofs.YtmbpgjncioegdaaGreatDoor.Recs Go.Proofs.YtmbpgjncioegdaaGreatDoor.M06
open Go.Proofs.YtmbpgjncioegdaaGreatDoor.Kit (ret_str ret_bool ret_int mk_of mk_bytes ba_ext below_draws on)

/-- entries are handed out that lie in new memory -/
def HandsN (w : World) (L : List Ent) (e : Ending) (w' : World) : Prop := ∃ v, e = .returned v ∧ Ents w'.heap.size w' v L ∧ (∀ b o n c, v = .slice (some ⟨b, o, none⟩) n c → w.heap.size ≤ b) ∧ Below w.heap.size w w'
theorem own_new {w : World} {base B : Nat} {v : Value} {L : List Ent} (h : OwnEnts w base v L) (hB : B ≤ base) : ∀ b o n c, v = .slice (some ⟨b, o, none⟩) n c → B ≤ b := by
  rintro b o n c rfl
  exact Nat.le_trans hB (h.lt b rfl).1
theorem hands_of_new {w w' : World} {L : List Ent} {e : Ending} (h : HandsN w L e w') : HandsE w L e w' := by
  obtain ⟨v, he, hu, -, hb⟩ := h
  exact ⟨v, he, hu, hb⟩
/-- what a call returns that hands out texts -/
def HandsT (w : World) (L : List (List UInt8)) (e : Ending) (w' : World) : Prop := ∃ v, e = .returned v ∧ Texts w'.heap.size w' v L ∧ Below w.heap.size w w'
theorem draws_below {w w' : World} {e : Ending} {v : Value} (h : e = .returned v ∧ ∃ n, w' = w.drewN n) : e = .returned v ∧ Below w.heap.size w w' := by
  obtain ⟨he, n, hw⟩ := h
  exact ⟨he, by rw [hw]; exact below_draws _ _⟩
theorem none_form {B : Nat} {w : World} {v : Value} (h : Ents B w v []) : ∃ A c, v = .slice A 0 c := by
  obtain ⟨A, c, rfl, -, -⟩ := h.form
  exact ⟨A, c, rfl⟩
theorem some_form {B : Nat} {w : World} {v : Value} {a : Ent} {r : List Ent} (h : Ents B w v (a :: r)) : ∃ (b o n c : Nat) (t : ByteArray), v = .slice (some ⟨b, o, none⟩) (n + 1) c ∧ n + 1 ≤ c ∧ c ≤ maxLen ∧ b < B ∧ t.data.toList = a.1 ∧ w.cell? ⟨b, o, none⟩ = some (.string t) ∧ w.cell? ⟨b, o + 1, none⟩ = some (.int .i64 a.2) := by
  obtain ⟨A, c, rfl, h1, h2⟩ := h.form
  obtain ⟨b, o, hl, t, rfl, hb, ht, hc0, hc1⟩ := Ents.at_ h (k := 0) (by simp)
  rw [Nat.zero_mul, Nat.add_zero] at hc0 hc1
  exact ⟨b, o, r.length, c, t, rfl, h1, h2, hb, ht, hc0, hc1⟩

theorem lists_two {w : World} {A1 A2 : Option Addr} {c1 c2 B : Nat} {L1 L2 : List Ent} (h1 : Ents B w (.slice A1 L1.length c1) L1) (h2 : Ents B w (.slice A2 L2.length c2) L2) (hB : B ≤ w.heap.size) (t : TypeId) :
    Lists (w.heap.size + 1) (w.alloc (.cells #[.slice A1 L1.length c1, .slice A2 L2.length c2] t)) w.heap.size 0 [L1, L2] := by
  intro j hj
  match j, hj with
  | 0, _ => exact ⟨A1, c1, by simp, (h1.alloc hB _).more (by omega)⟩
  | 1, _ => exact ⟨A2, c2, by simp, (h2.alloc hB _).more (by omega)⟩
theorem lists_three {w : World} {A1 A2 A3 : Option Addr} {c1 c2 c3 B : Nat} {L1 L2 L3 : List Ent} (h1 : Ents B w (.slice A1 L1.length c1) L1) (h2 : Ents B w (.slice A2 L2.length c2) L2) (h3 : Ents B w (.slice A3 L3.length c3) L3) (hB : B ≤ w.heap.size) (t : TypeId) :
    Lists (w.heap.size + 1) (w.alloc (.cells #[.slice A1 L1.length c1, .slice A2 L2.length c2, .slice A3 L3.length c3] t)) w.heap.size 0 [L1, L2, L3] := by
  intro j hj
  match j, hj with
  | 0, _ => exact ⟨A1, c1, by simp, (h1.alloc hB _).more (by omega)⟩
  | 1, _ => exact ⟨A2, c2, by simp, (h2.alloc hB _).more (by omega)⟩
  | 2, _ => exact ⟨A3, c3, by simp, (h3.alloc hB _).more (by omega)⟩
section
variable (v : Value) (L : List Ent) (w : World)
theorem right_any (h : Ents w.heap.size w v L) (hn : L.length ≤ 1099511627776) : Calls Tryz.prog 106 #[v] w fun e w' => e = .returned (.bool (right L)) ∧ Below w.heap.size w w' :=
  (codeRight_any v L _ w h hn).mono fun _ _ => draws_below
theorem find_any (s : ByteArray) (h : Ents w.heap.size w v L) (hn : L.length ≤ 1099511627776) : Calls Tryz.prog 67 #[v, .string s] w fun e w' => e = .returned (.tuple #[.int .i64 (M06.find (all L) s.data.toList).1, .bool (M06.find (all L) s.data.toList).2]) ∧ Below w.heap.size w w' := by
  have HU := Lib.hid (usable_any v L _ w h hn)
  have HA := Lib.hid (fun (q : Nat) (u : Value) (hu : Ents w.heap.size w u (all L)) => around_any u (all L) _ s (w.drewN q) hu (Nat.le_refl _) (right_all L) (Nat.le_trans (all_len L) hn))
  obtain ⟨A, c, rfl, -, -⟩ := h.form
  clear h
  rw [find_parts]
  generalize all L = M at *
  generalize s.data.toList = S at *
  cases hm : M06.mid M S with
  | nil =>
    have HM := Lib.hid hm
    clear hm
    go_enter Tryz.func67, Tryz.ntmps67
    go_wp2_with fail
    refine HU.out.mono ?_
    rintro e w1 ⟨⟨u, rfl, hu⟩, q, rfl⟩
    have HA := Lib.hid (HA.out q u hu)
    clear hu
    go_wp2_with fail
    refine HA.out.mono ?_
    rintro e w2 ⟨v1, v2, v3, rfl, -, h2, -, hb⟩
    have B2 := Lib.hid (on (below_draws w q) hb)
    rw [HM.out] at h2
    obtain ⟨A2, c2, rfl⟩ := none_form h2
    clear hb h2
    go_wp2_with fail
    go_ret2
    exact ⟨rfl, B2.out⟩
  | cons a r =>
    have HM := Lib.hid hm
    clear hm
    go_enter Tryz.func67, Tryz.ntmps67
    go_wp2_with fail
    refine HU.out.mono ?_
    rintro e w1 ⟨⟨u, rfl, hu⟩, q, rfl⟩
    have HA := Lib.hid (HA.out q u hu)
    clear hu
    go_wp2_with fail
    refine HA.out.mono ?_
    rintro e w2 ⟨v1, v2, v3, rfl, -, h2, -, hb⟩
    have B2 := Lib.hid (on (below_draws w q) hb)
    rw [HM.out] at h2
    obtain ⟨b, o, n, c2, t, rfl, hn1, hn2, hbl, -, hc0, hc1⟩ := some_form h2
    unfold maxLen at hn2
    have hne : ((n : Int) + 1 == 0) = false := by simp; omega
    clear hb h2
    go_wp2_with fail
    go_ret2
    exact ⟨rfl, B2.out⟩
theorem cut_new (s : ByteArray) (h : Ents w.heap.size w v L) (hn : L.length ≤ 1099511627776) : Calls Tryz.prog 141 #[v, .string s] w (HandsN w (cut L s.data.toList)) := by
  have HU := Lib.hid (usable_any v L _ w h hn)
  have HA := Lib.hid (fun (q : Nat) (u : Value) (hu : Ents w.heap.size w u (all L)) => around_any u (all L) _ s (w.drewN q) hu (Nat.le_refl _) (right_all L) (Nat.le_trans (all_len L) hn))
  obtain ⟨A, c, rfl, -, -⟩ := h.form
  clear h
  rw [cut_parts]
  have hl1 := low_high_len (all L) s.data.toList
  have hl2 := all_len L
  generalize all L = M at *
  generalize s.data.toList = S at *
  go_enter Tryz.func141, Tryz.ntmps141
  go_wp2_with fail
  refine HU.out.mono ?_
  rintro e w1 ⟨⟨u, rfl, hu⟩, q, rfl⟩
  have HA := Lib.hid (HA.out q u hu)
  clear hu
  go_wp2_with fail
  refine HA.out.mono ?_
  rintro e w2 ⟨v1, v2, v3, rfl, h1, -, h3, hb⟩
  have B2 := Lib.hid (on (below_draws w q) hb)
  have hbs := hb.size
  obtain ⟨A1, c1, rfl, -, -⟩ := h1.form
  obtain ⟨A3, c3, rfl, -, -⟩ := h3.form
  have HC := Lib.hid (concat_any w2.heap.size 0 2 2 (w2.heap.size + 1) [low M S, high M S] (w2.alloc (.cells #[.slice A1 (low M S).length c1, .slice A3 (high M S).length c3] 73)) rfl (lists_two h1 h3 hbs _) (by omega) (by simp) (by omega) (by simp; omega))
  clear hb h1 h3
  go_wp2_with fail
  refine HC.out.mono ?_
  rintro e w3 ⟨u3, rfl, hu3, hb3⟩
  have N3 := Lib.hid (own_new (B := w.heap.size) hu3 (by rw [World.size_alloc]; have := B2.out.size; omega))
  have U3 := Lib.hid hu3.reads
  rw [show [low M S, high M S].flatten = low M S ++ high M S by simp] at U3
  have B3 := Lib.hid (on B2.out (((Below.refl w2.heap.size w2).alloc (Nat.le_refl _) _).trans (hb3.mono (by simp))))
  clear hu3 hb3
  go_wp2_with fail
  go_ret
  exact ⟨_, rfl, U3.out, N3.out, B3.out⟩
theorem cut_any (s : ByteArray) (h : Ents w.heap.size w v L) (hn : L.length ≤ 1099511627776) : Calls Tryz.prog 141 #[v, .string s] w (HandsE w (cut L s.data.toList)) :=
  (cut_new v L w s h hn).mono fun _ _ => hands_of_new
theorem usable_hands (v : Value) (L : List Ent) (B : Nat) (w : World) (h : Ents B w v L) (hn : L.length ≤ 1099511627776) :
    Calls Tryz.prog 83 #[v] w fun e w' => ∃ u, e = .returned u ∧ Ents B w' u (all L) ∧ Below w.heap.size w w' :=
  (usable_any v L B w h hn).mono fun _ _ ⟨⟨u, he, hu⟩, q, hw⟩ => ⟨u, he, by rw [hw]; exact hu, by rw [hw]; exact below_draws _ _⟩
theorem one_ent (w : World) (en : ByteArray) (z : Int) (t : TypeId) : Ents (w.heap.size + 1) (w.alloc (.cells #[.string en, .int .i64 z] t)) (.slice (some ⟨w.heap.size, 0, none⟩) 1 1) [(en.data.toList, z)] := by
  refine ⟨_, 1, rfl, Nat.le_refl _, by decide, fun _ => ⟨_, rfl, Nat.lt_succ_self _, fun k hk j hj => ?_⟩⟩
  obtain rfl : k = 0 := by simpa using hk
  have h := cells_new w [.string en, .int .i64 z] t j
  rw [Nat.zero_mul, Nat.zero_add]
  show _ = ([strV en.data.toList, .int .i64 z])[j]?
  have he : strV en.data.toList = .string en := by unfold strV; rw [mk_bytes]
  rw [he]
  match j, hj with
  | 0, _ => exact h _ rfl
  | 1, _ => exact h _ rfl
section
variable {w9 w' w'' : World} {B : Nat} {x0 x1 : Value}
theorem boxed_below (hS : w'.cell? ⟨B, 0, none⟩ = some x0 ∧ w'.cell? ⟨B, 1, none⟩ = some x1 ∧ Below w9.heap.size w9 w') : Below w9.heap.size w9 w' := hS.2.2
theorem boxed_on (hs : B < w9.heap.size) (hS : w'.cell? ⟨B, 0, none⟩ = some x0 ∧ w'.cell? ⟨B, 1, none⟩ = some x1 ∧ Below w9.heap.size w9 w') (hb : Below w'.heap.size w' w'') : w''.cell? ⟨B, 0, none⟩ = some x0 ∧ w''.cell? ⟨B, 1, none⟩ = some x1 ∧ Below w9.heap.size w9 w'' := by
  have := hS.2.2.size
  exact ⟨by rw [hb.cell (by show B < _; omega)]; exact hS.1, by rw [hb.cell (by show B < _; omega)]; exact hS.2.1, on hS.2.2 hb⟩
theorem boxed_draw (hS : w'.cell? ⟨B, 0, none⟩ = some x0 ∧ w'.cell? ⟨B, 1, none⟩ = some x1 ∧ Below w9.heap.size w9 w') : w'.drew.cell? ⟨B, 0, none⟩ = some x0 ∧ w'.drew.cell? ⟨B, 1, none⟩ = some x1 ∧ Below w9.heap.size w9 w'.drew := ⟨hS.1, hS.2.1, hS.2.2.drew⟩
end
set_option maxHeartbeats 2000000 in
theorem put_new (en : ByteArray) (z : Int) (h : Ents w.heap.size w v L) (hn : L.length ≤ 1099511627776) : Calls Tryz.prog 68 #[v, .agg #[.string en, .int .i64 z]] w (HandsN w (put L (en.data.toList, z))) := by
  obtain ⟨w1, hw1⟩ : ∃ w1 : World, w1 = w.alloc (.cells #[.string en, .int .i64 z] 103) := ⟨_, rfl⟩
  have x0 : w1.cell? ⟨w.heap.size, 0, none⟩ = some (.string en) := by rw [hw1]; simp
  have x1 : w1.cell? ⟨w.heap.size, 1, none⟩ = some (.int .i64 z) := by rw [hw1]; simp
  have hs1 : w.heap.size < w1.heap.size := by rw [hw1]; simp
  have B1 : Hid (Below w.heap.size w w1) := by rw [hw1]; exact (Below.refl _ _).alloc (Nat.le_refl _) _
  have HU := Lib.hid (fun (w' : World) (hb : Below w1.heap.size w1 w') => usable_hands v L w.heap.size w' (h.below (B1.out.trans (hb.mono B1.out.size))) hn)
  have HA := Lib.hid (fun (w' : World) (u : Value) (hu : Ents w.heap.size w' u (all L)) (hs : w.heap.size ≤ w'.heap.size) => around_any u (all L) w.heap.size en w' hu hs (right_all L) (Nat.le_trans (all_len L) hn))
  obtain ⟨A, c, rfl, -, -⟩ := h.form
  clear h
  rw [put_parts]
  have hl1 := low_high_len (all L) en.data.toList
  have hl2 := all_len L
  generalize all L = M at *
  show Calls _ _ _ _ (HandsN w (low M en.data.toList ++ (en.data.toList, z) :: high M en.data.toList))
  go_enter Tryz.func68, Tryz.ntmps68
  go_wp2_with fail
  rw [← hw1]
  clear hw1
  go_region_held3 (fun w' => w'.cell? ⟨w.heap.size, 0, none⟩ = some (.string en) ∧ w'.cell? ⟨w.heap.size, 1, none⟩ = some (.int .i64 z) ∧ Below w1.heap.size w1 w')
    (first | exact boxed_on hs1 (by assumption) hb3 | exact boxed_on hs1 (by assumption) hb2 | exact ⟨x0, x1, (Below.refl _ _).drew⟩ | exact boxed_draw (by assumption) | go_keep)
    (first
      | (go_at_call 83; refine (HU.out _ (boxed_below (by assumption))).mono ?_; rintro e x2 ⟨y1, rfl, hu, hb2⟩; have U1 := Lib.hid hu; clear hu)
      | (go_at_call 82; refine (HA.out _ _ U1.out (Nat.le_trans B1.out.size (boxed_below (by assumption)).size)).mono ?_; rintro e x3 ⟨v1, v2, v3, rfl, h1, -, h3, hb3⟩; have P1 := Lib.hid h1; have P3 := Lib.hid h3; clear h1 h3))
  obtain ⟨hx0, hx1, hbb⟩ := (by assumption : x3.cell? ⟨w.heap.size, 0, none⟩ = some (.string en) ∧ x3.cell? ⟨w.heap.size, 1, none⟩ = some (.int .i64 z) ∧ Below w1.heap.size w1 x3)
  have B3 : Hid (Below w.heap.size w x3) := B1.out.trans (hbb.mono B1.out.size)
  have hs3 := B3.out.size
  obtain ⟨A1, c1, rfl, -, -⟩ := P1.out.form
  obtain ⟨A3, c3, rfl, -, -⟩ := P3.out.form
  have hC := concat_any (x3.heap.size + 1) 0 3 3 (x3.heap.size + 2) [low M en.data.toList, [(en.data.toList, z)], high M en.data.toList] ((x3.alloc (.cells #[.string en, .int .i64 z] 103)).alloc (.cells #[.slice A1 (low M en.data.toList).length c1, .slice (some ⟨x3.heap.size, 0, none⟩) 1 1, .slice A3 (high M en.data.toList).length c3] 73)) rfl (by
    have q := lists_three (L2 := [(en.data.toList, z)]) (A2 := some ⟨x3.heap.size, 0, none⟩) (c2 := 1) (w := x3.alloc (.cells #[.string en, .int .i64 z] 103)) (B := x3.heap.size + 1) ((P1.out.alloc hs3 (.cells #[.string en, .int .i64 z] 103)).more (by omega)) (one_ent x3 en z 103) ((P3.out.alloc hs3 (.cells #[.string en, .int .i64 z] 103)).more (by omega)) (by rw [World.size_alloc]; exact Nat.le_refl _) 73
    rw [World.size_alloc] at q
    exact q) (by omega) (by rw [World.size_alloc, World.size_alloc]; exact Nat.le_refl _) (by omega) (by simp; omega)
  have HC := Lib.hid hC
  clear hC hbb hb3
  go_wp2_with fail
  refine HC.out.mono ?_
  rintro e w4 ⟨u4, rfl, hu4, hb4⟩
  have N4 := Lib.hid (own_new (B := w.heap.size) hu4 (by rw [World.size_alloc, World.size_alloc]; omega))
  have U4 := Lib.hid hu4.reads
  rw [show [low M en.data.toList, [(en.data.toList, z)], high M en.data.toList].flatten = low M en.data.toList ++ (en.data.toList, z) :: high M en.data.toList by simp] at U4
  have B4 := Lib.hid (on B3.out ((((Below.refl x3.heap.size x3).alloc (Nat.le_refl _) (.cells #[.string en, .int .i64 z] 103)).alloc (by simp) _).trans (hb4.mono (by simp; omega))))
  clear hu4 hb4
  go_wp2_with fail
  go_ret
  exact ⟨_, rfl, U4.out, N4.out, B4.out⟩
theorem put_any (en : ByteArray) (z : Int) (h : Ents w.heap.size w v L) (hn : L.length ≤ 1099511627776) : Calls Tryz.prog 68 #[v, .agg #[.string en, .int .i64 z]] w (HandsE w (put L (en.data.toList, z))) :=
  (put_new v L w en z h hn).mono fun _ _ => hands_of_new
end
section
variable {w W W' : World} {e0 base : Nat} {x0 x1 : Value} {row : Option Nat}
end
end Go.Proofs.YtmbpgjncioegdaaGreatDoor.W06
/-
  Layer 8 (seek): what any code that goes paths uses: ents' Find in a directory's list tells what stands there; a node's own entry, once, in the list of its directory. Conditions: those that each theorem bears.
-/
namespace Go.Proofs.YtmbpgjncioegdaaGreatDoor.W08
open Go Go.RowKit Go.Proofs.YtmbpgjncioegdaaGreatDoor.Strs Go.Proofs.YtmbpgjncioegdaaGreatDoor.Recs
open Go.Proofs.YtmbpgjncioegdaaGreatDoor.M07 (Tr Nd nodeAt inDir Right listDir entOf at_some in_found mem_list)
open Go.Proofs.YtmbpgjncioegdaaGreatDoor.M08
open Go.Proofs.YtmbpgjncioegdaaGreatDoor.M06 (Ent)
open Go.Proofs.YtmbpgjncioegdaaGreatDoor.W06 (Ents)
open Go.Proofs.YtmbpgjncioegdaaGreatDoor.W07 (Small listed plainN find_in)

theorem listed_is {t : Tr} (h : Right t) (n : Int) : listed t n = listDir t.L n := by
  unfold listed
  split
  · rfl
  · rename_i hk
    symm
    rw [List.eq_nil_iff_forall_not_mem]
    intro e he
    obtain ⟨a, ha, e1, _, _⟩ := (mem_list h).1 he
    have := h.up a ha
    rw [e1] at this
    exact hk this
theorem find_near {t : Tr} (h : Right t) (d : Int) (s : Bytes) : M06.find (M06.all (listed t d)) s = (inDir t.L d s, decide (inDir t.L d s ≠ 0)) := by
  by_cases hd : (nodeAt t.L d).kind = 1
  · exact find_in h s hd
  · have e : inDir t.L d s = 0 := by
      by_cases h0 : inDir t.L d s = 0
      · exact h0
      · obtain ⟨a, ha, -, e2, -⟩ := in_found h0
        have := h.up a ha
        rw [e2] at this
        exact absurd this hd
    rw [e]
    unfold listed
    rw [if_neg hd]
    rfl
theorem listed_len {t : Tr} (hs : Small t) (d : Int) : (listed t d).length ≤ 1048576 := by
  have := hs.1
  unfold listed
  split
  · exact Nat.le_trans (M07.list_len _ _) this
  · exact Nat.zero_le _
theorem near_any {t : Tr} (h : Right t) (hs : Small t) (d : Int) (s : ByteArray) {u : Value} {w : World} (hu : Ents w.heap.size w u (listed t d)) : Calls Tryz.prog 67 #[u, .string s] w fun e w' => e = .returned (.tuple #[.int .i64 (inDir t.L d s.data.toList), .bool (decide (inDir t.L d s.data.toList ≠ 0))]) ∧ Below w.heap.size w w' := by
  have := W06.find_any _ _ w s hu (Nat.le_trans (listed_len hs d) (by decide))
  rw [find_near h] at this
  exact this
end Go.Proofs.YtmbpgjncioegdaaGreatDoor.W08
/-
  Layer 9 (posix), walks of the landed code: what is asked of a node by a function that is handed on (ask): Lstat, Stat, Readlink, Read, List; Same. New memory may be laid, nothing that was there is changed. The conditions stand in the statements.
-/
namespace Go.Proofs.YtmbpgjncioegdaaGreatDoor.W09
open Go Go.RowKit Go.Proofs.YtmbpgjncioegdaaGreatDoor.Strs Go.Proofs.YtmbpgjncioegdaaGreatDoor.Recs Go.Proofs.YtmbpgjncioegdaaGreatDoor.Range
open Go.Proofs.YtmbpgjncioegdaaGreatDoor.M07 (Tr Nd nodeAt inDir Right listDir)
open Go.Proofs.YtmbpgjncioegdaaGreatDoor.M08 Go.Proofs.YtmbpgjncioegdaaGreatDoor.M09
open Go.Proofs.YtmbpgjncioegdaaGreatDoor.W07 (Small Trees Wrote listed heap_top)
open Go.Proofs.YtmbpgjncioegdaaGreatDoor.W08 (Seeks)
open Go.Proofs.YtmbpgjncioegdaaGreatDoor.Kit (ret_str ret_bool ret_int mk_of mk_bytes ba_ext below_draws on)

/-- a box holds a value -/
def Caught (w : World) (b : Nat) (v : Value) : Prop := w.cell? ⟨b, 0, none⟩ = some v ∧ b < w.heap.size
theorem Caught.below {w w' : World} {b : Nat} {v : Value} (h : Caught w b v) (hb : Below w.heap.size w w') : Caught w' b v := ⟨(hb.cell h.2).trans h.1, Nat.lt_of_lt_of_le h.2 hb.size⟩
theorem Caught.new (w : World) (v : Value) (t : TypeId) : Caught (w.alloc (.cells #[v] t)) w.heap.size v := ⟨(Boxed.new w t v).cell, by simp⟩
/-- what a question of a node, whose box is b, is answered with -/
def Says (f : Nat) (n : Int) (b : Nat) (w : World) (Q : World → Ending → World → Prop) : Prop := Calls Tryz.prog f #[.int .i64 n, .pointer (some ⟨b, 0, none⟩)] w (Q w)
def Txt (x : Bytes × Int) (w : World) (e : Ending) (w' : World) : Prop := e = .returned (.tuple #[.string ⟨x.1.toArray⟩, .int .i64 x.2]) ∧ Below w.heap.size w w'
def Num (x : Int) (w : World) (e : Ending) (w' : World) : Prop := e = .returned (.int .i64 x) ∧ Below w.heap.size w w'
def Sta (x : (Int × Int × Int) × Int) (w : World) (e : Ending) (w' : World) : Prop := e = .returned (.tuple #[statV x.1, .int .i64 x.2]) ∧ Below w.heap.size w w'
def Lst (x : List Bytes × Int) (w : World) : Ending → World → Prop := HandsT w x
theorem Txt.on {x : Bytes × Int} {w w1 w2 : World} {e : Ending} (hb : Below w.heap.size w w1) (h : Txt x w1 e w2) : Txt x w e w2 := ⟨h.1, Kit.on hb h.2⟩
theorem Sta.on {x : (Int × Int × Int) × Int} {w w1 w2 : World} {e : Ending} (hb : Below w.heap.size w w1) (h : Sta x w1 e w2) : Sta x w e w2 := ⟨h.1, Kit.on hb h.2⟩
theorem Lst.on {x : List Bytes × Int} {w w1 w2 : World} {e : Ending} (hb : Below w.heap.size w w1) (h : Lst x w1 e w2) : Lst x w e w2 := by
  obtain ⟨u, h1, h2, h3⟩ := h
  exact ⟨u, h1, h2, Kit.on hb h3⟩
end Go.Proofs.YtmbpgjncioegdaaGreatDoor.W09
/-
  Layer 9 (posix), over the contracts of tree and seek: what changes do that find their spots first. Conditions: those that each theorem bears.
-/
namespace Go.Proofs.YtmbpgjncioegdaaGreatDoor.W09
set_option maxRecDepth 100000
open Go Go.RowKit Go.Proofs.YtmbpgjncioegdaaGreatDoor.Strs Go.Proofs.YtmbpgjncioegdaaGreatDoor.Recs Go.Proofs.YtmbpgjncioegdaaGreatDoor.Range
open Go.Proofs.YtmbpgjncioegdaaGreatDoor.M07 (Tr Nd nodeAt inDir Right listDir)
open Go.Proofs.YtmbpgjncioegdaaGreatDoor.M08 Go.Proofs.YtmbpgjncioegdaaGreatDoor.M09
open Go.Proofs.YtmbpgjncioegdaaGreatDoor.W07 (Small Trees Wrote)
open Go.Proofs.YtmbpgjncioegdaaGreatDoor.W08 (Seeks)
open Go.Proofs.YtmbpgjncioegdaaGreatDoor.Kit (ret_str ret_bool ret_int mk_of mk_bytes ba_ext below_draws on)

theorem text_of (s : List UInt8) : ∃ d : ByteArray, d.data.toList = s := ⟨⟨s.toArray⟩, rfl⟩
theorem wrote_none {Rep : (Nat → Prop) → World → Value → Tr → Prop} (C : Trees Rep) {F : Nat → Prop} {w w' : World} {v : Value} {t : Tr} (P : Rep F w v t) (hb : Below w.heap.size w w') : Wrote Rep F v t w w' :=
  ⟨F, C.below P hb, Turns.new hb, fun _ h => Or.inl h⟩
set_option maxHeartbeats 2000000 in
theorem rename_over {Rep : (Nat → Prop) → World → Value → Tr → Prop} (C : Trees Rep) (S : Seeks Rep) {F : Nat → Prop} {w : World} {v : Value} {t : Tr} (P : Rep F w v t) (G : Good t) (a b : ByteArray) (ha : a.size ≤ 1048576) (hb : b.size ≤ 1048576) :
    Calls Tryz.prog 95 #[v, .string a, .string b] w fun e w' => e = .returned (.int .i64 (M09.rename t a.data.toList b.data.toList).2) ∧ Wrote Rep F v (M09.rename t a.data.toList b.data.toList).1 w w' := by
  have HA := Lib.hid (S.spot P G a ha)
  have HB := Lib.hid (fun w' (h : Below w.heap.size w w') => S.spot (C.below P h) G b hb)
  have HX : Hid (M09.rename t a.data.toList b.data.toList = if (spot t a.data.toList).2.2 ≠ 0 then (t, (spot t a.data.toList).2.2) else if (spot t b.data.toList).2.2 ≠ 0 then (t, (spot t b.data.toList).2.2) else M07.move t (spot t a.data.toList).1 (spot t a.data.toList).2.1 (spot t b.data.toList).1 (spot t b.data.toList).2.1) := rfl
  have HM := Lib.hid (fun w' (h : Below w.heap.size w w') => C.move (C.below P h) G.small)
  have HN := Lib.hid (fun w' (h : Below w.heap.size w w') => wrote_none C P h)
  clear P G ha hb
  generalize M09.rename t a.data.toList b.data.toList = R at *
  generalize spot t a.data.toList = X at *
  generalize spot t b.data.toList = Y at *
  obtain ⟨d, s, f⟩ := X
  obtain ⟨d2, s2, f2⟩ := Y
  obtain ⟨sb, rfl⟩ := text_of s
  obtain ⟨sb2, rfl⟩ := text_of s2
  rw [mk_bytes] at HA
  simp only [mk_bytes] at HB
  dsimp only at HA HB HX
  by_cases h1 : f = 0
  · subst h1
    by_cases h2 : f2 = 0
    · subst h2
      have HM := Lib.hid (fun w' h => HM.out w' h d sb d2 sb2)
      replace HX := Lib.hid (HX.out.trans ((if_neg (by simp)).trans (if_neg (by simp))))
      generalize M07.move t d sb.data.toList d2 sb2.data.toList = Q at *
      go_enter Tryz.func95, Tryz.ntmps95
      go_wp2_with fail
      refine HA.out.mono ?_
      rintro e w1 ⟨rfl, hb1⟩
      go_wp2_with fail
      refine (HB.out w1 hb1).mono ?_
      rintro e w2 ⟨rfl, hb2⟩
      have hb2 := on hb1 hb2
      go_wp2_with fail
      refine (HM.out w2 hb2).mono ?_
      rintro e w3 ⟨rfl, hwr⟩
      have W3 := Lib.hid (wrote_after hb2 hwr)
      clear hwr
      go_wp2_with fail
      go_ret
      rw [HX.out]
      exact ⟨rfl, W3.out⟩
    · have t2 : (f2 == 0) = false := by simpa using h2
      replace HX := Lib.hid (HX.out.trans ((if_neg (by simp)).trans (if_pos h2)))
      clear h2 HM
      go_enter Tryz.func95, Tryz.ntmps95
      go_wp2_with fail
      refine HA.out.mono ?_
      rintro e w1 ⟨rfl, hb1⟩
      go_wp2_with fail
      refine (HB.out w1 hb1).mono ?_
      rintro e w2 ⟨rfl, hb2⟩
      have hb2 := on hb1 hb2
      go_wp2_with fail
      go_ret
      rw [HX.out]
      exact ⟨rfl, HN.out w2 hb2⟩
  · have t1 : (f == 0) = false := by simpa using h1
    replace HX := Lib.hid (HX.out.trans (if_pos h1))
    clear h1 HM HB
    go_enter Tryz.func95, Tryz.ntmps95
    go_wp2_with fail
    refine HA.out.mono ?_
    rintro e w1 ⟨rfl, hb1⟩
    go_wp2_with fail
    go_ret
    rw [HX.out]
    exact ⟨rfl, HN.out w1 hb1⟩
theorem put_over {Rep : (Nat → Prop) → World → Value → Tr → Prop} (C : Trees Rep) (S : Seeks Rep) {F : Nat → Prop} {w : World} {v : Value} {t : Tr} (P : Rep F w v t) (G : Good t) (p x : ByteArray) (k : Int) (hp : p.size ≤ 1048576) (hx : x.size ≤ 1048576) :
    Calls Tryz.prog 111 #[v, .string p, .int .i64 k, .string x] w fun e w' => e = .returned (.int .i64 (putAt t p.data.toList k x.data.toList).2) ∧ Wrote Rep F v (putAt t p.data.toList k x.data.toList).1 w w' := by
  have HA := Lib.hid (S.spot P G p hp)
  have HX : Hid (putAt t p.data.toList k x.data.toList = if (spot t p.data.toList).2.2 ≠ 0 then (t, (spot t p.data.toList).2.2) else ((M07.put t (spot t p.data.toList).1 (spot t p.data.toList).2.1 k x.data.toList).1, (M07.put t (spot t p.data.toList).1 (spot t p.data.toList).2.1 k x.data.toList).2.2)) := rfl
  have HM := Lib.hid (fun w' (h : Below w.heap.size w w') => C.put (C.below P h) G.small)
  have HN := Lib.hid (fun w' (h : Below w.heap.size w w') => wrote_none C P h)
  clear P G hp
  generalize putAt t p.data.toList k x.data.toList = R at *
  generalize spot t p.data.toList = X at *
  obtain ⟨d, s, f⟩ := X
  obtain ⟨sb, rfl⟩ := text_of s
  rw [mk_bytes] at HA
  dsimp only at HA HX
  by_cases h1 : f = 0
  · subst h1
    have HM := Lib.hid (fun w' h => HM.out w' h d sb k x (by unfold maxLen; omega))
    replace HX := Lib.hid (HX.out.trans (if_neg (by simp)))
    generalize M07.put t d sb.data.toList k x.data.toList = Q at *
    go_enter Tryz.func111, Tryz.ntmps111
    go_wp2_with fail
    refine HA.out.mono ?_
    rintro e w1 ⟨rfl, hb1⟩
    go_wp2_with fail
    refine (HM.out w1 hb1).mono ?_
    rintro e w3 ⟨rfl, hwr⟩
    have W3 := Lib.hid (wrote_after hb1 hwr)
    clear hwr
    go_wp2_with fail
    go_ret
    rw [HX.out]
    exact ⟨rfl, W3.out⟩
  · have t1 : (f == 0) = false := by simpa using h1
    replace HX := Lib.hid (HX.out.trans (if_pos h1))
    clear h1 HM
    go_enter Tryz.func111, Tryz.ntmps111
    go_wp2_with fail
    refine HA.out.mono ?_
    rintro e w1 ⟨rfl, hb1⟩
    go_wp2_with fail
    go_ret
    rw [HX.out]
    exact ⟨rfl, HN.out w1 hb1⟩
theorem cut_kind {t : Tr} (h : Right t) (d : Int) (s : List UInt8) : (nodeAt t.L (inDir t.L d s)).kind = 0 ↔ inDir t.L d s = 0 := by
  constructor
  · intro e
    refine Classical.byContradiction fun h0 => ?_
    obtain ⟨a, ha, hn, -⟩ := M07.in_found h0
    rw [← hn, h.at_ ha] at e
    exact h.kind a ha e
  · intro e
    rw [e]
    refine Classical.byContradiction fun h0 => ?_
    obtain ⟨h1, h2⟩ := M07.at_some h0
    have := (h.ends _ h1).1
    omega
end Go.Proofs.YtmbpgjncioegdaaGreatDoor.W09
/-
  Layer 9 (posix), walks of the landed code: the place of a path's last part (spot), and what is asked of the node there ahead of Cut. New memory may be laid, nothing that was there is changed. The conditions stand in the statements.
-/
namespace Go.Proofs.YtmbpgjncioegdaaGreatDoor.W09
set_option maxRecDepth 100000
open Go Go.RowKit Go.Proofs.YtmbpgjncioegdaaGreatDoor.Strs Go.Proofs.YtmbpgjncioegdaaGreatDoor.Recs Go.Proofs.YtmbpgjncioegdaaGreatDoor.Range
open Go.Proofs.YtmbpgjncioegdaaGreatDoor.M07 (Tr Nd nodeAt inDir Right listDir)
open Go.Proofs.YtmbpgjncioegdaaGreatDoor.M08 Go.Proofs.YtmbpgjncioegdaaGreatDoor.M09
open Go.Proofs.YtmbpgjncioegdaaGreatDoor.W07 (Small Trees Wrote listed heap_top)
open Go.Proofs.YtmbpgjncioegdaaGreatDoor.W08 (Seeks)
open Go.Proofs.YtmbpgjncioegdaaGreatDoor.Kit (ret_str ret_bool ret_int mk_of mk_bytes ba_ext below_draws on)

/-- a box of a place -/
def PlaceBox (w : World) (p : Nat) (d : Int) (s : ByteArray) (n : Int) : Prop := w.heap[p]? = some (.cells #[.int .i64 d, .string s, .int .i64 n] 160 (0, 0))
section
variable {w w' : World} {p : Nat} {d n : Int} {s : ByteArray}
theorem PlaceBox.lt (h : PlaceBox w p d s n) : p < w.heap.size := (Array.getElem?_eq_some_iff.1 h).1
theorem PlaceBox.below (h : PlaceBox w p d s n) (hb : Below w.heap.size w w') : PlaceBox w' p d s n := (hb.block _ h.lt).trans h
theorem PlaceBox.c0 (h : PlaceBox w p d s n) : w.cell? ⟨p, 0, none⟩ = some (.int .i64 d) := cell_of_row w _ 0 _ _ (0, 0) h
theorem PlaceBox.c1 (h : PlaceBox w p d s n) : w.cell? ⟨p, 1, none⟩ = some (.string s) := cell_of_row w _ 1 _ _ (0, 0) h
theorem PlaceBox.c2 (h : PlaceBox w p d s n) : w.cell? ⟨p, 2, none⟩ = some (.int .i64 n) := cell_of_row w _ 2 _ _ (0, 0) h
theorem PlaceBox.fr (h : PlaceBox w p d s n) (j : Nat) : w.frozen? ⟨p, j, none⟩ = false := frozen_of_row w _ j _ _ h
end
theorem build_place (d : Int) (s : ByteArray) (n : Int) (w : World) : (Instr.build 160 #[(0, .int .i64 d), (1, .string s), (2, .int .i64 n)]).run Tryz.prog w = .ok (.agg #[.int .i64 d, .string s, .int .i64 n]) w := by kernel_rfl
theorem build_noplace (w : World) : (Instr.build 160 #[]).run Tryz.prog w = .ok (.agg #[.int .i64 0, .string ⟨#[]⟩, .int .i64 0]) w := by kernel_rfl
def Place (d : Int) (s : ByteArray) (n f : Int) (w : World) (e : Ending) (w' : World) : Prop := e = .returned (.tuple #[.agg #[.int .i64 d, .string s, .int .i64 n], .int .i64 f]) ∧ Below w.heap.size w w'
theorem spot_no {Rep : (Nat → Prop) → World → Value → Tr → Prop} (C : Trees Rep) (S : Seeks Rep) {F : Nat → Prop} {w : World} {v : Value} {t : Tr} (P : Rep F w v t) (G : Good t) (p : ByteArray) (hp : p.size ≤ 1048576) {d : Int} {s : Bytes} {f : Int} (h : M08.spot t p.data.toList = (d, s, f)) (hf : f ≠ 0) :
    Calls Tryz.prog 124 #[v, .string p] w (Place 0 ⟨#[]⟩ 0 f w) := by
  obtain ⟨w1, hw1⟩ : ∃ w1 : World, w.alloc (.cells #[.int .i64 0, .string ⟨#[]⟩, .int .i64 0] 160) = w1 := ⟨_, rfl⟩
  have B1 : Hid (Below w.heap.size w w1) := by show Below _ _ _; rw [← hw1]; exact W07.below_one _ _
  have PB : Hid (PlaceBox w1 w.heap.size 0 ⟨#[]⟩ 0) := by show PlaceBox _ _ _ _ _; rw [← hw1]; exact heap_top _ _
  have HA := Lib.hid (S.spot (C.below P B1.out) G p hp)
  rw [h] at HA
  have tf : (f != 0) = true := by simpa using hf
  have hbn := build_noplace
  clear P G hp h hf
  unfold Place
  go_enter Tryz.func124, Tryz.ntmps124
  go_wp2_with fail
  clear hw1
  refine HA.out.mono ?_
  rintro e w2 ⟨rfl, hb2⟩
  have PB2 := PB.out.below hb2
  have B2 := Lib.hid (on B1.out hb2)
  have s0 := PB2.c0
  have s1 := PB2.c1
  have s2 := PB2.c2
  have f0 := PB2.fr 0
  have f1 := PB2.fr 1
  have f2 := PB2.fr 2
  clear hb2 PB PB2 HA
  go_wp2_with fail
  refine bodyPost_ret_by (v := .tuple #[.agg #[.int .i64 0, .string ⟨#[]⟩, .int .i64 0], .int .i64 f]) ?_ rfl ?_
  · rw [results_cell_tmp rfl]
    go_simp
  · exact ⟨rfl, stored3 _ _ _ B2.out (Nat.le_refl _)⟩
theorem spot_at {Rep : (Nat → Prop) → World → Value → Tr → Prop} (C : Trees Rep) (S : Seeks Rep) {F : Nat → Prop} {w : World} {v : Value} {t : Tr} (P : Rep F w v t) (G : Good t) (p : ByteArray) (hp : p.size ≤ 1048576) {d : Int} {s : ByteArray} (h : M08.spot t p.data.toList = (d, s.data.toList, 0)) :
    Calls Tryz.prog 124 #[v, .string p] w (Place d s (inDir t.L d s.data.toList) 0 w) := by
  obtain ⟨w1, hw1⟩ : ∃ w1 : World, w.alloc (.cells #[.int .i64 0, .string ⟨#[]⟩, .int .i64 0] 160) = w1 := ⟨_, rfl⟩
  have B1 : Hid (Below w.heap.size w w1) := by show Below _ _ _; rw [← hw1]; exact W07.below_one _ _
  have PB : Hid (PlaceBox w1 w.heap.size 0 ⟨#[]⟩ 0) := by show PlaceBox _ _ _ _ _; rw [← hw1]; exact heap_top _ _
  have HA := Lib.hid (S.spot (C.below P B1.out) G p hp)
  rw [h] at HA
  simp only [mk_bytes] at HA
  have HL := Lib.hid (fun w' (h : Below w.heap.size w w') => C.list (C.below P h) G.small d)
  have HF := Lib.hid (fun u w' (hu : Recs W06.entC 2 w'.heap.size w' u (W07.listed t d)) => W08.near_any (C.right P) G.small d s (u := u) (w := w') hu)
  have hbp := build_place
  clear P G hp h
  generalize inDir t.L d s.data.toList = n at *
  unfold Place
  go_enter Tryz.func124, Tryz.ntmps124
  go_wp2_with fail
  clear hw1
  refine HA.out.mono ?_
  rintro e w2 ⟨rfl, hb2⟩
  have PB2 := Lib.hid (PB.out.below hb2)
  have B2 := Lib.hid (on B1.out hb2)
  clear hb2 PB HA
  go_wp2_with fail
  refine (HL.out w2 B2.out).mono ?_
  rintro e w3 ⟨u, rfl, hu, hb3⟩
  have PB3 := Lib.hid (PB2.out.below hb3)
  have B3 := Lib.hid (on B2.out hb3)
  clear hb3 PB2 HL
  go_wp2_with fail
  refine (HF.out u w3 hu).mono ?_
  rintro e w4 ⟨rfl, hb4⟩
  have PB4 := PB3.out.below hb4
  have B4 := Lib.hid (on B3.out hb4)
  have s0 := PB4.c0
  have s1 := PB4.c1
  have s2 := PB4.c2
  have f0 := PB4.fr 0
  have f1 := PB4.fr 1
  have f2 := PB4.fr 2
  clear hb4 PB3 PB4 HF hu
  go_wp2_with fail
  refine bodyPost_ret_by (v := .tuple #[.agg #[.int .i64 d, .string s, .int .i64 n], .int .i64 0]) ?_ rfl ?_
  · rw [results_cell_tmp rfl]
    go_simp
  · exact ⟨rfl, stored3 _ _ _ B4.out (Nat.le_refl _)⟩
/-- what Write comes to where nothing is found -/
def created (t : Tr) (p x : Bytes) : Tr × Int :=
  if (M08.spot t p).2.2 ≠ 0 then (t, (M08.spot t p).2.2) else if 0 < inDir t.L (M08.spot t p).1 (M08.spot t p).2.1 then (t, 5) else putAt t p 2 x
set_option maxHeartbeats 2000000 in
theorem create_over {Rep : (Nat → Prop) → World → Value → Tr → Prop} (C : Trees Rep) (S : Seeks Rep) {F : Nat → Prop} {w : World} {v : Value} {t : Tr} (P : Rep F w v t) (G : Good t) (p x : ByteArray) (hp : p.size ≤ 1048576) (hx : x.size ≤ 1048576) :
    Calls Tryz.prog 119 #[v, .string p, .string x] w fun e w' => e = .returned (.int .i64 (created t p.data.toList x.data.toList).2) ∧ Wrote Rep F v (created t p.data.toList x.data.toList).1 w w' := by
  have HX : Hid (created t p.data.toList x.data.toList = if (spot t p.data.toList).2.2 ≠ 0 then (t, (spot t p.data.toList).2.2) else if 0 < inDir t.L (spot t p.data.toList).1 (spot t p.data.toList).2.1 then (t, 5) else putAt t p.data.toList 2 x.data.toList) := rfl
  have HY : Hid (putAt t p.data.toList 2 x.data.toList = if (spot t p.data.toList).2.2 ≠ 0 then (t, (spot t p.data.toList).2.2) else ((M07.put t (spot t p.data.toList).1 (spot t p.data.toList).2.1 2 x.data.toList).1, (M07.put t (spot t p.data.toList).1 (spot t p.data.toList).2.1 2 x.data.toList).2.2)) := rfl
  have HNO := Lib.hid (fun d s f (h : M08.spot t p.data.toList = (d, s, f)) hf => spot_no C S P G p hp h hf)
  have HAT := Lib.hid (fun d s (h : M08.spot t p.data.toList = (d, s.data.toList, 0)) => spot_at C S P G p hp (s := s) h)
  have HM := Lib.hid (fun w' (h : Below w.heap.size w w') => C.put (C.below P h) G.small)
  have HN := Lib.hid (fun w' (h : Below w.heap.size w w') => wrote_none C P h)
  have HP : ∀ d s, 0 ≤ inDir t.L d s := fun d s => M07.in_pos fun a ha => ((C.right P).ends a ha).1
  clear P G hp
  generalize created t p.data.toList x.data.toList = R at *
  generalize putAt t p.data.toList 2 x.data.toList = R2 at *
  generalize spot t p.data.toList = X at *
  obtain ⟨d, s, f⟩ := X
  obtain ⟨sb, rfl⟩ := text_of s
  dsimp only at HX HY
  unfold Place at HNO HAT
  by_cases h1 : f = 0
  · subst h1
    replace HX := Lib.hid (HX.out.trans (if_neg (by simp)))
    replace HY := Lib.hid (HY.out.trans (if_neg (by simp)))
    replace HM := Lib.hid (fun w' h => HM.out w' h d sb 2 x (by unfold maxLen; omega))
    have HS := Lib.hid (HAT.out d sb rfl)
    have HP := HP d sb.data.toList
    generalize inDir t.L d sb.data.toList = n at *
    generalize M07.put t d sb.data.toList 2 x.data.toList = Q at *
    clear HAT HNO
    by_cases h3 : n = 0
    · have tn : (n != 0) = false := by simp [h3]
      replace HX := Lib.hid ((HX.out.trans (if_neg (by omega))).trans HY.out)
      clear HP h3 HY
      go_enter Tryz.func119, Tryz.ntmps119
      go_wp2_with fail
      refine HS.out.mono ?_
      rintro e w1 ⟨rfl, hb1⟩
      obtain ⟨w2, hw2⟩ : ∃ w' : World, w1.alloc (.cells #[.int .i64 d, .string sb, .int .i64 n] 160) = w' := ⟨_, rfl⟩
      have hb2 : Below w1.heap.size w1 w2 := by rw [← hw2]; exact (Below.refl _ _).alloc (Nat.le_refl _) _
      have PB := Lib.hid (show PlaceBox w2 w1.heap.size d sb n by rw [← hw2]; exact heap_top _ _)
      have B2 := Lib.hid (on hb1 hb2)
      clear hb2
      have s0 := PB.out.c0
      have s1 := PB.out.c1
      have s2 := PB.out.c2
      go_wp2_with fail
      clear hw2
      clear s0 s1 s2
      refine (HM.out w2 B2.out).mono ?_
      rintro e w9 ⟨rfl, hwr⟩
      have W9 := Lib.hid (wrote_after B2.out hwr)
      clear hwr
      go_wp2_with fail
      go_ret
      rw [HX.out]
      exact ⟨rfl, W9.out⟩
    · have tn : (n != 0) = true := by simpa using h3
      replace HX := Lib.hid (HX.out.trans (if_pos (by omega)))
      clear HP h3 HY HM
      go_enter Tryz.func119, Tryz.ntmps119
      go_wp2_with fail
      refine HS.out.mono ?_
      rintro e w1 ⟨rfl, hb1⟩
      obtain ⟨w2, hw2⟩ : ∃ w' : World, w1.alloc (.cells #[.int .i64 d, .string sb, .int .i64 n] 160) = w' := ⟨_, rfl⟩
      have hb2 : Below w1.heap.size w1 w2 := by rw [← hw2]; exact (Below.refl _ _).alloc (Nat.le_refl _) _
      have PB := Lib.hid (show PlaceBox w2 w1.heap.size d sb n by rw [← hw2]; exact heap_top _ _)
      have B2 := Lib.hid (on hb1 hb2)
      clear hb2
      have s0 := PB.out.c0
      have s1 := PB.out.c1
      have s2 := PB.out.c2
      go_wp2_with fail
      go_ret
      rw [HX.out]
      exact ⟨rfl, HN.out w2 B2.out⟩
  · have tf : (f != 0) = true := by simpa using h1
    have HS := Lib.hid (HNO.out d sb.data.toList f rfl h1)
    replace HX := Lib.hid (HX.out.trans (if_pos h1))
    clear HAT HNO HM HY HP h1
    go_enter Tryz.func119, Tryz.ntmps119
    go_wp2_with fail
    refine HS.out.mono ?_
    rintro e w1 ⟨rfl, hb1⟩
    go_wp2_with fail
    go_ret
    rw [HX.out]
    exact ⟨rfl, HN.out _ (hb1.alloc hb1.size _)⟩
set_option maxHeartbeats 2000000 in
theorem write_over {Rep : (Nat → Prop) → World → Value → Tr → Prop} (C : Trees Rep) (S : Seeks Rep) {F : Nat → Prop} {w : World} {v : Value} {t : Tr} (P : Rep F w v t) (G : Good t) (p x : ByteArray) (hp : p.size ≤ 1048576) (hx : x.size ≤ 1048576) :
    Calls Tryz.prog 97 #[v, .string p, .string x] w fun e w' => e = .returned (.int .i64 (M09.write t p.data.toList x.data.toList).2) ∧ Wrote Rep F v (M09.write t p.data.toList x.data.toList).1 w w' := by
  have HA := Lib.hid (S.find P G p true hp)
  have HX : Hid (M09.write t p.data.toList x.data.toList = if (M08.find t p.data.toList true).2 = 0 then M07.set t (M08.find t p.data.toList true).1 x.data.toList else if (M08.find t p.data.toList true).2 ≠ 5 then (t, (M08.find t p.data.toList true).2) else created t p.data.toList x.data.toList) := rfl
  have HT := Lib.hid (fun w' (h : Below w.heap.size w w') => C.set (C.below P h) G.small)
  have HC := Lib.hid (fun w' (h : Below w.heap.size w w') => create_over C S (C.below P h) G p x hp hx)
  have HN := Lib.hid (fun w' (h : Below w.heap.size w w') => wrote_none C P h)
  clear P G hp
  generalize M09.write t p.data.toList x.data.toList = R at *
  generalize created t p.data.toList x.data.toList = R2 at *
  generalize M08.find t p.data.toList true = Y at *
  obtain ⟨n1, f1⟩ := Y
  dsimp only at HA HX
  by_cases h1 : f1 = 0
  · subst h1
    replace HX := Lib.hid (HX.out.trans (if_pos rfl))
    replace HT := Lib.hid (fun w' h => HT.out w' h n1 x (by unfold maxLen; omega))
    generalize M07.set t n1 x.data.toList = Q at *
    clear HC
    go_enter Tryz.func97, Tryz.ntmps97
    go_wp2_with fail
    refine HA.out.mono ?_
    rintro e w1 ⟨rfl, hb1⟩
    go_wp2_with fail
    refine (HT.out w1 hb1).mono ?_
    rintro e w9 ⟨rfl, hwr⟩
    have W9 := Lib.hid (wrote_after hb1 hwr)
    clear hwr
    go_wp2_with fail
    go_ret
    rw [HX.out]
    exact ⟨rfl, W9.out⟩
  · have t1 : (f1 == 0) = false := by simpa using h1
    replace HX := Lib.hid (HX.out.trans (if_neg h1))
    clear h1 HT
    by_cases h5 : f1 = 5
    · have t5 : (f1 == 5) = true := by simp [h5]
      replace HX := Lib.hid (HX.out.trans (if_neg (fun e => e h5)))
      clear h5
      go_enter Tryz.func97, Tryz.ntmps97
      go_wp2_with fail
      refine HA.out.mono ?_
      rintro e w1 ⟨rfl, hb1⟩
      go_wp2_with fail
      refine (HC.out w1 hb1).mono ?_
      rintro e w9 ⟨rfl, hwr⟩
      have W9 := Lib.hid (wrote_after hb1 hwr)
      clear hwr
      go_wp2_with fail
      go_ret
      rw [HX.out]
      exact ⟨rfl, W9.out⟩
    · have t5 : (f1 == 5) = false := by simpa using h5
      replace HX := Lib.hid (HX.out.trans (if_pos h5))
      clear h5 HC
      go_enter Tryz.func97, Tryz.ntmps97
      go_wp2_with fail
      refine HA.out.mono ?_
      rintro e w1 ⟨rfl, hb1⟩
      go_wp2_with fail
      go_ret
      rw [HX.out]
      exact ⟨rfl, HN.out w1 hb1⟩
theorem rmdir1_any {Rep : (Nat → Prop) → World → Value → Tr → Prop} (C : Trees Rep) {F : Nat → Prop} {w : World} {a : Option Addr} {t : Tr} (P : Rep F w (.pointer a) t) (hs : Small t) {b : Nat} (hb : Caught w b (.pointer a)) (n : Int) :
    Says 113 n b w (Num (if (nodeAt t.L n).kind ≠ 1 then 7 else 0)) := by
  have HK := Lib.hid (C.kind P hs n)
  have c0 := hb.1
  clear P hb
  unfold Says Num
  generalize nodeAt t.L n = x at *
  by_cases hk : x.kind ≠ 1
  · have tk : (x.kind != 1) = true := by simp [hk]
    rw [if_pos hk]
    clear hk
    go_enter Tryz.func113, Tryz.ntmps113
    go_wp2_with fail
    refine HK.out.mono ?_
    rintro e w1 ⟨rfl, hb1⟩
    go_wp2_with fail
    go_ret
    exact ⟨rfl, hb1⟩
  · have tk : (x.kind != 1) = false := by simpa using hk
    rw [if_neg hk]
    clear hk
    go_enter Tryz.func113, Tryz.ntmps113
    go_wp2_with fail
    refine HK.out.mono ?_
    rintro e w1 ⟨rfl, hb1⟩
    go_wp2_with fail
    go_ret
    exact ⟨rfl, hb1⟩
set_option maxHeartbeats 2000000 in
theorem rmdir_cut {Rep : (Nat → Prop) → World → Value → Tr → Prop} (C : Trees Rep) (S : Seeks Rep) {F : Nat → Prop} {w : World} {a : Option Addr} {t : Tr} (P : Rep F w (.pointer a) t) (G : Good t) (p : ByteArray) (hp : p.size ≤ 1048576) {b : Nat} (hb : Caught w b (.pointer a)) :
    Calls Tryz.prog 112 #[.pointer a, .string p, .func (.func 113) #[] #[.pointer (some ⟨b, 0, none⟩)]] w fun e w' => e = .returned (.int .i64 (cutAt t p.data.toList true).2) ∧ Wrote Rep F (.pointer a) (cutAt t p.data.toList true).1 w w' := by
  have HX : Hid (cutAt t p.data.toList true = if (spot t p.data.toList).2.2 ≠ 0 then (t, (spot t p.data.toList).2.2) else if inDir t.L (spot t p.data.toList).1 (spot t p.data.toList).2.1 = 0 then (t, 5) else if (nodeAt t.L (inDir t.L (spot t p.data.toList).1 (spot t p.data.toList).2.1)).kind ≠ 1 then (t, 7) else M07.cut t (spot t p.data.toList).1 (spot t p.data.toList).2.1) := by
    have hck := cut_kind (C.right P) (spot t p.data.toList).1 (spot t p.data.toList).2.1
    show _ = _
    unfold cutAt cutKind
    by_cases e1 : inDir t.L (spot t p.data.toList).1 (spot t p.data.toList).2.1 = 0
    · rw [if_pos (hck.2 e1), if_pos e1]
    · rw [if_neg (fun e => e1 (hck.1 e)), if_neg e1]
      simp
  have HNO := Lib.hid (fun d s f (h : M08.spot t p.data.toList = (d, s, f)) hf => spot_no C S P G p hp h hf)
  have HAT := Lib.hid (fun d s (h : M08.spot t p.data.toList = (d, s.data.toList, 0)) => spot_at C S P G p hp (s := s) h)
  have HM := Lib.hid (fun w' (h : Below w.heap.size w w') => C.cut (C.below P h) G.small)
  have HQ := Lib.hid (fun w' (h : Below w.heap.size w w') n => rmdir1_any C (C.below P h) G.small (hb.below h) n)
  have HN := Lib.hid (fun w' (h : Below w.heap.size w w') => wrote_none C P h)
  clear P G hp hb
  generalize cutAt t p.data.toList true = R at *
  generalize spot t p.data.toList = X at *
  obtain ⟨d, s, f⟩ := X
  obtain ⟨sb, rfl⟩ := text_of s
  dsimp only at HX
  unfold Place at HNO HAT
  unfold Says Num at HQ
  by_cases h1 : f = 0
  · subst h1
    replace HX := Lib.hid (HX.out.trans (if_neg (by simp)))
    replace HM := Lib.hid (fun w' h => HM.out w' h d sb)
    have HS := Lib.hid (HAT.out d sb rfl)
    generalize inDir t.L d sb.data.toList = n at *
    replace HQ := Lib.hid (fun w' h => HQ.out w' h n)
    generalize (nodeAt t.L n).kind = kd at *
    generalize M07.cut t d sb.data.toList = Q at *
    clear HAT HNO
    by_cases h3 : n = 0
    · have tn : (n == 0) = true := by simp [h3]
      replace HX := Lib.hid (HX.out.trans (if_pos h3))
      clear h3 HM HQ
      go_enter Tryz.func112, Tryz.ntmps112
      go_wp2_with fail
      refine HS.out.mono ?_
      rintro e w1 ⟨rfl, hb1⟩
      obtain ⟨w2, hw2⟩ : ∃ w' : World, w1.alloc (.cells #[.int .i64 d, .string sb, .int .i64 n] 160) = w' := ⟨_, rfl⟩
      have hb2 : Below w1.heap.size w1 w2 := by rw [← hw2]; exact (Below.refl _ _).alloc (Nat.le_refl _) _
      have PB := Lib.hid (show PlaceBox w2 w1.heap.size d sb n by rw [← hw2]; exact heap_top _ _)
      have B2 := Lib.hid (on hb1 hb2)
      clear hb2
      have s0 := PB.out.c0
      have s1 := PB.out.c1
      have s2 := PB.out.c2
      go_wp2_with fail
      go_ret
      rw [HX.out]
      exact ⟨rfl, HN.out w2 B2.out⟩
    · have tn : (n == 0) = false := by simpa using h3
      replace HX := Lib.hid (HX.out.trans (if_neg h3))
      clear h3
      by_cases h4 : kd ≠ 1
      · replace HX := Lib.hid (HX.out.trans (if_pos h4))
        simp only [if_pos h4] at HQ
        clear h4 HM
        go_enter Tryz.func112, Tryz.ntmps112
        go_wp2_with fail
        refine HS.out.mono ?_
        rintro e w1 ⟨rfl, hb1⟩
        obtain ⟨w2, hw2⟩ : ∃ w' : World, w1.alloc (.cells #[.int .i64 d, .string sb, .int .i64 n] 160) = w' := ⟨_, rfl⟩
        have hb2 : Below w1.heap.size w1 w2 := by rw [← hw2]; exact (Below.refl _ _).alloc (Nat.le_refl _) _
        have PB := Lib.hid (show PlaceBox w2 w1.heap.size d sb n by rw [← hw2]; exact heap_top _ _)
        have B2 := Lib.hid (on hb1 hb2)
        clear hb2
        have s0 := PB.out.c0
        have s1 := PB.out.c1
        have s2 := PB.out.c2
        go_wp2_with fail
        clear hw2
        refine (HQ.out w2 B2.out).mono ?_
        rintro e w3 ⟨rfl, hb3⟩
        go_wp2_with fail
        go_ret
        rw [HX.out]
        exact ⟨rfl, HN.out w3 (on B2.out hb3)⟩
      · replace HX := Lib.hid (HX.out.trans (if_neg h4))
        simp only [if_neg h4] at HQ
        clear h4
        go_enter Tryz.func112, Tryz.ntmps112
        go_wp2_with fail
        refine HS.out.mono ?_
        rintro e w1 ⟨rfl, hb1⟩
        obtain ⟨w2, hw2⟩ : ∃ w' : World, w1.alloc (.cells #[.int .i64 d, .string sb, .int .i64 n] 160) = w' := ⟨_, rfl⟩
        have hb2 : Below w1.heap.size w1 w2 := by rw [← hw2]; exact (Below.refl _ _).alloc (Nat.le_refl _) _
        have PB := Lib.hid (show PlaceBox w2 w1.heap.size d sb n by rw [← hw2]; exact heap_top _ _)
        have B2 := Lib.hid (on hb1 hb2)
        clear hb2
        have s0 := PB.out.c0
        have s1 := PB.out.c1
        have s2 := PB.out.c2
        go_wp2_with fail
        clear hw2
        clear s0 s1 s2
        refine (HQ.out w2 B2.out).mono ?_
        rintro e w3 ⟨rfl, hb3⟩
        have PB3 := PB.out.below hb3
        have B3 := Lib.hid (on B2.out hb3)
        have s0 := PB3.c0
        have s1 := PB3.c1
        have s2 := PB3.c2
        clear hb3 PB PB3
        go_wp2_with fail
        clear s0 s1 s2
        refine (HM.out w3 B3.out).mono ?_
        rintro e w9 ⟨rfl, hwr⟩
        have W9 := Lib.hid (wrote_after B3.out hwr)
        clear hwr
        go_wp2_with fail
        go_ret
        rw [HX.out]
        exact ⟨rfl, W9.out⟩
  · have tf : (f != 0) = true := by simpa using h1
    have HS := Lib.hid (HNO.out d sb.data.toList f rfl h1)
    replace HX := Lib.hid (HX.out.trans (if_pos h1))
    clear HAT HNO HM HQ h1
    go_enter Tryz.func112, Tryz.ntmps112
    go_wp2_with fail
    refine HS.out.mono ?_
    rintro e w1 ⟨rfl, hb1⟩
    go_wp2_with fail
    go_ret
    rw [HX.out]
    exact ⟨rfl, HN.out _ (hb1.alloc hb1.size _)⟩
theorem rmdir_over {Rep : (Nat → Prop) → World → Value → Tr → Prop} (C : Trees Rep) (S : Seeks Rep) {F : Nat → Prop} {w : World} {a : Option Addr} {t : Tr} (P : Rep F w (.pointer a) t) (G : Good t) (p : ByteArray) (hp : p.size ≤ 1048576) :
    Calls Tryz.prog 89 #[.pointer a, .string p] w fun e w' => e = .returned (.int .i64 (cutAt t p.data.toList true).2) ∧ Wrote Rep F (.pointer a) (cutAt t p.data.toList true).1 w w' := by
  obtain ⟨w1, hw1⟩ : ∃ w1 : World, w.alloc (.cells #[.pointer a] 27) = w1 := ⟨_, rfl⟩
  have B1 : Hid (Below w.heap.size w w1) := by show Below _ _ _; rw [← hw1]; exact W07.below_one _ _
  have CB : Caught w1 w.heap.size (.pointer a) := by rw [← hw1]; exact Caught.new _ _ _
  have HA := Lib.hid (rmdir_cut C S (C.below P B1.out) G p hp CB)
  have c0 := CB.1
  clear P G hp CB
  generalize cutAt t p.data.toList true = R at *
  go_enter Tryz.func89, Tryz.ntmps89
  go_wp2_with fail
  clear hw1
  refine HA.out.mono ?_
  rintro e w2 ⟨rfl, hwr⟩
  have W2 := Lib.hid (wrote_after B1.out hwr)
  clear hwr
  go_wp2_with fail
  go_ret
  exact ⟨rfl, W2.out⟩
theorem unlink1_any {Rep : (Nat → Prop) → World → Value → Tr → Prop} (C : Trees Rep) {F : Nat → Prop} {w : World} {a : Option Addr} {t : Tr} (P : Rep F w (.pointer a) t) (hs : Small t) {b : Nat} (hb : Caught w b (.pointer a)) (n : Int) :
    Says 114 n b w (Num (if (nodeAt t.L n).kind = 1 then 8 else 0)) := by
  have HK := Lib.hid (C.kind P hs n)
  have c0 := hb.1
  clear P hb
  unfold Says Num
  generalize nodeAt t.L n = x at *
  by_cases hk : x.kind = 1
  · have tk : (x.kind == 1) = true := by simp [hk]
    rw [if_pos hk]
    clear hk
    go_enter Tryz.func114, Tryz.ntmps114
    go_wp2_with fail
    refine HK.out.mono ?_
    rintro e w1 ⟨rfl, hb1⟩
    go_wp2_with fail
    go_ret
    exact ⟨rfl, hb1⟩
  · have tk : (x.kind == 1) = false := by simpa using hk
    rw [if_neg hk]
    clear hk
    go_enter Tryz.func114, Tryz.ntmps114
    go_wp2_with fail
    refine HK.out.mono ?_
    rintro e w1 ⟨rfl, hb1⟩
    go_wp2_with fail
    go_ret
    exact ⟨rfl, hb1⟩
set_option maxHeartbeats 2000000 in
theorem unlink_cut {Rep : (Nat → Prop) → World → Value → Tr → Prop} (C : Trees Rep) (S : Seeks Rep) {F : Nat → Prop} {w : World} {a : Option Addr} {t : Tr} (P : Rep F w (.pointer a) t) (G : Good t) (p : ByteArray) (hp : p.size ≤ 1048576) {b : Nat} (hb : Caught w b (.pointer a)) :
    Calls Tryz.prog 112 #[.pointer a, .string p, .func (.func 114) #[] #[.pointer (some ⟨b, 0, none⟩)]] w fun e w' => e = .returned (.int .i64 (cutAt t p.data.toList false).2) ∧ Wrote Rep F (.pointer a) (cutAt t p.data.toList false).1 w w' := by
  have HX : Hid (cutAt t p.data.toList false = if (spot t p.data.toList).2.2 ≠ 0 then (t, (spot t p.data.toList).2.2) else if inDir t.L (spot t p.data.toList).1 (spot t p.data.toList).2.1 = 0 then (t, 5) else if (nodeAt t.L (inDir t.L (spot t p.data.toList).1 (spot t p.data.toList).2.1)).kind = 1 then (t, 8) else M07.cut t (spot t p.data.toList).1 (spot t p.data.toList).2.1) := by
    have hck := cut_kind (C.right P) (spot t p.data.toList).1 (spot t p.data.toList).2.1
    show _ = _
    unfold cutAt cutKind
    by_cases e1 : inDir t.L (spot t p.data.toList).1 (spot t p.data.toList).2.1 = 0
    · rw [if_pos (hck.2 e1), if_pos e1]
    · rw [if_neg (fun e => e1 (hck.1 e)), if_neg e1]
      simp
  have HNO := Lib.hid (fun d s f (h : M08.spot t p.data.toList = (d, s, f)) hf => spot_no C S P G p hp h hf)
  have HAT := Lib.hid (fun d s (h : M08.spot t p.data.toList = (d, s.data.toList, 0)) => spot_at C S P G p hp (s := s) h)
  have HM := Lib.hid (fun w' (h : Below w.heap.size w w') => C.cut (C.below P h) G.small)
  have HQ := Lib.hid (fun w' (h : Below w.heap.size w w') n => unlink1_any C (C.below P h) G.small (hb.below h) n)
  have HN := Lib.hid (fun w' (h : Below w.heap.size w w') => wrote_none C P h)
  clear P G hp hb
  generalize cutAt t p.data.toList false = R at *
  generalize spot t p.data.toList = X at *
  obtain ⟨d, s, f⟩ := X
  obtain ⟨sb, rfl⟩ := text_of s
  dsimp only at HX
  unfold Place at HNO HAT
  unfold Says Num at HQ
  by_cases h1 : f = 0
  · subst h1
    replace HX := Lib.hid (HX.out.trans (if_neg (by simp)))
    replace HM := Lib.hid (fun w' h => HM.out w' h d sb)
    have HS := Lib.hid (HAT.out d sb rfl)
    generalize inDir t.L d sb.data.toList = n at *
    replace HQ := Lib.hid (fun w' h => HQ.out w' h n)
    generalize (nodeAt t.L n).kind = kd at *
    generalize M07.cut t d sb.data.toList = Q at *
    clear HAT HNO
    by_cases h3 : n = 0
    · have tn : (n == 0) = true := by simp [h3]
      replace HX := Lib.hid (HX.out.trans (if_pos h3))
      clear h3 HM HQ
      go_enter Tryz.func112, Tryz.ntmps112
      go_wp2_with fail
      refine HS.out.mono ?_
      rintro e w1 ⟨rfl, hb1⟩
      obtain ⟨w2, hw2⟩ : ∃ w' : World, w1.alloc (.cells #[.int .i64 d, .string sb, .int .i64 n] 160) = w' := ⟨_, rfl⟩
      have hb2 : Below w1.heap.size w1 w2 := by rw [← hw2]; exact (Below.refl _ _).alloc (Nat.le_refl _) _
      have PB := Lib.hid (show PlaceBox w2 w1.heap.size d sb n by rw [← hw2]; exact heap_top _ _)
      have B2 := Lib.hid (on hb1 hb2)
      clear hb2
      have s0 := PB.out.c0
      have s1 := PB.out.c1
      have s2 := PB.out.c2
      go_wp2_with fail
      go_ret
      rw [HX.out]
      exact ⟨rfl, HN.out w2 B2.out⟩
    · have tn : (n == 0) = false := by simpa using h3
      replace HX := Lib.hid (HX.out.trans (if_neg h3))
      clear h3
      by_cases h4 : kd = 1
      · replace HX := Lib.hid (HX.out.trans (if_pos h4))
        simp only [if_pos h4] at HQ
        clear h4 HM
        go_enter Tryz.func112, Tryz.ntmps112
        go_wp2_with fail
        refine HS.out.mono ?_
        rintro e w1 ⟨rfl, hb1⟩
        obtain ⟨w2, hw2⟩ : ∃ w' : World, w1.alloc (.cells #[.int .i64 d, .string sb, .int .i64 n] 160) = w' := ⟨_, rfl⟩
        have hb2 : Below w1.heap.size w1 w2 := by rw [← hw2]; exact (Below.refl _ _).alloc (Nat.le_refl _) _
        have PB := Lib.hid (show PlaceBox w2 w1.heap.size d sb n by rw [← hw2]; exact heap_top _ _)
        have B2 := Lib.hid (on hb1 hb2)
        clear hb2
        have s0 := PB.out.c0
        have s1 := PB.out.c1
        have s2 := PB.out.c2
        go_wp2_with fail
        clear hw2
        refine (HQ.out w2 B2.out).mono ?_
        rintro e w3 ⟨rfl, hb3⟩
        go_wp2_with fail
        go_ret
        rw [HX.out]
        exact ⟨rfl, HN.out w3 (on B2.out hb3)⟩
      · replace HX := Lib.hid (HX.out.trans (if_neg h4))
        simp only [if_neg h4] at HQ
        clear h4
        go_enter Tryz.func112, Tryz.ntmps112
        go_wp2_with fail
        refine HS.out.mono ?_
        rintro e w1 ⟨rfl, hb1⟩
        obtain ⟨w2, hw2⟩ : ∃ w' : World, w1.alloc (.cells #[.int .i64 d, .string sb, .int .i64 n] 160) = w' := ⟨_, rfl⟩
        have hb2 : Below w1.heap.size w1 w2 := by rw [← hw2]; exact (Below.refl _ _).alloc (Nat.le_refl _) _
        have PB := Lib.hid (show PlaceBox w2 w1.heap.size d sb n by rw [← hw2]; exact heap_top _ _)
        have B2 := Lib.hid (on hb1 hb2)
        clear hb2
        have s0 := PB.out.c0
        have s1 := PB.out.c1
        have s2 := PB.out.c2
        go_wp2_with fail
        clear hw2
        clear s0 s1 s2
        refine (HQ.out w2 B2.out).mono ?_
        rintro e w3 ⟨rfl, hb3⟩
        have PB3 := PB.out.below hb3
        have B3 := Lib.hid (on B2.out hb3)
        have s0 := PB3.c0
        have s1 := PB3.c1
        have s2 := PB3.c2
        clear hb3 PB PB3
        go_wp2_with fail
        clear s0 s1 s2
        refine (HM.out w3 B3.out).mono ?_
        rintro e w9 ⟨rfl, hwr⟩
        have W9 := Lib.hid (wrote_after B3.out hwr)
        clear hwr
        go_wp2_with fail
        go_ret
        rw [HX.out]
        exact ⟨rfl, W9.out⟩
  · have tf : (f != 0) = true := by simpa using h1
    have HS := Lib.hid (HNO.out d sb.data.toList f rfl h1)
    replace HX := Lib.hid (HX.out.trans (if_pos h1))
    clear HAT HNO HM HQ h1
    go_enter Tryz.func112, Tryz.ntmps112
    go_wp2_with fail
    refine HS.out.mono ?_
    rintro e w1 ⟨rfl, hb1⟩
    go_wp2_with fail
    go_ret
    rw [HX.out]
    exact ⟨rfl, HN.out _ (hb1.alloc hb1.size _)⟩
theorem unlink_over {Rep : (Nat → Prop) → World → Value → Tr → Prop} (C : Trees Rep) (S : Seeks Rep) {F : Nat → Prop} {w : World} {a : Option Addr} {t : Tr} (P : Rep F w (.pointer a) t) (G : Good t) (p : ByteArray) (hp : p.size ≤ 1048576) :
    Calls Tryz.prog 93 #[.pointer a, .string p] w fun e w' => e = .returned (.int .i64 (cutAt t p.data.toList false).2) ∧ Wrote Rep F (.pointer a) (cutAt t p.data.toList false).1 w w' := by
  obtain ⟨w1, hw1⟩ : ∃ w1 : World, w.alloc (.cells #[.pointer a] 27) = w1 := ⟨_, rfl⟩
  have B1 : Hid (Below w.heap.size w w1) := by show Below _ _ _; rw [← hw1]; exact W07.below_one _ _
  have CB : Caught w1 w.heap.size (.pointer a) := by rw [← hw1]; exact Caught.new _ _ _
  have HA := Lib.hid (unlink_cut C S (C.below P B1.out) G p hp CB)
  have c0 := CB.1
  clear P G hp CB
  generalize cutAt t p.data.toList false = R at *
  go_enter Tryz.func93, Tryz.ntmps93
  go_wp2_with fail
  clear hw1
  refine HA.out.mono ?_
  rintro e w2 ⟨rfl, hwr⟩
  have W2 := Lib.hid (wrote_after B1.out hwr)
  clear hwr
  go_wp2_with fail
  go_ret
  exact ⟨rfl, W2.out⟩
end Go.Proofs.YtmbpgjncioegdaaGreatDoor.W09
