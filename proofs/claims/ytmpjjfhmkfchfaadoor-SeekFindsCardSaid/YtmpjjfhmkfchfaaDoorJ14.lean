/-
  Texts joined, in build order, each with its own comment and its own conditions: W06Code, W08Near, W07Mem.
-/
import Derived.Test.YtmpjjfhmkfchfaaDoorJ13
import Derived.Deep.RegionHeld3
import Derived.Test.YtmpjjfhmkfchfaaDoorJ06
import Derived.Test.YtmpjjfhmkfchfaaDoorJ12
import Derived.Test.YtmpjjfhmkfchfaaDoorJ04
/-
  Layer 6 (ents), walks: what the landed Right, Find, Put, Cut, Names, Merge and Next return; new memory may be laid, nothing that was there is changed. The bounds on the lists stand in the statements.
-/
namespace Go.Proofs.YtmpjjfhmkfchfaaDoor.W06
set_option maxRecDepth 100000
open Go Go.RowKit Go.Proofs.YtmpjjfhmkfchfaaDoor.Strs Go.Proofs.YtmpjjfhmkfchfaaDoor.Recs Go.Proofs.YtmpjjfhmkfchfaaDoor.M06
open Go.Proofs.YtmpjjfhmkfchfaaDoor.Kit (ret_str ret_bool ret_int mk_of mk_bytes ba_ext below_draws on)

/-- entries are handed out that lie in new memory -/
def HandsN (w : World) (L : List Ent) (e : Ending) (w' : World) : Prop := ∃ v, e = .returned v ∧ Ents w'.heap.size w' v L ∧ (∀ b o n c, v = .slice (some ⟨b, o, none⟩) n c → w.heap.size ≤ b) ∧ Below w.heap.size w w'
theorem own_new {w : World} {base B : Nat} {v : Value} {L : List Ent} (h : OwnEnts w base v L) (hB : B ≤ base) : ∀ b o n c, v = .slice (some ⟨b, o, none⟩) n c → B ≤ b := by
  rintro b o n c rfl
  exact Nat.le_trans hB (h.lt b rfl).1
theorem hands_of_new {w w' : World} {L : List Ent} {e : Ending} (h : HandsN w L e w') : HandsE w L e w' := by
  obtain ⟨v, he, hu, -, hb⟩ := h
  exact ⟨v, he, hu, hb⟩
/-- what a call returns that hands out texts -/
def HandsT (w : World) (L : List (List UInt8)) (e : Ending) (w' : World) : Prop := ∃ v, e = .returned v ∧ Texts w'.heap.size w' v L ∧ Below w.heap.size w w'
theorem draws_below {w w' : World} {e : Ending} {v : Value} (h : e = .returned v ∧ ∃ n, w' = w.drewN n) : e = .returned v ∧ Below w.heap.size w w' := by
  obtain ⟨he, n, hw⟩ := h
  exact ⟨he, by rw [hw]; exact below_draws _ _⟩
theorem none_form {B : Nat} {w : World} {v : Value} (h : Ents B w v []) : ∃ A c, v = .slice A 0 c := by
  obtain ⟨A, c, rfl, -, -⟩ := h.form
  exact ⟨A, c, rfl⟩
theorem some_form {B : Nat} {w : World} {v : Value} {a : Ent} {r : List Ent} (h : Ents B w v (a :: r)) : ∃ (b o n c : Nat) (t : ByteArray), v = .slice (some ⟨b, o, none⟩) (n + 1) c ∧ n + 1 ≤ c ∧ c ≤ maxLen ∧ b < B ∧ t.data.toList = a.1 ∧ w.cell? ⟨b, o, none⟩ = some (.string t) ∧ w.cell? ⟨b, o + 1, none⟩ = some (.int .i64 a.2) := by
  obtain ⟨A, c, rfl, h1, h2⟩ := h.form
  obtain ⟨b, o, hl, t, rfl, hb, ht, hc0, hc1⟩ := Ents.at_ h (k := 0) (by simp)
  rw [Nat.zero_mul, Nat.add_zero] at hc0 hc1
  exact ⟨b, o, r.length, c, t, rfl, h1, h2, hb, ht, hc0, hc1⟩

theorem lists_two {w : World} {A1 A2 : Option Addr} {c1 c2 B : Nat} {L1 L2 : List Ent} (h1 : Ents B w (.slice A1 L1.length c1) L1) (h2 : Ents B w (.slice A2 L2.length c2) L2) (hB : B ≤ w.heap.size) (t : TypeId) :
    Lists (w.heap.size + 1) (w.alloc (.cells #[.slice A1 L1.length c1, .slice A2 L2.length c2] t)) w.heap.size 0 [L1, L2] := by
  intro j hj
  match j, hj with
  | 0, _ => exact ⟨A1, c1, by simp, (h1.alloc hB _).more (by omega)⟩
  | 1, _ => exact ⟨A2, c2, by simp, (h2.alloc hB _).more (by omega)⟩
theorem lists_three {w : World} {A1 A2 A3 : Option Addr} {c1 c2 c3 B : Nat} {L1 L2 L3 : List Ent} (h1 : Ents B w (.slice A1 L1.length c1) L1) (h2 : Ents B w (.slice A2 L2.length c2) L2) (h3 : Ents B w (.slice A3 L3.length c3) L3) (hB : B ≤ w.heap.size) (t : TypeId) :
    Lists (w.heap.size + 1) (w.alloc (.cells #[.slice A1 L1.length c1, .slice A2 L2.length c2, .slice A3 L3.length c3] t)) w.heap.size 0 [L1, L2, L3] := by
  intro j hj
  match j, hj with
  | 0, _ => exact ⟨A1, c1, by simp, (h1.alloc hB _).more (by omega)⟩
  | 1, _ => exact ⟨A2, c2, by simp, (h2.alloc hB _).more (by omega)⟩
  | 2, _ => exact ⟨A3, c3, by simp, (h3.alloc hB _).more (by omega)⟩
section
variable (v : Value) (L : List Ent) (w : World)
theorem right_any (h : Ents w.heap.size w v L) (hn : L.length ≤ 1099511627776) : Calls Tryd.prog 78 #[v] w fun e w' => e = .returned (.bool (right L)) ∧ Below w.heap.size w w' :=
  (codeRight_any v L _ w h hn).mono fun _ _ => draws_below
theorem find_any (s : ByteArray) (h : Ents w.heap.size w v L) (hn : L.length ≤ 1099511627776) : Calls Tryd.prog 36 #[v, .string s] w fun e w' => e = .returned (.tuple #[.int .i64 (M06.find (all L) s.data.toList).1, .bool (M06.find (all L) s.data.toList).2]) ∧ Below w.heap.size w w' := by
  have HU := Lib.hid (usable_any v L _ w h hn)
  have HA := Lib.hid (fun (q : Nat) (u : Value) (hu : Ents w.heap.size w u (all L)) => around_any u (all L) _ s (w.drewN q) hu (Nat.le_refl _) (right_all L) (Nat.le_trans (all_len L) hn))
  obtain ⟨A, c, rfl, -, -⟩ := h.form
  clear h
  rw [find_parts]
  generalize all L = M at *
  generalize s.data.toList = S at *
  cases hm : M06.mid M S with
  | nil =>
    have HM := Lib.hid hm
    clear hm
    go_enter Tryd.func36, Tryd.ntmps36
    go_wp2_with fail
    refine HU.out.mono ?_
    rintro e w1 ⟨⟨u, rfl, hu⟩, q, rfl⟩
    have HA := Lib.hid (HA.out q u hu)
    clear hu
    go_wp2_with fail
    refine HA.out.mono ?_
    rintro e w2 ⟨v1, v2, v3, rfl, -, h2, -, hb⟩
    have B2 := Lib.hid (on (below_draws w q) hb)
    rw [HM.out] at h2
    obtain ⟨A2, c2, rfl⟩ := none_form h2
    clear hb h2
    go_wp2_with fail
    go_ret2
    exact ⟨rfl, B2.out⟩
  | cons a r =>
    have HM := Lib.hid hm
    clear hm
    go_enter Tryd.func36, Tryd.ntmps36
    go_wp2_with fail
    refine HU.out.mono ?_
    rintro e w1 ⟨⟨u, rfl, hu⟩, q, rfl⟩
    have HA := Lib.hid (HA.out q u hu)
    clear hu
    go_wp2_with fail
    refine HA.out.mono ?_
    rintro e w2 ⟨v1, v2, v3, rfl, -, h2, -, hb⟩
    have B2 := Lib.hid (on (below_draws w q) hb)
    rw [HM.out] at h2
    obtain ⟨b, o, n, c2, t, rfl, hn1, hn2, hbl, -, hc0, hc1⟩ := some_form h2
    unfold maxLen at hn2
    have hne : ((n : Int) + 1 == 0) = false := by simp; omega
    clear hb h2
    go_wp2_with fail
    go_ret2
    exact ⟨rfl, B2.out⟩
theorem usable_hands (v : Value) (L : List Ent) (B : Nat) (w : World) (h : Ents B w v L) (hn : L.length ≤ 1099511627776) :
    Calls Tryd.prog 60 #[v] w fun e w' => ∃ u, e = .returned u ∧ Ents B w' u (all L) ∧ Below w.heap.size w w' :=
  (usable_any v L B w h hn).mono fun _ _ ⟨⟨u, he, hu⟩, q, hw⟩ => ⟨u, he, by rw [hw]; exact hu, by rw [hw]; exact below_draws _ _⟩
theorem one_ent (w : World) (en : ByteArray) (z : Int) (t : TypeId) : Ents (w.heap.size + 1) (w.alloc (.cells #[.string en, .int .i64 z] t)) (.slice (some ⟨w.heap.size, 0, none⟩) 1 1) [(en.data.toList, z)] := by
  refine ⟨_, 1, rfl, Nat.le_refl _, by decide, fun _ => ⟨_, rfl, Nat.lt_succ_self _, fun k hk j hj => ?_⟩⟩
  obtain rfl : k = 0 := by simpa using hk
  have h := cells_new w [.string en, .int .i64 z] t j
  rw [Nat.zero_mul, Nat.zero_add]
  show _ = ([strV en.data.toList, .int .i64 z])[j]?
  have he : strV en.data.toList = .string en := by unfold strV; rw [mk_bytes]
  rw [he]
  match j, hj with
  | 0, _ => exact h _ rfl
  | 1, _ => exact h _ rfl
section
variable {w9 w' w'' : World} {B : Nat} {x0 x1 : Value}
theorem boxed_below (hS : w'.cell? ⟨B, 0, none⟩ = some x0 ∧ w'.cell? ⟨B, 1, none⟩ = some x1 ∧ Below w9.heap.size w9 w') : Below w9.heap.size w9 w' := hS.2.2
theorem boxed_on (hs : B < w9.heap.size) (hS : w'.cell? ⟨B, 0, none⟩ = some x0 ∧ w'.cell? ⟨B, 1, none⟩ = some x1 ∧ Below w9.heap.size w9 w') (hb : Below w'.heap.size w' w'') : w''.cell? ⟨B, 0, none⟩ = some x0 ∧ w''.cell? ⟨B, 1, none⟩ = some x1 ∧ Below w9.heap.size w9 w'' := by
  have := hS.2.2.size
  exact ⟨by rw [hb.cell (by show B < _; omega)]; exact hS.1, by rw [hb.cell (by show B < _; omega)]; exact hS.2.1, on hS.2.2 hb⟩
theorem boxed_draw (hS : w'.cell? ⟨B, 0, none⟩ = some x0 ∧ w'.cell? ⟨B, 1, none⟩ = some x1 ∧ Below w9.heap.size w9 w') : w'.drew.cell? ⟨B, 0, none⟩ = some x0 ∧ w'.drew.cell? ⟨B, 1, none⟩ = some x1 ∧ Below w9.heap.size w9 w'.drew := ⟨hS.1, hS.2.1, hS.2.2.drew⟩
end
set_option maxHeartbeats 2000000 in
theorem put_new (en : ByteArray) (z : Int) (h : Ents w.heap.size w v L) (hn : L.length ≤ 1099511627776) : Calls Tryd.prog 64 #[v, .agg #[.string en, .int .i64 z]] w (HandsN w (put L (en.data.toList, z))) := by
  obtain ⟨w1, hw1⟩ : ∃ w1 : World, w1 = w.alloc (.cells #[.string en, .int .i64 z] 102) := ⟨_, rfl⟩
  have x0 : w1.cell? ⟨w.heap.size, 0, none⟩ = some (.string en) := by rw [hw1]; simp
  have x1 : w1.cell? ⟨w.heap.size, 1, none⟩ = some (.int .i64 z) := by rw [hw1]; simp
  have hs1 : w.heap.size < w1.heap.size := by rw [hw1]; simp
  have B1 : Hid (Below w.heap.size w w1) := by rw [hw1]; exact (Below.refl _ _).alloc (Nat.le_refl _) _
  have HU := Lib.hid (fun (w' : World) (hb : Below w1.heap.size w1 w') => usable_hands v L w.heap.size w' (h.below (B1.out.trans (hb.mono B1.out.size))) hn)
  have HA := Lib.hid (fun (w' : World) (u : Value) (hu : Ents w.heap.size w' u (all L)) (hs : w.heap.size ≤ w'.heap.size) => around_any u (all L) w.heap.size en w' hu hs (right_all L) (Nat.le_trans (all_len L) hn))
  obtain ⟨A, c, rfl, -, -⟩ := h.form
  clear h
  rw [put_parts]
  have hl1 := low_high_len (all L) en.data.toList
  have hl2 := all_len L
  generalize all L = M at *
  show Calls _ _ _ _ (HandsN w (low M en.data.toList ++ (en.data.toList, z) :: high M en.data.toList))
  go_enter Tryd.func64, Tryd.ntmps64
  go_wp2_with fail
  rw [← hw1]
  clear hw1
  go_region_held3 (fun w' => w'.cell? ⟨w.heap.size, 0, none⟩ = some (.string en) ∧ w'.cell? ⟨w.heap.size, 1, none⟩ = some (.int .i64 z) ∧ Below w1.heap.size w1 w')
    (first | exact boxed_on hs1 (by assumption) hb3 | exact boxed_on hs1 (by assumption) hb2 | exact ⟨x0, x1, (Below.refl _ _).drew⟩ | exact boxed_draw (by assumption) | go_keep)
    (first
      | (go_at_call 60; refine (HU.out _ (boxed_below (by assumption))).mono ?_; rintro e x2 ⟨y1, rfl, hu, hb2⟩; have U1 := Lib.hid hu; clear hu)
      | (go_at_call 59; refine (HA.out _ _ U1.out (Nat.le_trans B1.out.size (boxed_below (by assumption)).size)).mono ?_; rintro e x3 ⟨v1, v2, v3, rfl, h1, -, h3, hb3⟩; have P1 := Lib.hid h1; have P3 := Lib.hid h3; clear h1 h3))
  obtain ⟨hx0, hx1, hbb⟩ := (by assumption : x3.cell? ⟨w.heap.size, 0, none⟩ = some (.string en) ∧ x3.cell? ⟨w.heap.size, 1, none⟩ = some (.int .i64 z) ∧ Below w1.heap.size w1 x3)
  have B3 : Hid (Below w.heap.size w x3) := B1.out.trans (hbb.mono B1.out.size)
  have hs3 := B3.out.size
  obtain ⟨A1, c1, rfl, -, -⟩ := P1.out.form
  obtain ⟨A3, c3, rfl, -, -⟩ := P3.out.form
  have hC := concat_any (x3.heap.size + 1) 0 3 3 (x3.heap.size + 2) [low M en.data.toList, [(en.data.toList, z)], high M en.data.toList] ((x3.alloc (.cells #[.string en, .int .i64 z] 102)).alloc (.cells #[.slice A1 (low M en.data.toList).length c1, .slice (some ⟨x3.heap.size, 0, none⟩) 1 1, .slice A3 (high M en.data.toList).length c3] 75)) rfl (by
    have q := lists_three (L2 := [(en.data.toList, z)]) (A2 := some ⟨x3.heap.size, 0, none⟩) (c2 := 1) (w := x3.alloc (.cells #[.string en, .int .i64 z] 102)) (B := x3.heap.size + 1) ((P1.out.alloc hs3 (.cells #[.string en, .int .i64 z] 102)).more (by omega)) (one_ent x3 en z 102) ((P3.out.alloc hs3 (.cells #[.string en, .int .i64 z] 102)).more (by omega)) (by rw [World.size_alloc]; exact Nat.le_refl _) 75
    rw [World.size_alloc] at q
    exact q) (by omega) (by rw [World.size_alloc, World.size_alloc]; exact Nat.le_refl _) (by omega) (by simp; omega)
  have HC := Lib.hid hC
  clear hC hbb hb3
  go_wp2_with fail
  refine HC.out.mono ?_
  rintro e w4 ⟨u4, rfl, hu4, hb4⟩
  have N4 := Lib.hid (own_new (B := w.heap.size) hu4 (by rw [World.size_alloc, World.size_alloc]; omega))
  have U4 := Lib.hid hu4.reads
  rw [show [low M en.data.toList, [(en.data.toList, z)], high M en.data.toList].flatten = low M en.data.toList ++ (en.data.toList, z) :: high M en.data.toList by simp] at U4
  have B4 := Lib.hid (on B3.out ((((Below.refl x3.heap.size x3).alloc (Nat.le_refl _) (.cells #[.string en, .int .i64 z] 102)).alloc (by simp) _).trans (hb4.mono (by simp; omega))))
  clear hu4 hb4
  go_wp2_with fail
  go_ret
  exact ⟨_, rfl, U4.out, N4.out, B4.out⟩
theorem put_any (en : ByteArray) (z : Int) (h : Ents w.heap.size w v L) (hn : L.length ≤ 1099511627776) : Calls Tryd.prog 64 #[v, .agg #[.string en, .int .i64 z]] w (HandsE w (put L (en.data.toList, z))) :=
  (put_new v L w en z h hn).mono fun _ _ => hands_of_new
end
theorem own_on {w w' : World} {base : Nat} {v : Value} {L : List Ent} (h : OwnEnts w base v L) (hb : Below w.heap.size w w') : OwnEnts w' base v L := by
  refine ⟨h.1, ?_⟩
  rcases h.2 with hn | ⟨g, cap, cur, hv, hg, hh, rest⟩
  · exact Or.inl hn
  · refine Or.inr ⟨g, cap, cur, hv, hg, ?_, rest⟩
    rw [hb.block g ?_]; exact hh
    rcases Nat.lt_or_ge g w.heap.size with hlt | hge
    · exact hlt
    · rw [Array.getElem?_eq_none hge] at hh; cases hh
section
variable {w W W' : World} {e0 base : Nat} {x0 x1 : Value} {row : Option Nat}
theorem beside_grown (hS : W.cell? ⟨e0, 0, none⟩ = some x0 ∧ W.cell? ⟨e0, 1, none⟩ = some x1 ∧ Below base w W) (hg : W.grownBy W' row) (hrow : ∀ q, row = some q → q ≠ e0 ∧ base ≤ q) (hbase : base ≤ w.heap.size) : W'.cell? ⟨e0, 0, none⟩ = some x0 ∧ W'.cell? ⟨e0, 1, none⟩ = some x1 ∧ Below base w W' :=
  ⟨hg.cell hS.1 (fun e => (hrow _ e.symm).1 rfl), hg.cell hS.2.1 (fun e => (hrow _ e.symm).1 rfl), hS.2.2.grown hg (Nat.le_trans hbase hS.2.2.size) (fun k hk => (hrow k hk).2)⟩
theorem beside_draw (hS : W.cell? ⟨e0, 0, none⟩ = some x0 ∧ W.cell? ⟨e0, 1, none⟩ = some x1 ∧ Below base w W) : W.drew.cell? ⟨e0, 0, none⟩ = some x0 ∧ W.drew.cell? ⟨e0, 1, none⟩ = some x1 ∧ Below base w W.drew := ⟨hS.1, hS.2.1, hS.2.2.drew⟩
theorem beside_alloc (hS : W.cell? ⟨e0, 0, none⟩ = some x0 ∧ W.cell? ⟨e0, 1, none⟩ = some x1 ∧ Below base w W) (hbase : base ≤ w.heap.size) (o : Obj) : (W.alloc o).cell? ⟨e0, 0, none⟩ = some x0 ∧ (W.alloc o).cell? ⟨e0, 1, none⟩ = some x1 ∧ Below base w (W.alloc o) :=
  ⟨(World.cell?_alloc_lt W o _ (World.block_lt_of_cell? W _ hS.1)).trans hS.1, (World.cell?_alloc_lt W o _ (World.block_lt_of_cell? W _ hS.2.1)).trans hS.2.1, hS.2.2.alloc (Nat.le_trans hbase hS.2.2.size) o⟩
theorem undrew (h : W.drew.grownBy W' row) : W.grownBy W' row := ⟨h.os, h.tape, h.output, h.size, h.block⟩
theorem own_ents_two {v : Value} {out lo : List Ent} {e : Ent} (h : w.ownsRow base 102 2 v (out.length + lo.length + [e].length) (out.flatMap entC ++ lo.flatMap entC ++ [e].flatMap entC)) : OwnEnts w base v (out ++ lo ++ [e]) := by
  unfold OwnEnts
  rw [List.length_append, List.length_append, List.flatMap_append, List.flatMap_append]
  exact h
theorem beside_below (hS : W.cell? ⟨e0, 0, none⟩ = some x0 ∧ W.cell? ⟨e0, 1, none⟩ = some x1 ∧ Below base w W) : Below base w W := hS.2.2
theorem one_kept {t : ByteArray} {z : Int} {ty : TypeId} (hg : (W.alloc (.cells #[.string t, .int .i64 z] ty)).grownBy W' row) (hrow : row ≠ some W.heap.size) : Ents (W.heap.size + 1) W' (.slice (some ⟨W.heap.size, 0, none⟩) 1 1) [(t.data.toList, z)] :=
  Recs.other (one_ent W t z ty) (fun p hp => World.cell?_of_block (hg.block p.block (by rw [World.size_alloc, hp]; exact Nat.lt_succ_self _) (by rw [hp]; exact fun e => hrow e.symm)))
end
end Go.Proofs.YtmpjjfhmkfchfaaDoor.W06
/-
  Layer 8 (seek): what any code that goes paths uses: ents' Find in a directory's list tells what stands there; a node's own entry, once, in the list of its directory. Conditions: those that each theorem bears.
-/
namespace Go.Proofs.YtmpjjfhmkfchfaaDoor.W08
open Go Go.RowKit Go.Proofs.YtmpjjfhmkfchfaaDoor.Strs Go.Proofs.YtmpjjfhmkfchfaaDoor.Recs
open Go.Proofs.YtmpjjfhmkfchfaaDoor.M07 (Tr Nd nodeAt inDir Right listDir entOf at_some in_found mem_list)
open Go.Proofs.YtmpjjfhmkfchfaaDoor.M08
open Go.Proofs.YtmpjjfhmkfchfaaDoor.M06 (Ent)
open Go.Proofs.YtmpjjfhmkfchfaaDoor.W06 (Ents)
open Go.Proofs.YtmpjjfhmkfchfaaDoor.W07 (Small listed plainN find_in)

theorem listed_is {t : Tr} (h : Right t) (n : Int) : listed t n = listDir t.L n := by
  unfold listed
  split
  · rfl
  · rename_i hk
    symm
    rw [List.eq_nil_iff_forall_not_mem]
    intro e he
    obtain ⟨a, ha, e1, _, _⟩ := (mem_list h).1 he
    have := h.up a ha
    rw [e1] at this
    exact hk this
theorem find_near {t : Tr} (h : Right t) (d : Int) (s : Bytes) : M06.find (M06.all (listed t d)) s = (inDir t.L d s, decide (inDir t.L d s ≠ 0)) := by
  by_cases hd : (nodeAt t.L d).kind = 1
  · exact find_in h s hd
  · have e : inDir t.L d s = 0 := by
      by_cases h0 : inDir t.L d s = 0
      · exact h0
      · obtain ⟨a, ha, -, e2, -⟩ := in_found h0
        have := h.up a ha
        rw [e2] at this
        exact absurd this hd
    rw [e]
    unfold listed
    rw [if_neg hd]
    rfl
theorem listed_len {t : Tr} (hs : Small t) (d : Int) : (listed t d).length ≤ 1048576 := by
  have := hs.1
  unfold listed
  split
  · exact Nat.le_trans (M07.list_len _ _) this
  · exact Nat.zero_le _
/-- a node's own entry -/
theorem own_entry {t : Tr} (h : Right t) {n : Int} (hk : (nodeAt t.L n).kind ≠ 0) (h1 : n ≠ 1) : ∃ A B, listed t (nodeAt t.L n).up = A ++ ((nodeAt t.L n).name, n) :: B ∧ (∀ e ∈ A, e.2 ≠ n) ∧ ∀ e ∈ B, e.2 ≠ n := by
  have hm := at_some hk
  rw [listed_is h]
  have hin : ((nodeAt t.L n).name, n) ∈ listDir t.L (nodeAt t.L n).up := (mem_list h).2 ⟨_, hm.1, rfl, by rw [hm.2]; exact h1, by unfold entOf; rw [hm.2]⟩
  have hr := M07.list_rises t.L (nodeAt t.L n).up
  have hu : ∀ e ∈ listDir t.L (nodeAt t.L n).up, e.2 = n → e.1 = (nodeAt t.L n).name := by
    intro e he e2
    obtain ⟨a, ha, -, -, rfl⟩ := (mem_list h).1 he
    have e3 : a.num = n := e2
    have := h.at_ ha
    rw [e3] at this
    rw [this]; rfl
  obtain ⟨A, B, e⟩ := List.append_of_mem hin
  rw [e] at hr hu
  refine ⟨A, B, e, fun x hx e2 => ?_, fun x hx e2 => ?_⟩
  · have q := (List.pairwise_append.1 hr).2.2 x hx _ List.mem_cons_self
    rw [hu x (List.mem_append_left _ hx) e2] at q
    exact M03.lt_irrefl _ q
  · have q := (List.pairwise_cons.1 (List.pairwise_append.1 hr).2.1).1 x hx
    rw [hu x (List.mem_append_right _ (List.mem_cons_of_mem _ hx)) e2] at q
    exact M03.lt_irrefl _ q
theorem near_any {t : Tr} (h : Right t) (hs : Small t) (d : Int) (s : ByteArray) {u : Value} {w : World} (hu : Ents w.heap.size w u (listed t d)) : Calls Tryd.prog 36 #[u, .string s] w fun e w' => e = .returned (.tuple #[.int .i64 (inDir t.L d s.data.toList), .bool (decide (inDir t.L d s.data.toList ≠ 0))]) ∧ Below w.heap.size w w' := by
  have := W06.find_any _ _ w s hu (Nat.le_trans (listed_len hs d) (by decide))
  rw [find_near h] at this
  exact this
end Go.Proofs.YtmpjjfhmkfchfaaDoor.W08
/-
  Layer 7 (tree), walks: what the landed code's tree is in memory: a box with the map of nodes, each node's list of names; the calls that only look: node, Kind, Data, Up, Len, List. The bounds stand in the statements.
-/
namespace Go.Proofs.YtmpjjfhmkfchfaaDoor.W07
set_option maxRecDepth 100000
open Go Go.RowKit Go.Proofs.YtmpjjfhmkfchfaaDoor.Strs Go.Proofs.YtmpjjfhmkfchfaaDoor.Recs Go.Proofs.YtmpjjfhmkfchfaaDoor.M07 Go.Proofs.YtmpjjfhmkfchfaaDoor.Maps Go.Proofs.YtmpjjfhmkfchfaaDoor.Range
open Go.Proofs.YtmpjjfhmkfchfaaDoor.M06 (Ent)
open Go.Proofs.YtmpjjfhmkfchfaaDoor.W06 (Ents HandsE)
open Go.Proofs.YtmpjjfhmkfchfaaDoor.Kit (ret_str ret_bool ret_int mk_of mk_bytes ba_ext below_draws on)

/-- a node as the map holds it; v: its list of names -/
def nodV (x : Nod) (v : Value) : Value := .agg #[.int .i64 x.kind, .int .i64 x.up, .string ⟨x.data.toArray⟩, v]
def held (g : Int → Nod) (lv : Int → Value) (n : Int) : Option Value := if (g n).kind = 0 then none else some (nodV (g n) (lv n))
theorem key_under : Tryd.prog.underlying 3 = some (.int .i64) := Tryd.underlying3
theorem map_under : Tryd.prog.underlying 82 = some (.map 3 81) := Tryd.underlying82
theorem zero_node (w : World) : (zeroValue 81).run Tryd.prog w = .ok (.agg #[.int .i64 0, .int .i64 0, .string ⟨#[]⟩, .slice none 0 0]) w := by kernel_rfl
/-- the box of a tree -/
def RootBox (w : World) (sb mb : Nat) (last : Int) : Prop := w.heap[sb]? = some (.cells #[.map (some mb), .int .i64 last] 84 (0, 0))
section
variable {w w' : World} {sb mb : Nat} {last : Int}
theorem RootBox.lt (h : RootBox w sb mb last) : sb < w.heap.size := (Array.getElem?_eq_some_iff.1 h).1
theorem RootBox.c0 (h : RootBox w sb mb last) : w.cell? ⟨sb, 0, none⟩ = some (.map (some mb)) := cell_of_row w _ 0 _ _ (0, 0) h
theorem RootBox.c1 (h : RootBox w sb mb last) : w.cell? ⟨sb, 1, none⟩ = some (.int .i64 last) := cell_of_row w _ 1 _ _ (0, 0) h
theorem RootBox.fr (h : RootBox w sb mb last) (j : Nat) : w.frozen? ⟨sb, j, none⟩ = false := frozen_of_row w _ j _ _ h
theorem RootBox.count (h : RootBox w sb mb last) (n : Int) : RootBox (w.setCell ⟨sb, 1, none⟩ (.int .i64 n)) sb mb n := set_heap h 1 (.int .i64 n)
end
structure Mem (F : Nat → Prop) (w : World) (sb mb : Nat) (g : Int → Nod) (lv : Int → Value) (last : Int) (m : Nat) : Prop where
  box : RootBox w sb mb last
  fs : F sb
  fm : F mb
  low : ∀ k, F k → k < w.heap.size
  map : MapIs w Tryd.prog 3 mb (held g lv) m
  zero : ∀ n, (g n).kind = 0 → g n = nod0 ∧ lv n = .slice none 0 0
  list : ∀ n, Ents w.heap.size w (lv n) (g n).list
  at_ : ∀ n b o c d, 0 < (g n).list.length → lv n = .slice (some ⟨b, o, none⟩) c d → F b
/-- lists are no longer than nodes are many -/
def Short (g : Int → Nod) : Prop := ∀ n, (g n).list.length ≤ 1073741824

theorem ents_keep {B : Nat} {w w' : World} {v : Value} {L : List Ent} (h : Ents B w v L) (hk : ∀ b o c d, 0 < L.length → b < B → v = .slice (some ⟨b, o, none⟩) c d → w'.heap[b]? = w.heap[b]?) : Ents B w' v L := by
  obtain ⟨A, c, rfl, h1, h2⟩ := h.form
  rcases Nat.eq_zero_or_pos L.length with h0 | h0
  · obtain ⟨A', c', e, a1, a2, -⟩ := h
    exact ⟨A', c', e, a1, a2, fun hn => absurd hn (by omega)⟩
  · obtain ⟨b, o, hl, rfl, hb, -⟩ := Recs.flat_ h W06.entC_len (by omega) h0
    exact Recs.other h fun p hp => World.cell?_of_block (by rw [hp]; exact hk b o _ _ h0 hb rfl)
section
variable {F F' : Nat → Prop} {w w' : World} {sb mb : Nat} {g : Int → Nod} {lv : Int → Value} {last : Int} {m : Nat}
theorem Mem.keep (h : Mem F w sb mb g lv last m) (hk : ∀ k, F k → w'.heap[k]? = w.heap[k]?) (hs : w.heap.size ≤ w'.heap.size) : Mem F w' sb mb g lv last m where
  box := (hk _ h.fs).trans h.box
  fs := h.fs
  fm := h.fm
  low := fun k hf => Nat.lt_of_lt_of_le (h.low k hf) hs
  map := h.map.keep (hk _ h.fm)
  zero := h.zero
  list := fun n => (ents_keep (h.list n) fun b o c d e0 _ e => hk b (h.at_ n b o c d e0 e)).more hs
  at_ := h.at_
theorem Mem.below (h : Mem F w sb mb g lv last m) (hb : Below w.heap.size w w') : Mem F w' sb mb g lv last m := h.keep (fun k hf => hb.block k (h.low k hf)) hb.size
theorem Mem.alloc (h : Mem F w sb mb g lv last m) (o : Obj) : Mem F (w.alloc o) sb mb g lv last m := h.below ((Below.refl _ _).alloc (Nat.le_refl _) o)
theorem Mem.look (h : Mem F w sb mb g lv last m) (n : Int) : (held g lv n).getD (.agg #[.int .i64 0, .int .i64 0, .string ⟨#[]⟩, .slice none 0 0]) = nodV (g n) (lv n) := by
  unfold held
  split
  · rename_i e
    obtain ⟨e1, e2⟩ := h.zero n e
    rw [e1, e2]; rfl
  · rfl
theorem Mem.form (h : Mem F w sb mb g lv last m) (n : Int) : ∃ A c, lv n = .slice A (g n).list.length c := by
  obtain ⟨A, c, e, -, -⟩ := (h.list n).form
  exact ⟨A, c, e⟩
theorem ret_node {e : Ending} {v : Value} {x : Nod} {u : Value} {Q : Prop} (he : e = .returned (nodV x u)) (hv : u = v) (hQ : Q) : e = .returned (nodV x v) ∧ Q := by subst hv; exact ⟨he, hQ⟩
set_option maxHeartbeats 1000000 in
theorem node_any (h : Mem F w sb mb g lv last m) (n : Int) : Calls Tryd.prog 55 #[.pointer (some ⟨sb, 0, none⟩), .int .i64 n] w fun e w' => e = .returned (nodV (g n) (lv n)) ∧ Below w.heap.size w w' := by
  have HM := Lib.hid (h.map.alloc (.cells #[.int .i64 0, .int .i64 0, .string ⟨#[]⟩, .slice none 0 0] 81))
  have HL := Lib.hid (h.look n)
  have c0 := h.box.c0
  have hlt := h.box.lt
  obtain ⟨A, c, e⟩ := h.form n
  rw [e]
  rw [e] at HL
  generalize (g n).list.length = k at *
  obtain ⟨x, hx⟩ : ∃ x, g n = x := ⟨_, rfl⟩
  rw [hx] at HL
  rw [hx]
  clear e hx h
  go_enter Tryd.func55, Tryd.ntmps55
  go_wp2_with (at_lookup; refine wpList_look _ rfl _ _ 82 rfl 3 81 key_under map_under (zero_node _) mb m (held g lv) rfl HM.out n rfl (.agg #[.int .i64 x.kind, .int .i64 x.up, .string ⟨x.data.toArray⟩, .slice A k c]) HL.out ?_)
  refine bodyPost_ret_by (v := nodV x (.slice A k c)) ?_ rfl ⟨rfl, ?_⟩
  · rw [results_cell_one rfl]
    go_simp
    rfl
  · exact (Below.refl _ _).alloc (Nat.le_refl _) _
theorem nod_kind (a b : Int) (c : ByteArray) (A : Option Addr) (n k : Nat) (w : World) : (Instr.field 81 (.agg #[.int .i64 a, .int .i64 b, .string c, .slice A n k]) 0).run Tryd.prog w = .ok (.int .i64 a) w := by kernel_rfl
theorem nod_up (a b : Int) (c : ByteArray) (A : Option Addr) (n k : Nat) (w : World) : (Instr.field 81 (.agg #[.int .i64 a, .int .i64 b, .string c, .slice A n k]) 1).run Tryd.prog w = .ok (.int .i64 b) w := by kernel_rfl
theorem nod_data (a b : Int) (c : ByteArray) (A : Option Addr) (n k : Nat) (w : World) : (Instr.field 81 (.agg #[.int .i64 a, .int .i64 b, .string c, .slice A n k]) 2).run Tryd.prog w = .ok (.string c) w := by kernel_rfl
theorem nod_list (a b : Int) (c : ByteArray) (A : Option Addr) (n k : Nat) (w : World) : (Instr.field 81 (.agg #[.int .i64 a, .int .i64 b, .string c, .slice A n k]) 3).run Tryd.prog w = .ok (.slice A n k) w := by kernel_rfl
/-- node's result, written out -/
theorem Mem.node_ (h : Mem F w sb mb g lv last m) (n : Int) : ∃ A c, lv n = .slice A (g n).list.length c ∧ Calls Tryd.prog 55 #[.pointer (some ⟨sb, 0, none⟩), .int .i64 n] w fun e w' => e = .returned (.agg #[.int .i64 (g n).kind, .int .i64 (g n).up, .string ⟨(g n).data.toArray⟩, .slice A (g n).list.length c]) ∧ Below w.heap.size w w' := by
  obtain ⟨A, c, e⟩ := h.form n
  have := node_any h n
  rw [e] at this
  exact ⟨A, c, e, this⟩
set_option maxHeartbeats 1000000 in
theorem kind_any (h : Mem F w sb mb g lv last m) (n : Int) : Calls Tryd.prog 31 #[.pointer (some ⟨sb, 0, none⟩), .int .i64 n] w fun e w' => e = .returned (.int .i64 (g n).kind) ∧ Below w.heap.size w w' := by
  obtain ⟨A, c, -, hc⟩ := h.node_ n
  have HC := Lib.hid hc
  have hf := nod_kind (g n).kind (g n).up ⟨(g n).data.toArray⟩ A (g n).list.length c
  clear hc h
  go_enter Tryd.func31, Tryd.ntmps31
  go_wp2_with fail
  refine HC.out.mono ?_
  rintro e w1 ⟨rfl, hb⟩
  go_wp2_with fail
  go_ret
  exact ⟨rfl, hb⟩
set_option maxHeartbeats 1000000 in
theorem up_any (h : Mem F w sb mb g lv last m) (n : Int) : Calls Tryd.prog 32 #[.pointer (some ⟨sb, 0, none⟩), .int .i64 n] w fun e w' => e = .returned (.int .i64 (g n).up) ∧ Below w.heap.size w w' := by
  obtain ⟨A, c, -, hc⟩ := h.node_ n
  have HC := Lib.hid hc
  have hf := nod_up (g n).kind (g n).up ⟨(g n).data.toArray⟩ A (g n).list.length c
  clear hc h
  go_enter Tryd.func32, Tryd.ntmps32
  go_wp2_with fail
  refine HC.out.mono ?_
  rintro e w1 ⟨rfl, hb⟩
  go_wp2_with fail
  go_ret
  exact ⟨rfl, hb⟩
set_option maxHeartbeats 1000000 in
theorem data_any (h : Mem F w sb mb g lv last m) (n : Int) : Calls Tryd.prog 50 #[.pointer (some ⟨sb, 0, none⟩), .int .i64 n] w fun e w' => e = .returned (.string ⟨(g n).data.toArray⟩) ∧ Below w.heap.size w w' := by
  obtain ⟨A, c, -, hc⟩ := h.node_ n
  have HC := Lib.hid hc
  have hf := nod_data (g n).kind (g n).up ⟨(g n).data.toArray⟩ A (g n).list.length c
  clear hc h
  go_enter Tryd.func50, Tryd.ntmps50
  go_wp2_with fail
  refine HC.out.mono ?_
  rintro e w1 ⟨rfl, hb⟩
  go_wp2_with fail
  go_ret
  exact ⟨rfl, hb⟩
theorem is_nil (n c : Nat) (w : World) : (binOp BinOp.eql 75 (.slice none n c) (.slice none 0 0)).run Tryd.prog w = .ok (.bool true) w := by kernel_rfl
theorem is_some (ad : Addr) (n c : Nat) (w : World) : (binOp BinOp.eql 75 (.slice (some ad) n c) (.slice none 0 0)).run Tryd.prog w = .ok (.bool false) w := by kernel_rfl
set_option maxHeartbeats 1000000 in
set_option maxRecDepth 100000 in
theorem clone_any (v : Value) (L : List Ent) (h : Ents w.heap.size w v L) (hn : L.length ≤ 1099511627776) : Calls Tryd.prog 61 #[v] w (W06.HandsN w L) := by
  obtain ⟨A, c, rfl, -, -⟩ := h.form
  cases A with
  | none =>
    have h0 : L = [] := by
      rcases Nat.eq_zero_or_pos L.length with h0 | h0
      · exact List.length_eq_zero_iff.1 h0
      · obtain ⟨b, o, hl, e, -⟩ := Recs.flat_ h W06.entC_len (by omega) h0
        cases e
    subst h0
    have hnil := is_nil 0 c
    go_enter Tryd.func61, Tryd.ntmps61
    go_wp2_with fail
    go_ret
    exact ⟨.slice none 0 0, rfl, recs_nil _ _ _ _, (fun b o n c e => by cases e), Below.refl _ _⟩
  | some ad =>
    have H := Lib.hid h
    have hnil := is_some ad L.length c
    clear h
    go_enter Tryd.func61, Tryd.ntmps61
    obtain ⟨i0, hi, hz0, hz1, hz2⟩ := info_parts W06.ent_info
    have hown : (w.alloc (.cells #[] 102)).ownsRow w.heap.size 102 2 (.slice (some ⟨w.heap.size, 0, none⟩) 0 0) 0 [] :=
      ⟨rfl, Or.inr ⟨w.heap.size, 0, #[], rfl, Nat.le_refl _, by show (w.heap.push _)[w.heap.size]? = _; simp, Nat.zero_le _, Nat.zero_le _, rfl, by simp⟩⟩
    have OW := Lib.hid hown
    clear hown
    go_wp2_with (at_builtin; refine wpList_append_recs rfl (.tmp 5) (.tmp 6) 75 rfl w.heap.size 102 i0 (.agg #[.string ⟨#[]⟩, .int .i64 0]) 2 24 Tryd.underlying75 hi hz0 hz1 hz2 rfl (by decide) _ _ _ rfl OW.out _ L w.heap.size rfl (H.out.alloc (Nat.le_refl _) _) W06.entC_len W06.entC_one (by unfold maxLen; omega) (by omega) (by simp) ?_; intro v1 w2 hown1 hg2 _)
    have O2 : Hid (W06.OwnEnts w2 w.heap.size v1 L) := W06.own_ents_all (out := []) hown1
    have B2 : Hid (Below w.heap.size w w2) := ((Below.refl w.heap.size w).alloc (Nat.le_refl _) _).grown hg2 (by simp) (fun k hk => (OW.out.lt k hk).1)
    clear hown1 hg2 OW hi hz0 hz1 hz2
    go_wp2
    go_ret
    exact ⟨v1, rfl, O2.out.reads, W06.own_new O2.out (Nat.le_refl _), B2.out⟩
set_option maxHeartbeats 1000000 in
theorem list_any (h : Mem F w sb mb g lv last m) (n : Int) (hn : (g n).list.length ≤ 1099511627776) : Calls Tryd.prog 37 #[.pointer (some ⟨sb, 0, none⟩), .int .i64 n] w (W06.HandsN w (g n).list) := by
  obtain ⟨A, c, e, hc⟩ := h.node_ n
  have hE := h.list n
  rw [e] at hE
  have HCL := Lib.hid (fun (w' : World) (hb : Below w.heap.size w w') => clone_any (.slice A (g n).list.length c) (g n).list ((hE.below hb).more hb.size) hn)
  have HC := Lib.hid hc
  have hf := nod_list (g n).kind (g n).up ⟨(g n).data.toArray⟩ A (g n).list.length c
  clear hc h e hE
  generalize (g n).list = L at *
  go_enter Tryd.func37, Tryd.ntmps37
  go_wp2_with fail
  refine HC.out.mono ?_
  rintro e w1 ⟨rfl, hb⟩
  have HCL := Lib.hid (HCL.out w1 hb)
  have B1 := Lib.hid hb
  have hs1 := hb.size
  clear hb
  go_wp2_with fail
  refine HCL.out.mono ?_
  rintro e w2 ⟨u, rfl, hu, hnew, hb⟩
  have U := Lib.hid hu
  have N := Lib.hid hnew
  have B2 := Lib.hid (on B1.out hb)
  clear hu hnew hb
  go_wp2
  go_ret
  exact ⟨u, rfl, U.out, fun b o n c e => Nat.le_trans hs1 (N.out b o n c e), B2.out⟩
end

/-! what the calls that write do to the box, the map and the lists -/
theorem cell_not_map {w : World} {b : Nat} {es : Array MapEntry} {clock : Nat} (h : w.heap[b]? = some (.map es clock)) (o : Nat) (s : Option Nat) : w.cell? ⟨b, o, s⟩ = none := by simp [World.cell?, h]
theorem ents_turn {B : Nat} {w w' : World} {v : Value} {L : List Ent} {mb : Nat} {es : Array MapEntry} {clock : Nat} (h : Ents B w v L) (hm : w.heap[mb]? = some (.map es clock)) (hg : w.grownBy w' (some mb)) : Ents B w' v L := by
  obtain ⟨A, c, e, h1, h2, h3⟩ := h
  refine ⟨A, c, e, h1, h2, fun hn => ?_⟩
  obtain ⟨ad, e2, hb, hc⟩ := h3 hn
  refine ⟨ad, e2, hb, fun k hk j hj => ?_⟩
  have := hc k hk j hj
  have hlt : j < (W06.entC L[k]).length := hj
  rw [List.getElem?_eq_getElem hlt] at this ⊢
  refine hg.cell this fun e => ?_
  have e : (ad.add (k * 2 + j)).block = mb := by injection e
  have hz := cell_not_map hm (ad.add (k * 2 + j)).off (ad.add (k * 2 + j)).spot
  rw [← e] at hz
  rw [show (⟨(ad.add (k * 2 + j)).block, (ad.add (k * 2 + j)).off, (ad.add (k * 2 + j)).spot⟩ : Addr) = ad.add (k * 2 + j) from rfl, this] at hz
  cases hz
theorem narrow {F : Nat → Prop} {w w' : World} (h : Turns (fun k => F k ∨ w.heap.size ≤ k) w w') : Turns F w w' :=
  ⟨h.os, h.tape, h.output, h.size, fun i hi ht => h.block i hi (by rintro (e | e); exact ht e; omega)⟩
/-- what is new, beside F, from B on -/
def More (F : Nat → Prop) (B : Nat) (w : World) (k : Nat) : Prop := F k ∨ (B ≤ k ∧ k < w.heap.size)
section
variable {F F' : Nat → Prop} {w w' : World} {sb mb : Nat} {g : Int → Nod} {lv : Int → Value} {last : Int} {m m' : Nat}
theorem Mem.wider (h : Mem F w sb mb g lv last m) (hs : ∀ k, F k → F' k) (hl : ∀ k, F' k → k < w.heap.size) : Mem F' w sb mb g lv last m where
  box := h.box
  fs := hs _ h.fs
  fm := hs _ h.fm
  low := hl
  map := h.map
  zero := h.zero
  list := h.list
  at_ := fun n b o c d e0 e => hs _ (h.at_ n b o c d e0 e)
theorem Mem.more (h : Mem F w sb mb g lv last m) (B : Nat) : Mem (More F B w) w sb mb g lv last m := h.wider (fun _ => Or.inl) (by rintro k (hk | hk); exact h.low k hk; exact hk.2)
theorem Mem.apart (h : Mem F w sb mb g lv last m) : sb ≠ mb := by
  intro e
  obtain ⟨es, clock, hm⟩ := h.map.at_
  have := h.box
  unfold RootBox at this
  rw [e, hm] at this
  cases this
theorem held_upd {n : Int} {x : Nod} {u : Value} (hx : x.kind ≠ 0) (i : Int) : upd (held g lv) n (some (nodV x u)) i = held (upd g n x) (upd lv n u) i := by
  unfold upd held
  by_cases e : i = n
  · subst e; simp [hx]
  · simp [e]
theorem held_none {n : Int} (i : Int) : upd (held g lv) n none i = held (upd g n nod0) (upd lv n (.slice none 0 0)) i := by
  unfold upd held
  by_cases e : i = n
  · subst e; simp [nod0]
  · simp [e]
/-- the box, and each list, while the map alone turns -/
theorem Mem.turned (h : Mem F w sb mb g lv last m) {n : Int} {x : Nod} {u : Value} (hz : x.kind = 0 → x = nod0 ∧ u = .slice none 0 0) (hu : Ents w.heap.size w u x.list) (hF : ∀ b o c d, 0 < x.list.length → u = .slice (some ⟨b, o, none⟩) c d → F b)
    (hmap : MapIs w' Tryd.prog 3 mb (held (upd g n x) (upd lv n u)) m') (hg : w.grownBy w' (some mb)) : Mem F w' sb mb (upd g n x) (upd lv n u) last m' where
  box := (hg.block sb h.box.lt (by intro e; injection e with e; exact h.apart e)).trans h.box
  fs := h.fs
  fm := h.fm
  low := fun k hk => Nat.lt_of_lt_of_le (h.low k hk) hg.size
  map := hmap
  zero := fun i hi => by
    unfold upd at hi ⊢
    by_cases e : i = n
    · rw [if_pos e] at hi ⊢; rw [if_pos e]; exact hz hi
    · rw [if_neg e] at hi ⊢; rw [if_neg e]; exact h.zero i hi
  list := fun i => by
    obtain ⟨es, clock, hm⟩ := h.map.at_
    unfold upd
    by_cases e : i = n
    · rw [if_pos e, if_pos e]; exact (ents_turn hu hm hg).more hg.size
    · rw [if_neg e, if_neg e]; exact (ents_turn (h.list i) hm hg).more hg.size
  at_ := fun i b o c d => by
    unfold upd
    by_cases e : i = n
    · rw [if_pos e, if_pos e]; exact hF b o c d
    · rw [if_neg e, if_neg e]; exact h.at_ i b o c d
theorem Mem.stored (h : Mem F w sb mb g lv last m) {n : Int} {x : Nod} {u : Value} (hx : x.kind ≠ 0) (hu : Ents w.heap.size w u x.list) (hF : ∀ b o c d, 0 < x.list.length → u = .slice (some ⟨b, o, none⟩) c d → F b)
    (hmap : MapIs w' Tryd.prog 3 mb (upd (held g lv) n (some (nodV x u))) m') (ht : w.mapTurned w' mb) : Mem F w' sb mb (upd g n x) (upd lv n u) last m' :=
  h.turned (fun e => absurd e hx) hu hF (hmap.as (held_upd hx) rfl) ht.grown
theorem Mem.dropped (h : Mem F w sb mb g lv last m) {n : Int} (hmap : MapIs w' Tryd.prog 3 mb (upd (held g lv) n none) m') (ht : w.mapTurned w' mb) : Mem F w' sb mb (upd g n nod0) (upd lv n (.slice none 0 0)) last m' :=
  h.turned (fun _ => ⟨rfl, rfl⟩) (recs_nil _ _ _ _) (fun b o c d _ e => by cases e) (hmap.as held_none rfl) ht.grown
theorem Mem.some_ (_h : Mem F w sb mb g lv last m) {n : Int} (hn : (g n).kind ≠ 0) : held g lv n = some (nodV (g n) (lv n)) := by unfold held; rw [if_neg hn]
theorem Mem.wf (h : Mem F w sb mb g lv last m) {n : Int} (hn : (g n).kind ≠ 0) : (Lit.int .i64 n).wf = true := h.map.wf key_under (h.some_ hn)
theorem turned_turns {T : Nat → Prop} (ht : w.mapTurned w' mb) (hT : T mb) : Turns T w w' := Turns.of_grown ht.grown (fun r e => by cases e; exact hT)
theorem drew_turns (T : Nat → Prop) (w : World) : Turns T w w.drew := ⟨rfl, rfl, rfl, Nat.le_refl _, fun _ _ _ => rfl⟩
/-- a box of a node -/
def NodBox (w : World) (p : Nat) (x : Nod) (u : Value) : Prop := w.heap[p]? = some (.cells #[.int .i64 x.kind, .int .i64 x.up, .string ⟨x.data.toArray⟩, u] 81 (0, 0))
variable {p : Nat} {x : Nod} {u : Value}
theorem NodBox.lt (h : NodBox w p x u) : p < w.heap.size := (Array.getElem?_eq_some_iff.1 h).1
theorem NodBox.below (h : NodBox w p x u) (hb : Below w.heap.size w w') : NodBox w' p x u := (hb.block _ h.lt).trans h
theorem NodBox.new (w : World) (x : Nod) (u : Value) : NodBox (w.alloc (.cells #[.int .i64 x.kind, .int .i64 x.up, .string ⟨x.data.toArray⟩, u] 81)) w.heap.size x u := heap_top _ _
theorem NodBox.c0 (h : NodBox w p x u) : w.cell? ⟨p, 0, none⟩ = some (.int .i64 x.kind) := cell_of_row w _ 0 _ _ (0, 0) h
theorem NodBox.c1 (h : NodBox w p x u) : w.cell? ⟨p, 1, none⟩ = some (.int .i64 x.up) := cell_of_row w _ 1 _ _ (0, 0) h
theorem NodBox.c2 (h : NodBox w p x u) : w.cell? ⟨p, 2, none⟩ = some (.string ⟨x.data.toArray⟩) := cell_of_row w _ 2 _ _ (0, 0) h
theorem NodBox.c3 (h : NodBox w p x u) : w.cell? ⟨p, 3, none⟩ = some u := cell_of_row w _ 3 _ _ (0, 0) h
theorem NodBox.fr (h : NodBox w p x u) (j : Nat) : w.frozen? ⟨p, j, none⟩ = false := frozen_of_row w _ j _ _ h
theorem NodBox.set3 (h : NodBox w p x u) (L : List Ent) (u' : Value) : NodBox (w.setCell ⟨p, 3, none⟩ u') p { x with list := L } u' := set_heap h 3 u'
theorem NodBox.set1 (h : NodBox w p x u) (d : Int) : NodBox (w.setCell ⟨p, 1, none⟩ (.int .i64 d)) p { x with up := d } u := set_heap h 1 (.int .i64 d)
theorem NodBox.set2 (h : NodBox w p x u) (s : ByteArray) : NodBox (w.setCell ⟨p, 2, none⟩ (.string s)) p { x with data := s.data.toList } u := by
  have h2 := set_heap h 2 (.string s)
  have e : (⟨s.data.toList.toArray⟩ : ByteArray) = s := mk_bytes s
  unfold NodBox
  rw [e]
  exact h2
end
end Go.Proofs.YtmpjjfhmkfchfaaDoor.W07
