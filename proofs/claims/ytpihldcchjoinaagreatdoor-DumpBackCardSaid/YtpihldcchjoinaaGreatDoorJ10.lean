/-
  Texts joined, in build order, each with its own comment and its own conditions: W06Concat, W06Code, W08Near.
-/
import Derived.Test.YtpihldcchjoinaaGreatDoorJ09
import Derived.Test.YtpihldcchjoinaaGreatDoorJ04
import Derived.Lib.AppendZeros
import Derived.Lib.Walk
import Derived.Deep.RegionHeld3
import Derived.Test.YtpihldcchjoinaaGreatDoorJ08
/-
  Walks of Go's library on slices of entries: slices.Grow of nil, slices.Concat: all the entries, one slice behind the other, in new memory; nothing that was there is changed. The conditions stand in the statements.
-/
namespace Go.Proofs.YtpihldcchjoinaaGreatDoor.W06
set_option maxRecDepth 100000
open Go Go.RowKit Go.Proofs.YtpihldcchjoinaaGreatDoor.Strs Go.Proofs.YtpihldcchjoinaaGreatDoor.Recs Go.Proofs.YtpihldcchjoinaaGreatDoor.M06
open Go.Proofs.YtpihldcchjoinaaGreatDoor.Kit (ret_str ret_bool ret_int mk_of mk_bytes ba_ext below_draws on)

theorem entC_one (r : Ent) : ∀ c ∈ entC r, c.oneCell' = true := by intro c hc; simp [entC, strV] at hc; rcases hc with rfl | rfl <;> rfl
theorem grow_none (n : Nat) (w : World) (hn : n ≤ 4398046511104) :
    Calls Tryz.prog 130 #[.slice none 0 0, .int .i64 n] w (MakesE w []) := by
  obtain ⟨i0, hi, hz0, hz1, hz2⟩ := info_parts ent_info
  have h1 : ¬ ((n : Int) < 0) := by omega
  rcases Nat.eq_zero_or_pos n with h0 | h0
  · subst h0
    go_enter Tryz.func130, Tryz.ntmps130
    go_wp2_with fail
    go_ret
    exact ⟨_, rfl, own_ents_nil _ _, Below.refl _ _⟩
  · have HR := Lib.hid (fun ty => Lib.run_append_nil_zeros (P := Tryz.prog) w 89 3 ty 114 i0 (.agg #[.string ⟨#[]⟩, .int .i64 0]) .i64 .i64 Tryz.underlying89 Tryz.underlying3 hi hz0 n h0 (by rw [hz1]; omega) (by omega) (by rw [hz2]; omega))
    have hG1 := grownCap_ge w n 0 114
    have hG2 := grownCap_le_maxLen w n 0 114 (by unfold maxLen; omega)
    generalize grownCap w n 0 114 = G at *
    have HZ : Hid ((Builtin.zeroCells (Value.agg #[.string ⟨#[]⟩, .int .i64 0]).cells n ++ Builtin.zeroCells (Value.agg #[.string ⟨#[]⟩, .int .i64 0]).cells (G - n)).size = G * 2) := by
      show _ = _
      simp [Builtin.zeroCells]
      rw [show (Value.agg #[.string ⟨#[]⟩, .int .i64 0]).cells.size = 2 from rfl]
      omega
    unfold maxLen at hG2
    generalize Builtin.zeroCells (Value.agg #[.string ⟨#[]⟩, .int .i64 0]).cells n ++ Builtin.zeroCells (Value.agg #[.string ⟨#[]⟩, .int .i64 0]).cells (G - n) = Z at *
    go_enter Tryz.func130, Tryz.ntmps130
    go_wp2_with (at_builtin; refine Lib.wpList_append_run _ rfl _ _ _ _ rfl _ _ rfl rfl _ _ (HR.out _) ?_)
    go_ret
    refine ⟨_, rfl, ⟨rfl, Or.inr ⟨w.heap.size, G, Z, rfl, Nat.le_refl _, ?_, Nat.zero_le _, ?_, HZ.out, by simp⟩⟩, ?_⟩
    · show (w.heap.push _)[w.heap.size]? = _
      simp
    · unfold maxLen; omega
    · exact ((Below.refl w.heap.size w).alloc (Nat.le_refl _) _).drew
/-- a row of slices of entries -/
def Lists (B : Nat) (w : World) (b o : Nat) (Ls : List (List Ent)) : Prop := ∀ j (h : j < Ls.length), ∃ A c, w.cell? ⟨b, o + j, none⟩ = some (.slice A (Ls[j]).length c) ∧ Ents B w (.slice A (Ls[j]).length c) Ls[j]
theorem Lists.below {B : Nat} {w w' : World} {b o : Nat} {Ls : List (List Ent)} (h : Lists B w b o Ls) (hb : b < B) (hw : Below B w w') : Lists B w' b o Ls := fun j hj => by
  obtain ⟨A, c, h1, h2⟩ := h j hj
  exact ⟨A, c, by rw [hw.cell hb]; exact h1, h2.below hw⟩
theorem flat_next {Ls : List (List Ent)} {k : Nat} (hk : k < Ls.length) : (Ls.take (k + 1)).flatten = (Ls.take k).flatten ++ Ls[k] := by
  rw [List.take_succ_eq_append_getElem hk, List.flatten_append]; simp
theorem flat_all {Ls : List (List Ent)} {k : Nat} (hk : ¬ k < Ls.length) : (Ls.take k).flatten = Ls.flatten := by rw [List.take_of_length_le (by omega)]
theorem flat_upto (Ls : List (List Ent)) (k : Nat) : (Ls.take k).flatten.length ≤ Ls.flatten.length := by
  have : Ls.flatten = (Ls.take k).flatten ++ (Ls.drop k).flatten := by rw [← List.flatten_append, List.take_append_drop]
  rw [this, List.length_append]; omega
theorem own_ents_all {w : World} {base : Nat} {v : Value} {out L : List Ent} (h : w.ownsRow base 114 2 v (out.length + L.length) (out.flatMap entC ++ L.flatMap entC)) : OwnEnts w base v (out ++ L) := by
  unfold OwnEnts
  rw [List.length_append, List.flatMap_append]
  exact h
set_option maxHeartbeats 1000000 in
theorem concat_any (b o m cap B : Nat) (Ls : List (List Ent)) (w : World) (hm : Ls.length = m) (hL : Lists B w b o Ls) (hb : b < B) (hB : B ≤ w.heap.size) (hm2 : m ≤ 1099511627776) (ht : Ls.flatten.length ≤ 4398046511104) :
    Calls Tryz.prog 109 #[.slice (some ⟨b, o, none⟩) m cap] w (MakesE w Ls.flatten) := by
  obtain ⟨i0, hi, hz0, hz1, hz2⟩ := info_parts ent_info
  have H := Lib.hid hL
  have HM := Lib.hid hm
  clear hL hm
  have HI := Lib.hid hi
  go_enter Tryz.func109, Tryz.ntmps109
  go_wp2_with fail
  go_loopw [3, 11] (fun u i wr => ∃ k z : Nat, k ≤ m ∧ i = .int .i64 k ∧ u = .int .i64 z ∧ Hid (z = (Ls.take k).flatten.length) ∧ wr = w) (fun _ i _ => m - (intOf i).toNat)
  case atStart => exact ⟨0, 0, Nat.zero_le _, rfl, rfl, rfl, rfl⟩
  case round =>
    obtain ⟨k, z, hk, rfl, rfl, hz, hwr⟩ := hrel
    have hwr := hwr.symm
    subst hwr
    by_cases hlt : k < m
    · have hk2 : k < Ls.length := by rw [HM.out]; exact hlt
      obtain ⟨A, c, hc, hE⟩ := H.out k hk2
      have hup := flat_upto Ls (k + 1)
      rw [flat_next hk2, List.length_append, ← hz.out] at hup
      have HZ : Hid (z + (Ls[k]).length = (Ls.take (k + 1)).flatten.length) := by show _ = _; rw [flat_next hk2, List.length_append, ← hz.out]
      clear hE
      generalize (Ls[k]).length = n at *
      have h0 : ¬ ((z : Int) + (n : Int) < 0) := by omega
      go_wp2_with fail
      go_roundw
      case rel => exact ⟨k + 1, z + n, by omega, by go_num, by go_num, HZ, by trivial⟩
      case measure => simp [intOf]; omega
    · have HZ : Hid (z = Ls.flatten.length) := hz.out.trans (by rw [flat_all (by rw [HM.out]; exact hlt)])
      have hzz : z ≤ 4398046511104 := by rw [HZ.out]; exact ht
      go_wp2_with fail
      refine (grow_none z w hzz).mono ?_
      rintro e w1 ⟨u, rfl, hu, hb1⟩
      have U := Lib.hid hu
      have B1 := Lib.hid hb1
      clear hu hb1
      clear hzz HZ hz
      go_wp2_with fail
      go_loopw [6, 27] (fun u i wr => ∃ k : Nat, k ≤ m ∧ i = .int .i64 k ∧ Hid (OwnEnts wr w.heap.size u (Ls.take k).flatten) ∧ Below w.heap.size w wr) (fun _ i _ => m - (intOf i).toNat)
      case atStart => exact ⟨0, Nat.zero_le _, rfl, U.out, B1.out⟩
      case round =>
        clear U B1
        obtain ⟨k, hk, rfl, hown, hb1⟩ := hrel
        have hbs := hb1.size
        by_cases hlt : k < m
        · have hk2 : k < Ls.length := by rw [HM.out]; exact hlt
          obtain ⟨A, c, hc, hE⟩ := (H.out.below hb (hb1.mono hB)) k hk2
          have hup := flat_upto Ls (k + 1)
          have HN := Lib.hid (flat_next hk2)
          rw [HN.out, List.length_append] at hup
          have HE := Lib.hid hE
          have HT := Lib.hid ht
          clear hE ht
          generalize (Ls.take k).flatten = out at *
          generalize Ls[k] = L at *
          have a1 : out.length + L.length ≤ maxLen := by have := HT.out; unfold maxLen; omega
          have a2 : (out.length + L.length) * 24 ≤ 140737488355328 := by have := HT.out; omega
          go_wp2_with (at_builtin; refine wpList_append_recs rfl (.tmp 31) (.tmp 32) 89 rfl w.heap.size 114 i0 (.agg #[.string ⟨#[]⟩, .int .i64 0]) 2 24 Tryz.underlying89 HI.out hz0 hz1 hz2 rfl (by decide) _ _ _ rfl hown.out _ L B rfl HE.out entC_len entC_one a1 a2 hbs ?_; intro v1 w2 hown1 hg2 _)
          have O2 := Lib.hid (own_ents_all hown1)
          have B2 := Lib.hid (hb1.grown hg2 hbs (fun k hk => (hown.out.lt k hk).1))
          clear hown1 hg2 a1 a2
          rw [← HN.out] at O2
          go_wp2
          go_roundw
          case rel => exact ⟨k + 1, by omega, by go_num, O2, B2.out⟩
          case measure => simp [intOf]; omega
        · have HX := Lib.hid (flat_all (Ls := Ls) (k := k) (by rw [HM.out]; exact hlt))
          rw [HX.out] at hown
          go_wp2_with fail
          go_ret
          exact ⟨_, rfl, hown.out, hb1⟩
end Go.Proofs.YtpihldcchjoinaaGreatDoor.W06
/-
  Layer 6 (ents), walks: what the landed Right, Find, Put, Cut, Names, Merge and Next return; new memory may be laid, nothing that was there is changed. The bounds on the lists stand in the statements.
-/
namespace Go.Proofs.YtpihldcchjoinaaGreatDoor.W06
set_option maxRecDepth 100000
open Go Go.RowKit Go.Proofs.YtpihldcchjoinaaGreatDoor.Strs Go.Proofs.YtpihldcchjoinaaGreatDoor.Recs Go.Proofs.YtpihldcchjoinaaGreatDoor.M06
open Go.Proofs.YtpihldcchjoinaaGreatDoor.Kit (ret_str ret_bool ret_int mk_of mk_bytes ba_ext below_draws on)

/-- entries are handed out that lie in new memory -/
def HandsN (w : World) (L : List Ent) (e : Ending) (w' : World) : Prop := ∃ v, e = .returned v ∧ Ents w'.heap.size w' v L ∧ (∀ b o n c, v = .slice (some ⟨b, o, none⟩) n c → w.heap.size ≤ b) ∧ Below w.heap.size w w'
theorem own_new {w : World} {base B : Nat} {v : Value} {L : List Ent} (h : OwnEnts w base v L) (hB : B ≤ base) : ∀ b o n c, v = .slice (some ⟨b, o, none⟩) n c → B ≤ b := by
  rintro b o n c rfl
  exact Nat.le_trans hB (h.lt b rfl).1
theorem hands_of_new {w w' : World} {L : List Ent} {e : Ending} (h : HandsN w L e w') : HandsE w L e w' := by
  obtain ⟨v, he, hu, -, hb⟩ := h
  exact ⟨v, he, hu, hb⟩
/-- what a call returns that hands out texts -/
def HandsT (w : World) (L : List (List UInt8)) (e : Ending) (w' : World) : Prop := ∃ v, e = .returned v ∧ Texts w'.heap.size w' v L ∧ Below w.heap.size w w'
theorem draws_below {w w' : World} {e : Ending} {v : Value} (h : e = .returned v ∧ ∃ n, w' = w.drewN n) : e = .returned v ∧ Below w.heap.size w w' := by
  obtain ⟨he, n, hw⟩ := h
  exact ⟨he, by rw [hw]; exact below_draws _ _⟩
theorem none_form {B : Nat} {w : World} {v : Value} (h : Ents B w v []) : ∃ A c, v = .slice A 0 c := by
  obtain ⟨A, c, rfl, -, -⟩ := h.form
  exact ⟨A, c, rfl⟩
theorem some_form {B : Nat} {w : World} {v : Value} {a : Ent} {r : List Ent} (h : Ents B w v (a :: r)) : ∃ (b o n c : Nat) (t : ByteArray), v = .slice (some ⟨b, o, none⟩) (n + 1) c ∧ n + 1 ≤ c ∧ c ≤ maxLen ∧ b < B ∧ t.data.toList = a.1 ∧ w.cell? ⟨b, o, none⟩ = some (.string t) ∧ w.cell? ⟨b, o + 1, none⟩ = some (.int .i64 a.2) := by
  obtain ⟨A, c, rfl, h1, h2⟩ := h.form
  obtain ⟨b, o, hl, t, rfl, hb, ht, hc0, hc1⟩ := Ents.at_ h (k := 0) (by simp)
  rw [Nat.zero_mul, Nat.add_zero] at hc0 hc1
  exact ⟨b, o, r.length, c, t, rfl, h1, h2, hb, ht, hc0, hc1⟩

theorem lists_three {w : World} {A1 A2 A3 : Option Addr} {c1 c2 c3 B : Nat} {L1 L2 L3 : List Ent} (h1 : Ents B w (.slice A1 L1.length c1) L1) (h2 : Ents B w (.slice A2 L2.length c2) L2) (h3 : Ents B w (.slice A3 L3.length c3) L3) (hB : B ≤ w.heap.size) (t : TypeId) :
    Lists (w.heap.size + 1) (w.alloc (.cells #[.slice A1 L1.length c1, .slice A2 L2.length c2, .slice A3 L3.length c3] t)) w.heap.size 0 [L1, L2, L3] := by
  intro j hj
  match j, hj with
  | 0, _ => exact ⟨A1, c1, by simp, (h1.alloc hB _).more (by omega)⟩
  | 1, _ => exact ⟨A2, c2, by simp, (h2.alloc hB _).more (by omega)⟩
  | 2, _ => exact ⟨A3, c3, by simp, (h3.alloc hB _).more (by omega)⟩
section
variable (v : Value) (L : List Ent) (w : World)
theorem right_any (h : Ents w.heap.size w v L) (hn : L.length ≤ 1099511627776) : Calls Tryz.prog 129 #[v] w fun e w' => e = .returned (.bool (right L)) ∧ Below w.heap.size w w' :=
  (codeRight_any v L _ w h hn).mono fun _ _ => draws_below
theorem find_any (s : ByteArray) (h : Ents w.heap.size w v L) (hn : L.length ≤ 1099511627776) : Calls Tryz.prog 85 #[v, .string s] w fun e w' => e = .returned (.tuple #[.int .i64 (M06.find (all L) s.data.toList).1, .bool (M06.find (all L) s.data.toList).2]) ∧ Below w.heap.size w w' := by
  have HU := Lib.hid (usable_any v L _ w h hn)
  have HA := Lib.hid (fun (q : Nat) (u : Value) (hu : Ents w.heap.size w u (all L)) => around_any u (all L) _ s (w.drewN q) hu (Nat.le_refl _) (right_all L) (Nat.le_trans (all_len L) hn))
  obtain ⟨A, c, rfl, -, -⟩ := h.form
  clear h
  rw [find_parts]
  generalize all L = M at *
  generalize s.data.toList = S at *
  cases hm : M06.mid M S with
  | nil =>
    have HM := Lib.hid hm
    clear hm
    go_enter Tryz.func85, Tryz.ntmps85
    go_wp2_with fail
    refine HU.out.mono ?_
    rintro e w1 ⟨⟨u, rfl, hu⟩, q, rfl⟩
    have HA := Lib.hid (HA.out q u hu)
    clear hu
    go_wp2_with fail
    refine HA.out.mono ?_
    rintro e w2 ⟨v1, v2, v3, rfl, -, h2, -, hb⟩
    have B2 := Lib.hid (on (below_draws w q) hb)
    rw [HM.out] at h2
    obtain ⟨A2, c2, rfl⟩ := none_form h2
    clear hb h2
    go_wp2_with fail
    go_ret2
    exact ⟨rfl, B2.out⟩
  | cons a r =>
    have HM := Lib.hid hm
    clear hm
    go_enter Tryz.func85, Tryz.ntmps85
    go_wp2_with fail
    refine HU.out.mono ?_
    rintro e w1 ⟨⟨u, rfl, hu⟩, q, rfl⟩
    have HA := Lib.hid (HA.out q u hu)
    clear hu
    go_wp2_with fail
    refine HA.out.mono ?_
    rintro e w2 ⟨v1, v2, v3, rfl, -, h2, -, hb⟩
    have B2 := Lib.hid (on (below_draws w q) hb)
    rw [HM.out] at h2
    obtain ⟨b, o, n, c2, t, rfl, hn1, hn2, hbl, -, hc0, hc1⟩ := some_form h2
    unfold maxLen at hn2
    have hne : ((n : Int) + 1 == 0) = false := by simp; omega
    clear hb h2
    go_wp2_with fail
    go_ret2
    exact ⟨rfl, B2.out⟩
theorem usable_hands (v : Value) (L : List Ent) (B : Nat) (w : World) (h : Ents B w v L) (hn : L.length ≤ 1099511627776) :
    Calls Tryz.prog 108 #[v] w fun e w' => ∃ u, e = .returned u ∧ Ents B w' u (all L) ∧ Below w.heap.size w w' :=
  (usable_any v L B w h hn).mono fun _ _ ⟨⟨u, he, hu⟩, q, hw⟩ => ⟨u, he, by rw [hw]; exact hu, by rw [hw]; exact below_draws _ _⟩
theorem one_ent (w : World) (en : ByteArray) (z : Int) (t : TypeId) : Ents (w.heap.size + 1) (w.alloc (.cells #[.string en, .int .i64 z] t)) (.slice (some ⟨w.heap.size, 0, none⟩) 1 1) [(en.data.toList, z)] := by
  refine ⟨_, 1, rfl, Nat.le_refl _, by decide, fun _ => ⟨_, rfl, Nat.lt_succ_self _, fun k hk j hj => ?_⟩⟩
  obtain rfl : k = 0 := by simpa using hk
  have h := cells_new w [.string en, .int .i64 z] t j
  rw [Nat.zero_mul, Nat.zero_add]
  show _ = ([strV en.data.toList, .int .i64 z])[j]?
  have he : strV en.data.toList = .string en := by unfold strV; rw [mk_bytes]
  rw [he]
  match j, hj with
  | 0, _ => exact h _ rfl
  | 1, _ => exact h _ rfl
section
variable {w9 w' w'' : World} {B : Nat} {x0 x1 : Value}
theorem boxed_below (hS : w'.cell? ⟨B, 0, none⟩ = some x0 ∧ w'.cell? ⟨B, 1, none⟩ = some x1 ∧ Below w9.heap.size w9 w') : Below w9.heap.size w9 w' := hS.2.2
theorem boxed_on (hs : B < w9.heap.size) (hS : w'.cell? ⟨B, 0, none⟩ = some x0 ∧ w'.cell? ⟨B, 1, none⟩ = some x1 ∧ Below w9.heap.size w9 w') (hb : Below w'.heap.size w' w'') : w''.cell? ⟨B, 0, none⟩ = some x0 ∧ w''.cell? ⟨B, 1, none⟩ = some x1 ∧ Below w9.heap.size w9 w'' := by
  have := hS.2.2.size
  exact ⟨by rw [hb.cell (by show B < _; omega)]; exact hS.1, by rw [hb.cell (by show B < _; omega)]; exact hS.2.1, on hS.2.2 hb⟩
theorem boxed_draw (hS : w'.cell? ⟨B, 0, none⟩ = some x0 ∧ w'.cell? ⟨B, 1, none⟩ = some x1 ∧ Below w9.heap.size w9 w') : w'.drew.cell? ⟨B, 0, none⟩ = some x0 ∧ w'.drew.cell? ⟨B, 1, none⟩ = some x1 ∧ Below w9.heap.size w9 w'.drew := ⟨hS.1, hS.2.1, hS.2.2.drew⟩
end
set_option maxHeartbeats 2000000 in
theorem put_new (en : ByteArray) (z : Int) (h : Ents w.heap.size w v L) (hn : L.length ≤ 1099511627776) : Calls Tryz.prog 86 #[v, .agg #[.string en, .int .i64 z]] w (HandsN w (put L (en.data.toList, z))) := by
  obtain ⟨w1, hw1⟩ : ∃ w1 : World, w1 = w.alloc (.cells #[.string en, .int .i64 z] 114) := ⟨_, rfl⟩
  have x0 : w1.cell? ⟨w.heap.size, 0, none⟩ = some (.string en) := by rw [hw1]; simp
  have x1 : w1.cell? ⟨w.heap.size, 1, none⟩ = some (.int .i64 z) := by rw [hw1]; simp
  have hs1 : w.heap.size < w1.heap.size := by rw [hw1]; simp
  have B1 : Hid (Below w.heap.size w w1) := by rw [hw1]; exact (Below.refl _ _).alloc (Nat.le_refl _) _
  have HU := Lib.hid (fun (w' : World) (hb : Below w1.heap.size w1 w') => usable_hands v L w.heap.size w' (h.below (B1.out.trans (hb.mono B1.out.size))) hn)
  have HA := Lib.hid (fun (w' : World) (u : Value) (hu : Ents w.heap.size w' u (all L)) (hs : w.heap.size ≤ w'.heap.size) => around_any u (all L) w.heap.size en w' hu hs (right_all L) (Nat.le_trans (all_len L) hn))
  obtain ⟨A, c, rfl, -, -⟩ := h.form
  clear h
  rw [put_parts]
  have hl1 := low_high_len (all L) en.data.toList
  have hl2 := all_len L
  generalize all L = M at *
  show Calls _ _ _ _ (HandsN w (low M en.data.toList ++ (en.data.toList, z) :: high M en.data.toList))
  go_enter Tryz.func86, Tryz.ntmps86
  go_wp2_with fail
  rw [← hw1]
  clear hw1
  go_region_held3 (fun w' => w'.cell? ⟨w.heap.size, 0, none⟩ = some (.string en) ∧ w'.cell? ⟨w.heap.size, 1, none⟩ = some (.int .i64 z) ∧ Below w1.heap.size w1 w')
    (first | exact boxed_on hs1 (by assumption) hb3 | exact boxed_on hs1 (by assumption) hb2 | exact ⟨x0, x1, (Below.refl _ _).drew⟩ | exact boxed_draw (by assumption) | go_keep)
    (first
      | (go_at_call 108; refine (HU.out _ (boxed_below (by assumption))).mono ?_; rintro e x2 ⟨y1, rfl, hu, hb2⟩; have U1 := Lib.hid hu; clear hu)
      | (go_at_call 107; refine (HA.out _ _ U1.out (Nat.le_trans B1.out.size (boxed_below (by assumption)).size)).mono ?_; rintro e x3 ⟨v1, v2, v3, rfl, h1, -, h3, hb3⟩; have P1 := Lib.hid h1; have P3 := Lib.hid h3; clear h1 h3))
  obtain ⟨hx0, hx1, hbb⟩ := (by assumption : x3.cell? ⟨w.heap.size, 0, none⟩ = some (.string en) ∧ x3.cell? ⟨w.heap.size, 1, none⟩ = some (.int .i64 z) ∧ Below w1.heap.size w1 x3)
  have B3 : Hid (Below w.heap.size w x3) := B1.out.trans (hbb.mono B1.out.size)
  have hs3 := B3.out.size
  obtain ⟨A1, c1, rfl, -, -⟩ := P1.out.form
  obtain ⟨A3, c3, rfl, -, -⟩ := P3.out.form
  have hC := concat_any (x3.heap.size + 1) 0 3 3 (x3.heap.size + 2) [low M en.data.toList, [(en.data.toList, z)], high M en.data.toList] ((x3.alloc (.cells #[.string en, .int .i64 z] 114)).alloc (.cells #[.slice A1 (low M en.data.toList).length c1, .slice (some ⟨x3.heap.size, 0, none⟩) 1 1, .slice A3 (high M en.data.toList).length c3] 89)) rfl (by
    have q := lists_three (L2 := [(en.data.toList, z)]) (A2 := some ⟨x3.heap.size, 0, none⟩) (c2 := 1) (w := x3.alloc (.cells #[.string en, .int .i64 z] 114)) (B := x3.heap.size + 1) ((P1.out.alloc hs3 (.cells #[.string en, .int .i64 z] 114)).more (by omega)) (one_ent x3 en z 114) ((P3.out.alloc hs3 (.cells #[.string en, .int .i64 z] 114)).more (by omega)) (by rw [World.size_alloc]; exact Nat.le_refl _) 89
    rw [World.size_alloc] at q
    exact q) (by omega) (by rw [World.size_alloc, World.size_alloc]; exact Nat.le_refl _) (by omega) (by simp; omega)
  have HC := Lib.hid hC
  clear hC hbb hb3
  go_wp2_with fail
  refine HC.out.mono ?_
  rintro e w4 ⟨u4, rfl, hu4, hb4⟩
  have N4 := Lib.hid (own_new (B := w.heap.size) hu4 (by rw [World.size_alloc, World.size_alloc]; omega))
  have U4 := Lib.hid hu4.reads
  rw [show [low M en.data.toList, [(en.data.toList, z)], high M en.data.toList].flatten = low M en.data.toList ++ (en.data.toList, z) :: high M en.data.toList by simp] at U4
  have B4 := Lib.hid (on B3.out ((((Below.refl x3.heap.size x3).alloc (Nat.le_refl _) (.cells #[.string en, .int .i64 z] 114)).alloc (by simp) _).trans (hb4.mono (by simp; omega))))
  clear hu4 hb4
  go_wp2_with fail
  go_ret
  exact ⟨_, rfl, U4.out, N4.out, B4.out⟩
theorem put_any (en : ByteArray) (z : Int) (h : Ents w.heap.size w v L) (hn : L.length ≤ 1099511627776) : Calls Tryz.prog 86 #[v, .agg #[.string en, .int .i64 z]] w (HandsE w (put L (en.data.toList, z))) :=
  (put_new v L w en z h hn).mono fun _ _ => hands_of_new
end
theorem own_on {w w' : World} {base : Nat} {v : Value} {L : List Ent} (h : OwnEnts w base v L) (hb : Below w.heap.size w w') : OwnEnts w' base v L := by
  refine ⟨h.1, ?_⟩
  rcases h.2 with hn | ⟨g, cap, cur, hv, hg, hh, rest⟩
  · exact Or.inl hn
  · refine Or.inr ⟨g, cap, cur, hv, hg, ?_, rest⟩
    rw [hb.block g ?_]; exact hh
    rcases Nat.lt_or_ge g w.heap.size with hlt | hge
    · exact hlt
    · rw [Array.getElem?_eq_none hge] at hh; cases hh
section
variable {w W W' : World} {e0 base : Nat} {x0 x1 : Value} {row : Option Nat}
end
end Go.Proofs.YtpihldcchjoinaaGreatDoor.W06
/-
  Layer 8 (seek): what any code that goes paths uses: ents' Find in a directory's list tells what stands there; a node's own entry, once, in the list of its directory. Conditions: those that each theorem bears.
-/
namespace Go.Proofs.YtpihldcchjoinaaGreatDoor.W08
open Go Go.RowKit Go.Proofs.YtpihldcchjoinaaGreatDoor.Strs Go.Proofs.YtpihldcchjoinaaGreatDoor.Recs
open Go.Proofs.YtpihldcchjoinaaGreatDoor.M07 (Tr Nd nodeAt inDir Right listDir entOf at_some in_found mem_list)
open Go.Proofs.YtpihldcchjoinaaGreatDoor.M08
open Go.Proofs.YtpihldcchjoinaaGreatDoor.M06 (Ent)
open Go.Proofs.YtpihldcchjoinaaGreatDoor.W06 (Ents)
open Go.Proofs.YtpihldcchjoinaaGreatDoor.W07 (Small listed plainN find_in)

theorem listed_is {t : Tr} (h : Right t) (n : Int) : listed t n = listDir t.L n := by
  unfold listed
  split
  · rfl
  · rename_i hk
    symm
    rw [List.eq_nil_iff_forall_not_mem]
    intro e he
    obtain ⟨a, ha, e1, _, _⟩ := (mem_list h).1 he
    have := h.up a ha
    rw [e1] at this
    exact hk this
theorem find_near {t : Tr} (h : Right t) (d : Int) (s : Bytes) : M06.find (M06.all (listed t d)) s = (inDir t.L d s, decide (inDir t.L d s ≠ 0)) := by
  by_cases hd : (nodeAt t.L d).kind = 1
  · exact find_in h s hd
  · have e : inDir t.L d s = 0 := by
      by_cases h0 : inDir t.L d s = 0
      · exact h0
      · obtain ⟨a, ha, -, e2, -⟩ := in_found h0
        have := h.up a ha
        rw [e2] at this
        exact absurd this hd
    rw [e]
    unfold listed
    rw [if_neg hd]
    rfl
theorem listed_len {t : Tr} (hs : Small t) (d : Int) : (listed t d).length ≤ 1048576 := by
  have := hs.1
  unfold listed
  split
  · exact Nat.le_trans (M07.list_len _ _) this
  · exact Nat.zero_le _
/-- a node's own entry -/
theorem own_entry {t : Tr} (h : Right t) {n : Int} (hk : (nodeAt t.L n).kind ≠ 0) (h1 : n ≠ 1) : ∃ A B, listed t (nodeAt t.L n).up = A ++ ((nodeAt t.L n).name, n) :: B ∧ (∀ e ∈ A, e.2 ≠ n) ∧ ∀ e ∈ B, e.2 ≠ n := by
  have hm := at_some hk
  rw [listed_is h]
  have hin : ((nodeAt t.L n).name, n) ∈ listDir t.L (nodeAt t.L n).up := (mem_list h).2 ⟨_, hm.1, rfl, by rw [hm.2]; exact h1, by unfold entOf; rw [hm.2]⟩
  have hr := M07.list_rises t.L (nodeAt t.L n).up
  have hu : ∀ e ∈ listDir t.L (nodeAt t.L n).up, e.2 = n → e.1 = (nodeAt t.L n).name := by
    intro e he e2
    obtain ⟨a, ha, -, -, rfl⟩ := (mem_list h).1 he
    have e3 : a.num = n := e2
    have := h.at_ ha
    rw [e3] at this
    rw [this]; rfl
  obtain ⟨A, B, e⟩ := List.append_of_mem hin
  rw [e] at hr hu
  refine ⟨A, B, e, fun x hx e2 => ?_, fun x hx e2 => ?_⟩
  · have q := (List.pairwise_append.1 hr).2.2 x hx _ List.mem_cons_self
    rw [hu x (List.mem_append_left _ hx) e2] at q
    exact M03.lt_irrefl _ q
  · have q := (List.pairwise_cons.1 (List.pairwise_append.1 hr).2.1).1 x hx
    rw [hu x (List.mem_append_right _ (List.mem_cons_of_mem _ hx)) e2] at q
    exact M03.lt_irrefl _ q
theorem near_any {t : Tr} (h : Right t) (hs : Small t) (d : Int) (s : ByteArray) {u : Value} {w : World} (hu : Ents w.heap.size w u (listed t d)) : Calls Tryz.prog 85 #[u, .string s] w fun e w' => e = .returned (.tuple #[.int .i64 (inDir t.L d s.data.toList), .bool (decide (inDir t.L d s.data.toList ≠ 0))]) ∧ Below w.heap.size w w' := by
  have := W06.find_any _ _ w s hu (Nat.le_trans (listed_len hs d) (by decide))
  rw [find_near h] at this
  exact this
end Go.Proofs.YtpihldcchjoinaaGreatDoor.W08
