/-
  Texts joined, in build order, each with its own comment and its own conditions: W16Calls, W16RunMath.
-/
import Derived.Test.YtehdnbidgphecaaGreatDoorJ16
import Derived.Test.YtehdnbidgphecaaGreatDoorJ14
import Derived.RangeFuncBox
import Derived.Maps.AppendAt
/-
  Layer 16 (match), walks of ends, Ends, Search, Whole and First: what the iterator hands out, taken. The conditions stand in the statements.
-/
namespace Go.Proofs.YtehdnbidgphecaaGreatDoor.W16
set_option maxRecDepth 100000
open Go Go.RowKit Go.Shelf Go.Proofs.YtehdnbidgphecaaGreatDoor.Strs Go.Proofs.YtehdnbidgphecaaGreatDoor.Recs Go.Proofs.YtehdnbidgphecaaGreatDoor.Range
open Go.Proofs.YtehdnbidgphecaaGreatDoor.M15 (Inst rightP)
open Go.Proofs.YtehdnbidgphecaaGreatDoor.M16 (Text yields)
open Go.Proofs.YtehdnbidgphecaaGreatDoor.W15 (Prg numC numC_len numC_one int_info)
open Go.Proofs.YtehdnbidgphecaaGreatDoor.Kit (below_draws on)
attribute [local go_sem] Oper.semAt_some

theorem row_turn {T : Nat → Prop} {A B : World} {base : Nat} {e : TypeId} {size n : Nat} {v : Value} {xs : List Value} (h : Turns T A B) (hr : A.ownsRow base e size v n xs) (ht : ∀ k, v.ownBlock = some k → ¬ T k) : B.ownsRow base e size v n xs := by
  refine ⟨hr.1, ?_⟩
  rcases hr.2 with h0 | ⟨g, cap, cur, e1, hb, hh, rest⟩
  · exact Or.inl h0
  · subst e1
    exact Or.inr ⟨g, cap, cur, rfl, hb, h.keeps hh (ht g rfl), rest⟩
theorem wpListIn_append_at {F : Fence} {n : Nat} {P : Program} (w : World) {ops : Array Oper} {rest : List Oper} {o : Oper} {a : Act} {Q : Exit → Act → World → Prop}
    (hg : o.guard = none) (s x : Operand) (t : TypeId) (hop : o.op = Op.call { callee := Callee.builtin Builtin.append, args := #[s, x], argTypes := #[t, t] })
    (base : Nat) (e : TypeId) (i : TypeInfo) (z : Value) (size bytes : Nat) (h1 : P.underlying t = some (.slice e)) (h2 : P.info? e = some i) (h3 : i.zero = some z) (h4 : i.size = size) (h5 : i.bytes = bytes) (h6 : z.cells.size = size) (h7 : 0 < size)
    (v : Value) (k : Nat) (xs : List Value) (hs : a.eval s = v) (hown : w.ownsRow base e size v k xs) (ad : Addr) (m c : Nat) (news : List Value) (hx : a.eval x = .slice (some ad) m c) (hn : news.length = m * size)
    (hc : ∀ j u, news[j]? = some u → w.cell? (ad.add j) = some u) (h1c : ∀ u ∈ news, u.oneCell' = true) (b1 : k + m ≤ maxLen) (b2 : (k + m) * bytes ≤ 140737488355328) (b3 : base ≤ w.heap.size)
    (hK : ∀ v' w', w'.ownsRow base e size v' (k + m) (xs ++ news) → w.grownBy w' v.ownBlock → (∀ q, v'.ownBlock = some q → v.ownBlock = some q ∨ w.heap.size ≤ q) → wpListIn F n P ops Q rest (a.put o.dst v') w') :
    wpListIn F n P ops Q (o :: rest) a w := by
  refine wpListIn_plain hg fun K hK' => ?_
  obtain ⟨v', w', hrun, r1, r2, r3⟩ := run_append_own (P := P) w base t o.type e i z size bytes h1 h2 h3 h4 h5 h6 h7 v k xs hown ad m c news hn hc h1c b1 b2 b3
  have r4 := own_block_next (P := P) w base t o.type e i z size bytes h1 h2 h3 h4 h5 h6 h7 v k xs hown ad m c news hn hc h1c b1 b2 hrun
  unfold Oper.wpIn
  refine ⟨?_, ?_⟩
  · simp [Oper.about, hop, resolve, Target.leads, Sem.run_pure]
  · rw [Oper.semAt_plain F _ _ (by rw [hop]; intro c hc'; cases hc')]
    simp [execOp, hop, resolve, invoke, builtin, hs, hx, hrun, Result.andThen]
    exact hK' _ _ (hK v' w' r1 r2 r4)
set_option maxHeartbeats 1000000 in
/-- the iterator is made -/
theorem endsOf_any (A : Option Addr) (n c : Nat) (s : ByteArray) (f l : Nat) (w : World) : Calls Tryz.prog 26 #[.slice A n c, .string s, .int .i64 f, .int .i64 l] w fun e w' => e = .returned (.func (.func 35) #[] (caught w.heap.size)) ∧ Caps w' w.heap.size (.slice A n c) s f l ∧ Below w.heap.size w w' ∧ w'.heap.size = w.heap.size + 4 := by
  go_enter Tryz.func26, Tryz.ntmps26
  go_wp2_with fail
  go_ret
  obtain ⟨w1, h1⟩ : ∃ w1, w.alloc (.cells #[.slice A n c] 32) = w1 := ⟨_, rfl⟩
  obtain ⟨w2, h2⟩ : ∃ w2, w1.alloc (.cells #[.string s] 9) = w2 := ⟨_, rfl⟩
  obtain ⟨w3, h3⟩ : ∃ w3, w2.alloc (.cells #[.int .i64 f] 3) = w3 := ⟨_, rfl⟩
  obtain ⟨w4, h4⟩ : ∃ w4, w3.alloc (.cells #[.int .i64 l] 3) = w4 := ⟨_, rfl⟩
  have z1 : w1.heap.size = w.heap.size + 1 := by rw [← h1, World.size_alloc]
  have z2 : w2.heap.size = w.heap.size + 2 := by rw [← h2, World.size_alloc, z1]
  have z3 : w3.heap.size = w.heap.size + 3 := by rw [← h3, World.size_alloc, z2]
  have z4 : w4.heap.size = w.heap.size + 4 := by rw [← h4, World.size_alloc, z3]
  have l1 : Below w.heap.size w w1 := by rw [← h1]; exact W14.below_new _ _
  have l2 : Below w1.heap.size w1 w2 := by rw [← h2]; exact W14.below_new _ _
  have l3 : Below w2.heap.size w2 w3 := by rw [← h3]; exact W14.below_new _ _
  have l4 : Below w3.heap.size w3 w4 := by rw [← h4]; exact W14.below_new _ _
  have c1 : w1.cell? ⟨w.heap.size, 0, none⟩ = some (.slice A n c) := by rw [← h1]; exact (Boxed.new w _ _).cell
  have c2 : w2.cell? ⟨w.heap.size + 1, 0, none⟩ = some (.string s) := by rw [← z1, ← h2]; exact (Boxed.new w1 _ _).cell
  have c3 : w3.cell? ⟨w.heap.size + 2, 0, none⟩ = some (.int .i64 f) := by rw [← z2, ← h3]; exact (Boxed.new w2 _ _).cell
  have c4 : w4.cell? ⟨w.heap.size + 3, 0, none⟩ = some (.int .i64 l) := by rw [← z3, ← h4]; exact (Boxed.new w3 _ _).cell
  rw [h1, h2, h3, h4]
  refine ⟨?_, ⟨?_, ?_, ?_, c4⟩, on (on (on l1 l2) l3) l4, z4⟩
  · rfl
  · exact ((on (on l2 l3) l4).cell (p := ⟨w.heap.size, 0, none⟩) (by show w.heap.size < _; omega)).trans c1
  · exact ((on l3 l4).cell (p := ⟨w.heap.size + 1, 0, none⟩) (by show w.heap.size + 1 < _; omega)).trans c2
  · exact (l4.cell (p := ⟨w.heap.size + 2, 0, none⟩) (by show w.heap.size + 2 < _; omega)).trans c3
/-- the ends that are gathered: the variable's box q, the row that it holds -/
def Coll (w0 : World) (n0 q : Nat) (T : Nat → Prop) (pre : List M16.Mark) (W : World) : Prop :=
  ∃ v, Boxed W q 35 v ∧ W.ownsRow (q + 1) 3 1 v pre.length ((pre.map Prod.snd).flatMap numC) ∧ ¬ T q ∧ (∀ k, v.ownBlock = some k → ¬ T k) ∧ Below n0 w0 W
theorem Coll.steady {w0 : World} {n0 base q : Nat} (hn : n0 ≤ base) : Steady base (Coll w0 n0 q) := by
  rintro T s A B ⟨v, h1, h2, h3, h4, h5⟩ hT hA ht
  refine ⟨v, ht.keeps h1 h3, row_turn ht h2 h4, fun h => ?_, fun k hk h => ?_, h5.trans (ht.below (fun k hk => Nat.le_trans hn (hT k hk).1) (by omega))⟩
  · rcases h with h | h
    · exact h3 h
    · have := h1.lt; omega
  · rcases h with h | h
    · exact h4 k hk h
    · have := (h2.lt k hk).2; omega
/-- where a program ends, begun at one place -/
def endsL (L : List Inst) (s : Text) (from_ : Int) : List Nat := if 0 ≤ from_ ∧ from_ ≤ (s.length : Int) then (yields L s from_.toNat from_.toNat).map Prod.snd else []
theorem yields_len {L : List Inst} {s : Text} {f l : Nat} (h1 : f ≤ l) (h2 : l ≤ s.length) : (yields L s f l).length ≤ s.length + 1 := by
  unfold M16.yields
  by_cases hr : rightP L = true
  · have h := M16.yields_tells (s := s) (M16.fair_of hr) hr h1 h2
    unfold M16.yields at h
    rw [if_pos hr] at h ⊢
    generalize M16.run L s (s.length + 1 - f) f l [] = Y at h
    have hn : (Y.map Prod.snd).Nodup := List.pairwise_map.2 (h.rise.imp fun {a b} h => by have := h.1; omega)
    have := M16.nodup_le (s.length + 1) hn (fun x hx => by
      obtain ⟨y, hy, rfl⟩ := List.mem_map.1 hx
      obtain ⟨-, -, r3, i, -, r4⟩ := h.real y hy
      have := r4.in_ (by omega)
      omega)
    simpa using this
  · rw [if_neg hr]; exact Nat.zero_le _
section
variable {w : World} {lv : Value} {L : List Inst} {s : ByteArray}
set_option maxHeartbeats 1000000 in
theorem ends_none (h : Prg w.heap.size w lv L) (from_ : Int) (hf : ¬ (0 ≤ from_ ∧ from_ ≤ (s.size : Int))) : Calls Tryz.prog 17 #[lv, .string s, .int .i64 from_] w (GivesInts w []) := by
  unfold GivesInts
  obtain ⟨A, c, rfl, -, -⟩ := h.form
  by_cases h0 : from_ < 0
  · clear hf h
    go_enter Tryz.func17, Tryz.ntmps17
    go_wp2_with fail
    go_ret
    exact ⟨_, rfl, World.ownsRow_nil _ _ _ _, Below.refl _ _⟩
  · have h1 : (s.size : Int) < from_ := by omega
    clear hf h
    go_enter Tryz.func17, Tryz.ntmps17
    go_wp2_with fail
    go_ret
    exact ⟨_, rfl, World.ownsRow_nil _ _ _ _, Below.refl _ _⟩
set_option maxRecDepth 100000 in
set_option maxHeartbeats 4000000 in
theorem ends_some (h : Prg w.heap.size w lv L) (hn : L.length ≤ 900000) (hs : s.size ≤ 900000) (f : Nat) (hf : f ≤ s.size) : Calls Tryz.prog 17 #[lv, .string s, .int .i64 f] w (GivesInts w ((yields L s.data.toList f f).map Prod.snd)) := by
  unfold GivesInts
  obtain ⟨A, c, rfl, -, -⟩ := h.form
  have h0 : ¬ (f : Int) < 0 := by omega
  have h1 : ¬ (s.size : Int) < (f : Int) := by omega
  have HP := Lib.hid h
  have hlen := yields_len (L := L) (s := s.data.toList) (Nat.le_refl f) (by rw [← Lib.size_eq]; exact hf)
  rw [← Lib.size_eq] at hlen
  have HLN := Lib.hid hlen
  have HN := Lib.hid (show L.length ≤ 900000 ∧ s.size ≤ 900000 ∧ f ≤ s.size from ⟨hn, hs, hf⟩)
  clear h hlen hn hs hf
  refine (callsIn_wide (n := 9)).1 ?_
  refine callsIn_of_wp_marks Tryz.func17 rfl trivial ?_ rfl
  simp only [Tryz.ntmps17, List.size_toArray, List.length_cons, List.length_nil, Nat.reduceAdd, Nat.reduceSub, Array.replicate_succ, Array.replicate_zero, List.push_toArray, List.append_toArray, List.nil_append, List.cons_append]
  gi_wp2
  obtain ⟨q, hq⟩ : ∃ q, w.heap.size = q := ⟨_, rfl⟩
  have HQ := Lib.hid hq
  have x0 := Boxed.new w 35 (.slice none 0 0)
  have hb1 : Below w.heap.size w (w.alloc (.cells #[.slice none 0 0] 35)) := W14.below_new _ _
  have hz1 : (w.alloc (.cells #[.slice none 0 0] 35)).heap.size = q + 1 := by rw [World.size_alloc, hq]
  generalize w.alloc (.cells #[.slice none 0 0] 35) = w1 at *
  rw [hq] at x0
  have hp1 := Lib.hid (HP.out.below hb1)
  have hx1 := Lib.hid x0
  have L1 := Lib.hid hb1
  have Z1 := Lib.hid hz1
  clear x0 hb1 hz1
  refine ⟨trivial, ?_⟩
  refine (callsIn_wide.2 (endsOf_any A L.length c s f f w1)).mono ?_
  rintro e w2 ⟨rfl, hcaps, hb2, hz2⟩
  rw [Z1.out] at hcaps hz2 ⊢
  have hseq := ends_seq ⟨q, q + 1, .slice A L.length c, L, s, f, f⟩ w2 (by have h2 := hp1.out.below (hb2.mono L1.out.size); rw [HQ.out] at h2; exact h2) hcaps HN.out.1 (by show s.size ≤ _; have := HN.out.2.1; omega) (Nat.le_refl f) HN.out.2.2
  have hseq := Lib.hid hseq
  have hx2 : Boxed w2 q 35 (.slice none 0 0) := (hb2.block q (by rw [Z1.out]; omega)).trans hx1.out
  have hB2 := on L1.out hb2
  obtain ⟨xs, hxs⟩ : ∃ xs, yields L s.data.toList f f = xs := ⟨_, rfl⟩
  have HXS := Lib.hid hxs
  rw [hxs] at HLN
  simp only at hseq
  rw [hxs] at hseq
  clear hcaps hp1 hx1 L1 Z1 hb2 hxs HP h0 h1
  gi_wp2
  obtain ⟨j0, hi, hz0, hz1, hz3⟩ := info_parts int_info
  have hO : Lies q (Four (q + 1)) w2 := fun k hk => ⟨by have := hk.1; omega, by have := hk.2; omega⟩
  have hB2' : Below q w w2 := hB2.mono (by omega)
  refine wp_rangeH (gf := 35) (lb := caught (q + 1)) rfl (enters_of Tryz.func35 (by kernel_rfl) rfl) hseq.out hO (by omega) (fun _ => rfl) (Coll w q q) (fun _ _ _ _ => False) (Coll.steady (Nat.le_refl _)) (fun _ _ _ _ _ h => h.elim)
    ⟨_, hx2, World.ownsRow_nil _ _ _ _, fun h => by have := h.1; omega, (fun k (hk : none = some k) => by cases hk), hB2'⟩
    (fun x => { tmps := #[.slice A L.length c, .string s, .int .i64 f, undef, undef, undef, .slice none 0 0, .pointer (some ⟨q, 0, none⟩), undef, .int .i64 x.2, .int .i64 f, .bool false, .bool false, .int .i64 f, .string s, .int .i64 s.size, .bool false, .bool false, .slice A L.length c, .string s, .int .i64 f, .int .i64 f, .func (.func 35) #[] (caught (q + 1)), .int .i64 x.1, .int .i64 x.2, undef, undef, undef, undef, undef], defers := [] }) ?assign ?body ?done ?stop
  case assign =>
    intro l x W K hK
    unfold twoV
    gi_wp2
    exact hK
  case body =>
    rintro l T pre x W ⟨v, hv, hrow, hTq, hTv, hB⟩ hT hb hpre
    have hc := hv.cell
    have hf := hv.frozen
    have hle : pre.length + 1 ≤ xs.length := by
      have := hpre.length_le
      rw [List.length_append, List.length_singleton] at this
      exact this
    have hlen : pre.length + 1 ≤ 1000000 := by have := HLN.out; have := HN.out; omega
    have hq1 : q + 1 ≤ W.heap.size := by have := hv.lt; omega
    have hnl : ∀ pre : List M16.Mark, ((pre.map Prod.snd).flatMap numC).length = pre.length * 1 := fun pre => by rw [flat_len numC_len, List.length_map]
    gi_wp2_with (gi_at_builtin; refine wpListIn_append_at _ rfl _ _ 35 rfl (q + 1) 3 j0 (.int .i64 0) 1 8 Tryz.underlying35 hi hz0 hz1 hz3 rfl (by decide) _ _ _ rfl (hrow.alloc _) ⟨W.heap.size, 0, none⟩ 1 1 (numC x.2) rfl rfl (cells_new W (numC x.2) _) (numC_one x.2) (by unfold maxLen; omega) (by omega) (by rw [World.size_alloc]; omega) ?_; intro v' w1 hown' hgrow hpl; obtain ⟨g', cap', rfl⟩ := ownsRow_succ hown'; have hv1 : Boxed w1 q 35 v := (hv.alloc _).kept hgrow (hv.not_row (by decide) hrow); have hc1 := hv1.cell; have hf1 := hv1.frozen)
    have t1 : Turns (fun k => q ≤ k ∧ ¬ T k) W w1 := (Turns.alloc _ W _).trans (Turns.of_grown hgrow (fun rr hr => ⟨by have := (hrow.lt rr hr).1; omega, hTv rr hr⟩))
    have t2 : Turns (fun k => q ≤ k ∧ ¬ T k) w1 (w1.setCell ⟨q, 0, none⟩ (.slice (some ⟨g', 0, none⟩) (pre.length + 1) cap')) := Turns.setCell (a := ⟨q, 0, none⟩) _ ⟨by show q ≤ q; omega, hTq⟩
    refine ⟨t1.trans t2, _, hv1.set _, ?_, hTq, fun k hk h => ?_, hB.trans ((t1.trans t2).below (fun k hk => hk.1) (by have := hB.size; omega))⟩
    · have h3 := hown'.kept (grownBy_setCell' w1 q (.slice (some ⟨g', 0, none⟩) (pre.length + 1) cap')) (.inr (hv1.not_row (by decide) hown').symm)
      rw [List.length_append, List.map_append, List.flatMap_append]
      simpa using h3
    · rcases hpl k hk with e | e
      · exact hTv k e h
      · have := hT k h
        rw [World.size_alloc] at e
        omega
  case done =>
    rintro T W ⟨v, hv, hrow, hTq, hTv, hB⟩ hT hOT hTd hK htW
    have hc := hv.cell
    obtain ⟨ys, hys⟩ : ∃ ys, xs.map Prod.snd = ys := ⟨_, rfl⟩
    have hyl : xs.length = ys.length := by rw [← hys, List.length_map]
    rw [hyl, hys] at hrow
    have HYS : Hid ((yields L s.data.toList f f).map Prod.snd = ys) := by unfold Hid; rw [HXS.out, hys]
    clear hys hyl
    gi_wp2
    refine ⟨by simp, .inl ⟨_, _, rfl, run_takeDeferred hK, ?_⟩⟩
    have h2 := ownsRow_putObj hrow (.deferred none) hK rfl
    have h3 : Below q W (W.putObj w2.heap.size (.deferred none)) := (Turns.putObj (T := fun k => q ≤ k) _ (by omega)).below (fun k hk => hk) (by have := hB.size; omega)
    refine ⟨_, results_tmp rfl _ _ _, v, rfl, ?_, by rw [hq]; exact hB.trans h3⟩
    rw [HYS.out, hq]
    exact h2.mono (Nat.le_succ q)
  case stop =>
    intro c T pre W _ h
    exact h.elim
theorem ends_at (h : Prg w.heap.size w lv L) (hn : L.length ≤ 900000) (hs : s.size ≤ 900000) (from_ : Int) : Calls Tryz.prog 17 #[lv, .string s, .int .i64 from_] w (GivesInts w (endsL L s.data.toList from_)) := by
  unfold endsL
  rw [← Lib.size_eq]
  by_cases hf : 0 ≤ from_ ∧ from_ ≤ (s.size : Int)
  · rw [if_pos hf]
    obtain ⟨f, rfl⟩ : ∃ f : Nat, from_ = (f : Int) := ⟨from_.toNat, by omega⟩
    exact ends_some h hn hs f (by omega)
  · rw [if_neg hf]
    exact ends_none h from_ hf
end
end Go.Proofs.YtehdnbidgphecaaGreatDoor.W16
/-
  Layer 16 (match), plain mathematics: what is come to, made more until it stays; that tells the same ends. No condition but those that each theorem bears.
-/
namespace Go.Proofs.YtehdnbidgphecaaGreatDoor.M16
open Go Go.Proofs.YtehdnbidgphecaaGreatDoor.M15

/-- a step and a place, in one number -/
def idx (s : Text) (i q : Nat) : Nat := i * (s.length + 1) + q
theorem idx_lt {s : Text} {i q n : Nat} (hi : i < n) (hq : q ≤ s.length) : idx s i q < n * (s.length + 1) := by
  unfold idx
  have : (i + 1) * (s.length + 1) ≤ n * (s.length + 1) := Nat.mul_le_mul_right _ hi
  rw [Nat.succ_mul] at this
  omega
theorem idx_inj {s : Text} {i q j v : Nat} (hq : q ≤ s.length) (hv : v ≤ s.length) (h : idx s i q = idx s j v) : i = j ∧ q = v := by
  unfold idx at h
  have h1 : (i * (s.length + 1) + q) / (s.length + 1) = i := by
    rw [Nat.mul_comm, Nat.mul_add_div (by omega), Nat.div_eq_of_lt (by omega)]; rfl
  have h2 : (j * (s.length + 1) + v) / (s.length + 1) = j := by
    rw [Nat.mul_comm, Nat.mul_add_div (by omega), Nat.div_eq_of_lt (by omega)]; rfl
  have hij : i = j := by rw [← h1, h, h2]
  subst hij
  exact ⟨rfl, by omega⟩
/-- what is met is come to -/
def Real (L : List Inst) (s : Text) (b : Nat) (f : Nat → Bool) : Prop := ∀ i q, i < L.length → q ≤ s.length → f (idx s i q) = true → Reach L s b i q
/-- what it leads to is met -/
def Shut (L : List Inst) (s : Text) (f : Nat → Bool) : Prop := ∀ i q, i < L.length → q ≤ s.length → f (idx s i q) = true → ∀ p ∈ nexts (ins L i) s q, f (idx s p.1 p.2) = true
/-- while all is gone through once -/
structure Pass (L : List Inst) (s : Text) (b : Nat) (f0 f : Nat → Bool) (m : Bool) (i0 q0 : Nat) : Prop where
  real : Real L s b f
  mono : ∀ x, f0 x = true → f x = true
  same : m = false → ∀ x, f x = f0 x
  new : m = true → ∃ x, x < L.length * (s.length + 1) ∧ f0 x = false ∧ f x = true
  done : ∀ i q, i < L.length → q ≤ s.length → (i < i0 ∨ (i = i0 ∧ q < q0)) → f0 (idx s i q) = true → ∀ p ∈ nexts (ins L i) s q, f (idx s p.1 p.2) = true
section
variable {L : List Inst} {s : Text} {b : Nat} {f0 f : Nat → Bool} {m : Bool} {i q : Nat}
theorem Reach.low (hf : Fair L) (h : Reach L s b i q) : i < L.length := by
  cases h with
  | start => exact hf.some_
  | on _ hk => exact hf.eps_ _ _ _ _ hk
  | byte _ _ ht => exact hf.byte_ _ _ ht
theorem nexts_in (hf : Fair L) (hq : q ≤ s.length) {p : Mark} (hp : p ∈ nexts (ins L i) s q) : p.1 < L.length ∧ p.2 ≤ s.length := by
  rcases mem_nexts.1 hp with ⟨h1, h2⟩ | ⟨c, h1, h2, h3, h4⟩
  · exact ⟨hf.eps_ _ _ _ _ h1, by omega⟩
  · have := (List.getElem?_eq_some_iff.1 h1).1
    exact ⟨by rw [h3]; exact hf.byte_ _ _ h2, by omega⟩
theorem Pass.start (h : Real L s b f) : Pass L s b f f false 0 b :=
  ⟨h, fun _ h => h, fun _ _ => rfl, fun h => (by cases h), fun i q hi hq h0 h1 => by
    rcases h0 with h0 | ⟨h0, h2⟩
    · omega
    · have := (h i q hi hq h1).le; omega⟩
/-- a place of a step that was not met -/
theorem Pass.skip (h : Pass L s b f0 f m i q) (hn : f (idx s i q) = false) : Pass L s b f0 f m i (q + 1) :=
  ⟨h.real, h.mono, h.same, h.new, fun i' q' hi hq h0 h1 => by
      by_cases e : i' = i ∧ q' = q
      · obtain ⟨rfl, rfl⟩ := e
        have := h.mono _ h1
        rw [hn] at this
        cases this
      · exact h.done i' q' hi hq (by omega) h1⟩
/-- all that it leads to is met -/
theorem Pass.on (h : Pass L s b f0 f m i q) (hall : ∀ p ∈ nexts (ins L i) s q, f (idx s p.1 p.2) = true) : Pass L s b f0 f m i (q + 1) :=
  ⟨h.real, h.mono, h.same, h.new, fun i' q' hi hq h0 h1 => by
      by_cases e : i' = i ∧ q' = q
      · obtain ⟨rfl, rfl⟩ := e
        exact hall
      · exact h.done i' q' hi hq (by omega) h1⟩
theorem Pass.row (h : Pass L s b f0 f m i (s.length + 1)) : Pass L s b f0 f m (i + 1) b :=
  ⟨h.real, h.mono, h.same, h.new, fun i' q' hi hq h0 h1 => by
      rcases h0 with h0 | ⟨rfl, h2⟩
      · exact h.done i' q' hi hq (by omega) h1
      · have := (h.real _ q' hi hq (h.mono _ h1)).le; omega⟩
theorem Pass.mark (hf : Fair L) (h : Pass L s b f0 f m i q) (hr : Reach L s b i q) (hq : q ≤ s.length) {p : Mark} (hp : p ∈ nexts (ins L i) s q) (hn : f (idx s p.1 p.2) = false) : Pass L s b f0 (fun j => if j = idx s p.1 p.2 then true else f j) true i q := by
  obtain ⟨h1, h2⟩ := nexts_in hf hq hp
  have hrp : Reach L s b p.1 p.2 := hr.next (mem_nexts.1 hp)
  refine ⟨fun i' q' hi hq' hx => ?_, fun x hx => ?_, fun e => (by cases e), fun _ => ⟨_, idx_lt h1 h2, ?_, by simp⟩, fun i' q' hi hq' h0 hx p' hp' => ?_⟩
  · split at hx
    · rename_i e
      obtain ⟨rfl, rfl⟩ := idx_inj hq' h2 e
      exact hrp
    · exact h.real i' q' hi hq' hx
  · split
    · rfl
    · exact h.mono x hx
  · cases hx : f0 (idx s p.1 p.2) with
    | false => rfl
    | true => have := h.mono _ hx; rw [hn] at this; cases this
  · split
    · rfl
    · exact h.done i' q' hi hq' h0 hx p' hp'
theorem Pass.shut (h : Pass L s b f0 f m L.length b) (hm : m = false) : Shut L s f := fun i q hi hq hx p hp => by
  have := h.same hm
  rw [this] at hx
  exact h.done i q hi hq (Or.inl hi) hx p hp
/-- how many are not met -/
def lack (f : Nat → Bool) : Nat → Nat
  | 0 => 0
  | n + 1 => lack f n + (if f n then 0 else 1)
theorem lack_le (f : Nat → Bool) : ∀ n, lack f n ≤ n
  | 0 => Nat.le_refl _
  | n + 1 => by
    have := lack_le f n
    unfold lack
    split <;> omega
theorem lack_mono {f g : Nat → Bool} (h : ∀ x, f x = true → g x = true) : ∀ n, lack g n ≤ lack f n
  | 0 => Nat.le_refl _
  | n + 1 => by
    have := lack_mono h n
    unfold lack
    by_cases hx : f n = true
    · rw [if_pos hx, if_pos (h n hx)]; omega
    · rw [if_neg hx]; split <;> omega
theorem lack_lt {f g : Nat → Bool} (h : ∀ x, f x = true → g x = true) : ∀ {n x : Nat}, x < n → f x = false → g x = true → lack g n < lack f n
  | 0, _, hx, _, _ => absurd hx (Nat.not_lt_zero _)
  | n + 1, x, hx, h1, h2 => by
    have hm := lack_mono h n
    unfold lack
    by_cases e : x = n
    · subst e
      rw [if_pos h2, if_neg (by rw [h1]; decide)]
      omega
    · have := lack_lt h (n := n) (x := x) (by omega) h1 h2
      by_cases hx : f n = true
      · rw [if_pos hx, if_pos (h n hx)]; omega
      · rw [if_neg hx]; split <;> omega
theorem Pass.less {i q : Nat} (h : Pass L s b f0 f m i q) (hm : m = true) : lack f (L.length * (s.length + 1)) < lack f0 (L.length * (s.length + 1)) := by
  obtain ⟨x, h1, h2, h3⟩ := h.new hm
  exact lack_lt h.mono h1 h2 h3
/-- at the end what is met is what is come to -/
theorem met_all (hf : Fair L) (hb : b ≤ s.length) (hr : Real L s b f) (hs : Shut L s f) (h0 : f (idx s 0 b) = true) (hi : i < L.length) (hq : q ≤ s.length) : f (idx s i q) = true ↔ Reach L s b i q := by
  refine ⟨hr i q hi hq, fun h => ?_⟩
  clear hi hq
  induction h with
  | start => exact h0
  | on h hk ih => exact hs _ _ (h.low hf) (h.in_ hb) ih (_, _) (mem_nexts.2 (Or.inl ⟨hk, rfl⟩))
  | byte h hc ht ih => exact hs _ _ (h.low hf) (h.in_ hb) ih (_, _) (mem_nexts.2 (Or.inr ⟨_, hc, ht, rfl, rfl⟩))
/-- does a step that ends stand at a place? -/
def endHere (L : List Inst) (s : Text) (f : Nat → Bool) (q : Nat) : Bool := (List.range L.length).any fun i => decide ((ins L i).kind = 7) && f (idx s i q)
theorem rising_eq : ∀ {l k : List Nat}, l.Pairwise (fun x y => x < y) → k.Pairwise (fun x y => x < y) → (∀ x, x ∈ l ↔ x ∈ k) → l = k
  | [], [], _, _, _ => rfl
  | [], y :: k, _, _, h => absurd ((h y).2 (by simp)) (by simp)
  | x :: l, [], _, _, h => absurd ((h x).1 (by simp)) (by simp)
  | x :: l, y :: k, h1, h2, h => by
    have p1 := List.pairwise_cons.1 h1
    have p2 := List.pairwise_cons.1 h2
    have hxy : x = y := by
      rcases List.mem_cons.1 ((h x).1 (by simp)) with e | e
      · exact e
      · rcases List.mem_cons.1 ((h y).2 (by simp)) with e2 | e2
        · exact e2.symm
        · have := p1.1 y e2
          have := p2.1 x e
          omega
    subst hxy
    congr 1
    refine rising_eq p1.2 p2.2 fun z => ⟨fun hz => ?_, fun hz => ?_⟩
    · rcases List.mem_cons.1 ((h z).1 (by simp [hz])) with e | e
      · subst e; exact absurd (p1.1 z hz) (Nat.lt_irrefl _)
      · exact e
    · rcases List.mem_cons.1 ((h z).2 (by simp [hz])) with e | e
      · subst e; exact absurd (p2.1 z hz) (Nat.lt_irrefl _)
      · exact e
theorem ends_out (hr : rightP L = true) (hb : b ≤ s.length) (hR : Real L s b f) (hs : Shut L s f) (h0 : f (idx s 0 b) = true) : (yields L s b b).map Prod.snd = (List.range (s.length + 1)).filter (endHere L s f) := by
  have hf := fair_of hr
  obtain ⟨h1, h2⟩ := yields_one hf hr hb
  refine rising_eq h1 (List.Pairwise.filter _ List.pairwise_lt_range) fun t => ?_
  rw [h2, List.mem_filter, List.mem_range]
  unfold endHere
  rw [List.any_eq_true]
  constructor
  · rintro ⟨i, h7, hi⟩
    have hq := hi.in_ hb
    refine ⟨by omega, i, List.mem_range.2 (hi.low hf), ?_⟩
    rw [Bool.and_eq_true]
    exact ⟨by simpa using h7, (met_all hf hb hR hs h0 (hi.low hf) hq).2 hi⟩
  · rintro ⟨hq, i, hi, h3⟩
    rw [Bool.and_eq_true] at h3
    rw [List.mem_range] at hi
    exact ⟨i, by simpa using h3.1, (met_all hf hb hR hs h0 hi (by omega)).1 h3.2⟩
end
end Go.Proofs.YtehdnbidgphecaaGreatDoor.M16
