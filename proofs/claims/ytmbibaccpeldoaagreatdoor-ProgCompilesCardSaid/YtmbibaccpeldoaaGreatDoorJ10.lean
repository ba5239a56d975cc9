/-
  Texts joined, in build order, each with its own comment and its own conditions: W14Size, W15PSize, OpenPiece.
-/
import Derived.Test.YtmbibaccpeldoaaGreatDoorJ09
import Derived.Deep.RegionHeld3
import Derived.BigQuiet
import Derived.Test.YtmbibaccpeldoaaGreatDoorJ01
import Derived.KernelRfl
/-
  Layer 14 (pattern), walk of the program's Size: of a piece that may be it is the mathematics' size. The conditions stand in the statements.
-/
namespace Go.Proofs.YtmbibaccpeldoaaGreatDoor.W14
set_option maxRecDepth 100000
open Go Go.RowKit Go.Proofs.YtmbibaccpeldoaaGreatDoor.Strs Go.Proofs.YtmbibaccpeldoaaGreatDoor.Recs Go.Proofs.YtmbibaccpeldoaaGreatDoor.M14
open Go.Proofs.YtmbibaccpeldoaaGreatDoor.Kit (below_draws on)

set_option maxHeartbeats 4000000 in
theorem psize_leaf {k : Int} (hk : k = 1 ∨ k = 2 ∨ k = 3 ∨ k = 4 ∨ k = 5 ∨ k = 6) (t : ByteArray) : PSize (M14.leaf k t) := by
  intro w r h
  unfold SizeTo
  rw [size_leaf hk]
  unfold M14.leaf at h
  obtain ⟨A, c, raws, rfl, k1⟩ := h.parts
  have r1 := k1.room.2
  simp only [List.length_nil]
  clear h k1
  rcases hk with rfl | rfl | rfl | rfl | rfl | rfl
  all_goals
    go_enter Tryz.func25, Tryz.ntmps25
    go_wp2_with (first
      | (refine box_arg rfl (.tmp 0) rfl rfl ?_; intro w1 b1 e1 p1 l1 z1; have a0 := p1.c0; have L1 := Lib.hid l1; clear e1 p1 l1 z1; simp only at a0))
    go_ret
    exact ⟨by first | rfl | simp, L1.out⟩
theorem min_sum {N M0 : Nat} (h : min 4001 N = min 4001 M0) : min (N : Int) 4001 = ((min 4001 M0 : Nat) : Int) := by omega
set_option maxHeartbeats 4000000 in
theorem psize_seq {ks : List Piece} (IH : ∀ i (hi : i < ks.length), PSize ks[i]) : PSize (.mk 7 ⟨#[]⟩ ks 0 0) := by
  intro w r h
  unfold SizeTo
  have hs : size (.mk 7 ⟨#[]⟩ ks 0 0) = min 4001 (sizes ks) := by
    unfold size
    rw [if_neg (by decide), if_neg (by decide), if_pos rfl]
  rw [hs]
  obtain ⟨A, c, raws, rfl, k1⟩ := h.parts
  have HI := Lib.hid IH
  have K1 := Lib.hid k1
  have hr1 := k1.room.1
  have hr2 := k1.room.2
  clear h k1 IH hs
  go_enter Tryz.func25, Tryz.ntmps25
  go_wp2_with (first
    | (refine box_arg (r := ⟨7, ⟨#[]⟩, A, ks.length, c, 0, 0⟩) rfl (.tmp 0) rfl rfl ?_; intro w1 b1 e1 p1 l1 z1; have a0 := p1.c0; have a2 := p1.c2; have L1 := Lib.hid l1; clear e1 p1 l1 z1; simp only at a0 a2))
  refine (psizes_any HI.out (K1.out.below L1.out)).mono ?_
  rintro e w2 ⟨N, rfl, hN1, hN2, l2⟩
  have L2 := Lib.hid (L1.out.trans (l2.mono L1.out.size))
  have hmin := min_sum hN1.out
  have HMIN := Lib.hid hmin
  clear l2 hN1 hN2
  go_wp2_with fail
  go_ret
  exact ⟨by first | rfl | exact congrArg (fun x => Ending.returned (Value.int .i64 x)) HMIN.out, L2.out⟩
set_option maxHeartbeats 4000000 in
theorem psize_alt {ks : List Piece} (h3 : ks.length ≤ 1000 ∧ 2 ≤ ks.length) (IH : ∀ i (hi : i < ks.length), PSize ks[i]) : PSize (.mk 8 ⟨#[]⟩ ks 0 0) := by
  intro w r h
  unfold SizeTo
  have hs : size (.mk 8 ⟨#[]⟩ ks 0 0) = min 4001 (sizes ks + 2 * (ks.length - 1)) := by
    unfold size
    rw [if_neg (by decide), if_neg (by decide), if_neg (by decide), if_pos rfl]
  rw [hs]
  obtain ⟨A, c, raws, rfl, k1⟩ := h.parts
  have HI := Lib.hid IH
  have K1 := Lib.hid k1
  have hr1 := k1.room.1
  have hr2 := k1.room.2
  obtain ⟨n, hn⟩ : ∃ n, ks.length = n + 1 := ⟨ks.length - 1, by omega⟩
  have hwn : wrap64 ((ks.length : Int) - 1) = (n : Int) := wrap_nat (by omega) (by omega)
  have hmx : max (n : Int) 0 = (n : Int) := by omega
  have hw2 : Hid (wrap64 (2 * (n : Int)) = ((2 * n : Nat) : Int)) := wrap_nat (by rw [Int.natCast_mul]; rfl) (by omega)
  obtain ⟨m, hm⟩ : ∃ m, 2 * n = m := ⟨_, rfl⟩
  rw [hm] at hw2
  have HX : Hid (wrap64 (2 * max ((ks.length : Int) - 1) 0) = (m : Int)) := by
    unfold Hid
    rw [show max ((ks.length : Int) - 1) 0 = (n : Int) by omega]; exact hw2.out
  have HWN : Hid (∀ N : Nat, min 4001 N = min 4001 (sizes ks) → N ≤ 4000000 → ∃ s : Nat, Hid (wrap64 ((N : Int) + (m : Int)) = (s : Int)) ∧ Hid (min (s : Int) 4001 = ((min 4001 (sizes ks + 2 * (ks.length - 1)) : Nat) : Int))) := by
    intro N h1 h2
    refine ⟨N + m, wrap_nat2 (by rw [Int.natCast_add]) (by omega), ?_⟩
    unfold Hid
    omega
  clear h k1 IH hs h3 hn hm
  replace hwn := Lib.hid hwn
  go_enter Tryz.func25, Tryz.ntmps25
  go_wp2_with (first
    | (refine box_arg (r := ⟨8, ⟨#[]⟩, A, ks.length, c, 0, 0⟩) rfl (.tmp 0) rfl rfl ?_; intro w1 b1 e1 p1 l1 z1; have P1 := Lib.hid p1; have a0 := p1.c0; have a2 := p1.c2; have L1 := Lib.hid l1; clear e1 p1 l1 z1; simp only at a0 a2))
  have S0 : Hid ((w1.drewN 1).cell? ⟨b1, 2, none⟩ = some (.slice A ks.length c) ∧ Below w1.heap.size w1 (w1.drewN 1)) := ⟨a2, below_draws w1 1⟩
  have KEEP : Hid (∀ x, Below w1.heap.size w1 x → x.cell? ⟨b1, 2, none⟩ = some (.slice A ks.length c) ∧ Below w1.heap.size w1 x) := fun x hx => ⟨(P1.out.below hx).c2, hx⟩
  have K1 := Lib.hid (K1.out.below L1.out)
  refine wp_region_held_drew (S := fun w' => w'.cell? ⟨b1, 2, none⟩ = some (.slice A ks.length c) ∧ Below w1.heap.size w1 w') (by kernel_rfl) S0.out (fun hHeld => ?_)
  refine wpAnyH_take (i := 0) (oi := { dst := some 21, op := Op.fieldAddr 24 (Operand.tmp 1) 2, type := 0, pos := "pattern.go:256", after := #[], guard := none }) (v := ?vz0) rfl (by kernel_rfl) (by kernel_rfl) (by kernel_rfl) (fun _ _ _ h => h) (Or.inl ⟨by rfl, ?hz0⟩) (by assumption) ?rz0
  case hz0 => (intro w hSw; (try dsimp only at hSw); go_simp; try with_reducible rfl)
  try simp only [Act.put, List.setIfInBounds_toArray, List.set_cons_zero, List.set_cons_succ]
  refine wpAnyH_take (i := 1) (oi := { dst := some 22, op := Op.load 22 (Operand.tmp 21), type := 22, pos := "pattern.go:256", after := #[{ on := 0, ground := Ground.data }], guard := none }) (v := ?vz1) rfl (by kernel_rfl) (by kernel_rfl) (by kernel_rfl) (fun _ _ _ h => h) (Or.inl ⟨by rfl, ?hz1⟩) (by assumption) ?rz1
  case hz1 => (intro w hSw; (try dsimp only at hSw); go_simp; try with_reducible rfl)
  try simp only [Act.put, List.setIfInBounds_toArray, List.set_cons_zero, List.set_cons_succ]
  refine wpAnyH_take (i := 3) (oi := { dst := some 24, op := Op.fieldAddr 24 (Operand.tmp 1) 2, type := 0, pos := "pattern.go:256", after := #[], guard := none }) (v := ?vz3) rfl (by kernel_rfl) (by kernel_rfl) (by kernel_rfl) (fun _ _ _ h => h) (Or.inl ⟨by rfl, ?hz3⟩) (by assumption) ?rz3
  case hz3 => (intro w hSw; (try dsimp only at hSw); go_simp; try with_reducible rfl)
  try simp only [Act.put, List.setIfInBounds_toArray, List.set_cons_zero, List.set_cons_succ]
  refine wpAnyH_take (i := 4) (oi := { dst := some 25, op := Op.load 22 (Operand.tmp 24), type := 22, pos := "pattern.go:256", after := #[{ on := 3, ground := Ground.data }], guard := none }) (v := ?vz4) rfl (by kernel_rfl) (by kernel_rfl) (by kernel_rfl) (fun _ _ _ h => h) (Or.inl ⟨by rfl, ?hz4⟩) (by assumption) ?rz4
  case hz4 => (intro w hSw; (try dsimp only at hSw); go_simp; try with_reducible rfl)
  try simp only [Act.put, List.setIfInBounds_toArray, List.set_cons_zero, List.set_cons_succ]
  refine wpAnyH_take (i := 5) (oi := { dst := some 26, op := Op.call { callee := Callee.builtin Builtin.len, args := #[Operand.tmp 25], argTypes := #[22] }, type := 3, pos := "pattern.go:256", after := #[{ on := 4, ground := Ground.data }], guard := none }) (v := ?vz5) rfl (by kernel_rfl) (by kernel_rfl) (by kernel_rfl) (fun _ _ _ h => h) (Or.inl ⟨by rfl, ?hz5⟩) (by assumption) ?rz5
  case hz5 => (intro w hSw; (try dsimp only at hSw); go_simp; try with_reducible rfl)
  try simp only [Act.put, List.setIfInBounds_toArray, List.set_cons_zero, List.set_cons_succ]
  refine wpAnyH_take (i := 6) (oi := { dst := some 27, op := Op.binOp BinOp.sub 3 (Operand.tmp 26) (Operand.const (Value.int IntKind.i64 1)) 3, type := 3, pos := "pattern.go:256", after := #[{ on := 5, ground := Ground.data }], guard := none }) (v := ?vz6) rfl (by kernel_rfl) (by kernel_rfl) (by kernel_rfl) (fun _ _ _ h => h) (Or.inl ⟨by rfl, ?hz6⟩) (by assumption) ?rz6
  case hz6 => (intro w hSw; (try dsimp only at hSw); go_simp; try with_reducible rfl)
  try simp only [Act.put, List.setIfInBounds_toArray, List.set_cons_zero, List.set_cons_succ]
  refine wpAnyH_take (i := 7) (oi := { dst := some 28, op := Op.call { callee := Callee.builtin Builtin.max, args := #[Operand.tmp 27, Operand.const (Value.int IntKind.i64 0)], argTypes := #[3, 3] }, type := 3, pos := "pattern.go:256", after := #[{ on := 6, ground := Ground.data }], guard := none }) (v := ?vz7) rfl (by kernel_rfl) (by kernel_rfl) (by kernel_rfl) (fun _ _ _ h => h) (Or.inl ⟨by rfl, ?hz7⟩) (by assumption) ?rz7
  case hz7 => (intro w hSw; (try dsimp only at hSw); go_simp; try with_reducible rfl)
  try simp only [Act.put, List.setIfInBounds_toArray, List.set_cons_zero, List.set_cons_succ]
  refine wpAnyH_take (i := 8) (oi := { dst := some 29, op := Op.binOp BinOp.mul 3 (Operand.const (Value.int IntKind.i64 2)) (Operand.tmp 28) 3, type := 3, pos := "pattern.go:256", after := #[{ on := 7, ground := Ground.data }], guard := none }) (v := ?vz8) rfl (by kernel_rfl) (by kernel_rfl) (by kernel_rfl) (fun _ _ _ h => h) (Or.inl ⟨by rfl, ?hz8⟩) (by assumption) ?rz8
  case hz8 => (intro w hSw; (try dsimp only at hSw); go_simp; try with_reducible rfl)
  try simp only [Act.put, List.setIfInBounds_toArray, List.set_cons_zero, List.set_cons_succ]
  refine wpAnyH_ready (rs := [2]) (by kernel_rfl) (by simp) ?_
  refine AllReadyH.cons (o := { dst := some 23, op := Op.call { callee := Callee.value (Operand.func 42), args := #[Operand.tmp 22], argTypes := #[22] }, type := 3, pos := "pattern.go:256", after := #[{ on := 1, ground := Ground.data }], guard := none }) rfl (fun K hK => ?_) AllReadyH.nil
  go_simp
  (go_at_call 42; refine (psizes_any HI.out (K1.out.below S0.out.2)).mono ?_; rintro e x1 ⟨N, rfl, hN1, hN2, l5⟩; have hS1 := KEEP.out _ (S0.out.2.trans (l5.mono S0.out.2.size)); have hwN := HWN.out N hN1.out hN2.out; clear l5)
  go_wp2_with fail
  refine hK.out _ _ ?_ (fun hHeld => ?_)
  · exact hS1
  clear hK K
  try simp only [Act.put, List.setIfInBounds_toArray, List.set_cons_zero, List.set_cons_succ]
  refine wpAnyH_take (i := 9) (oi := { dst := some 30, op := Op.binOp BinOp.add 3 (Operand.tmp 23) (Operand.tmp 29) 3, type := 3, pos := "pattern.go:256", after := #[{ on := 2, ground := Ground.data }, { on := 8, ground := Ground.data }], guard := none }) (v := ?vz9) rfl (by kernel_rfl) (by kernel_rfl) (by kernel_rfl) (fun _ _ _ h => h) (Or.inl ⟨by rfl, ?hz9⟩) (by assumption) ?rz9
  case hz9 => (intro w hSw; (try dsimp only at hSw); go_simp; try with_reducible rfl)
  try simp only [Act.put, List.setIfInBounds_toArray, List.set_cons_zero, List.set_cons_succ]
  refine wpAnyH_take (i := 10) (oi := { dst := some 3, op := Op.assign (Operand.tmp 30), type := 3, pos := "pattern.go:256", after := #[{ on := 9, ground := Ground.data }, { on := 2, ground := Ground.chain }, { on := 0, ground := Ground.phase }, { on := 1, ground := Ground.phase }, { on := 2, ground := Ground.phase }, { on := 3, ground := Ground.phase }, { on := 4, ground := Ground.phase }, { on := 5, ground := Ground.phase }, { on := 6, ground := Ground.phase }, { on := 7, ground := Ground.phase }, { on := 8, ground := Ground.phase }, { on := 9, ground := Ground.phase }], guard := none }) (v := ?vz10) rfl (by kernel_rfl) (by kernel_rfl) (by kernel_rfl) (fun _ _ _ h => h) (Or.inl ⟨by rfl, ?hz10⟩) (by assumption) ?rz10
  case hz10 => (intro w hSw; (try dsimp only at hSw); go_simp; try with_reducible rfl)
  try simp only [Act.put, List.setIfInBounds_toArray, List.set_cons_zero, List.set_cons_succ]
  refine wpAnyH_done (by kernel_rfl) ?_ _
  obtain ⟨s, hs1, hs2⟩ := hwN
  have HV : Hid (min (wrap64 ((N : Int) + wrap64 (2 * max ((ks.length : Int) - 1) 0))) 4001 = ((min 4001 (sizes ks + 2 * (ks.length - 1)) : Nat) : Int)) := by
    unfold Hid
    rw [HX.out, hs1.out]; exact hs2.out
  have L9 := Lib.hid (L1.out.trans (hS1.2.mono L1.out.size))
  clear hS1 hmx hN1 hN2 hs1 hs2
  go_wp2_with fail
  go_ret
  exact ⟨by first | rfl | exact congrArg (fun x => Ending.returned (Value.int .i64 x)) HV.out, L9.out⟩
set_option maxHeartbeats 1000000 in
theorem psize_rep {p : Piece} {m t : Int} (hR : ∀ (w : World) (r : Raw), PLow w r (.mk 9 ⟨#[]⟩ [p] m t) → Calls Tryz.prog 43 #[.agg (rawA r)] w (SumTo w (size (.mk 9 ⟨#[]⟩ [p] m t)))) : PSize (.mk 9 ⟨#[]⟩ [p] m t) := by
  intro w r h
  unfold SizeTo
  have hle := size_le (.mk 9 ⟨#[]⟩ [p] m t)
  have HR := Lib.hid (fun w => hR w r)
  have HL := Lib.hid h
  obtain ⟨s, hs⟩ : ∃ s, size (.mk 9 ⟨#[]⟩ [p] m t) = s := ⟨_, rfl⟩
  rw [hs] at HR hle ⊢
  obtain ⟨A, c, raws, rfl, k1⟩ := h.parts
  clear h k1 hs
  go_enter Tryz.func25, Tryz.ntmps25
  go_wp2_with (first
    | (refine box_arg (r := ⟨9, ⟨#[]⟩, A, [p].length, c, m, t⟩) rfl (.tmp 0) rfl rfl ?_; intro w1 b1 e1 p1 l1 z1; have P1 := Lib.hid p1; have a0 := p1.c0; have L1 := Lib.hid l1; clear e1 p1 l1 z1; simp only at a0)
    | (refine load_piece (r := ⟨9, ⟨#[]⟩, A, [p].length, c, m, t⟩) rfl (.tmp 1) rfl rfl P1.out ?_))
  refine (HR.out _ (HL.out.below L1.out)).mono ?_
  rintro e w2 ⟨N, rfl, hN1, hN2, l2⟩
  have L2 := Lib.hid (L1.out.trans (l2.mono L1.out.size))
  have HV : Hid (min (N : Int) 4001 = (s : Int)) := by have := hN1.out; unfold Hid; omega
  clear l2 hN1 hN2 hle
  go_wp2_with fail
  go_ret
  exact ⟨by first | rfl | exact congrArg (fun x => Ending.returned (Value.int .i64 x)) HV.out, L2.out⟩
theorem psize_any {p : Piece} (h : Whole p) : PSize p := by
  induction h with
  | none k hk => exact psize_leaf (by omega) _
  | char c => exact psize_leaf (by omega) _
  | set f => exact psize_leaf (by omega) _
  | many k hk l h2 h3 hw ih =>
    have IH : ∀ i (hi : i < l.length), PSize l[i] := fun i hi => ih l[i] (List.getElem_mem hi)
    rcases hk with rfl | rfl
    · exact psize_seq IH
    · exact psize_alt ⟨h3, h2⟩ IH
  | rep p m t hm ht hw ih =>
    obtain ⟨M, rfl⟩ : ∃ M : Nat, m = (M : Int) := ⟨m.toNat, by omega⟩
    by_cases q : t = -1
    · subst q; exact psize_rep fun w r q => repeated_ever (by omega) ih q
    · obtain ⟨T, rfl⟩ : ∃ T : Nat, t = (T : Int) := ⟨t.toNat, by omega⟩
      exact psize_rep fun w r q => repeated_upto (by omega) (by omega) ih q
end Go.Proofs.YtmbibaccpeldoaaGreatDoor.W14
/-
  Layer 15 (prog), walks of the program's isRepeat and Size of any piece. The conditions stand in the statements.
-/
namespace Go.Proofs.YtmbibaccpeldoaaGreatDoor.W15
set_option maxRecDepth 100000
open Go Go.RowKit Go.Proofs.YtmbibaccpeldoaaGreatDoor.Strs Go.Proofs.YtmbibaccpeldoaaGreatDoor.Recs Go.Proofs.YtmbibaccpeldoaaGreatDoor.M15
open Go.Proofs.YtmbibaccpeldoaaGreatDoor.M14 (Piece mayB)
open Go.Proofs.YtmbibaccpeldoaaGreatDoor.W14 (Raw rawA rawC PAt PBox PLow box_arg load_piece load_at alloc_piece store_piece two_new cell_block wrap_nat wrap_nat2 min_nat mul_small mayBe_any min_sum)
open Go.Proofs.YtmbibaccpeldoaaGreatDoor.Kit (below_draws on)

/-- no list of kids is beyond all memory -/
inductive Small : Piece → Prop
  | mk (k : Int) (t : ByteArray) (ks : List Piece) (m tp : Int) (h : ks.length ≤ 1125899906842624) (hk : ∀ p, p ∈ ks → Small p) : Small (.mk k t ks m tp)
theorem Small.parts {k : Int} {t : ByteArray} {ks : List Piece} {m tp : Int} (h : Small (.mk k t ks m tp)) : ks.length ≤ 1125899906842624 ∧ ∀ p, p ∈ ks → Small p := by
  cases h with
  | mk _ _ _ _ _ h hk => exact ⟨h, hk⟩
def PG (p : Piece) : Prop := ∀ (w : World) (r : Raw), PLow w r p → Calls Tryz.prog 25 #[.agg (rawA r)] w (GTo w p)
def GSum (w : World) (N0 : Nat) (e : Ending) (w' : World) : Prop := ∃ N : Nat, e = .returned (.int .i64 N) ∧ Hid (min 4001 N = min 4001 N0) ∧ Hid (N ≤ 4000000) ∧ Below w.heap.size w w'
theorem oft_may (t : ByteArray) (n : Nat) (m tp : Int) : oft t n m tp = (decide (n = 1) && (decide (t.size = 0) && mayB m tp)) := by
  unfold oft mayB
  by_cases h1 : n = 1 <;> by_cases h2 : t.size = 0 <;> by_cases h3 : 0 ≤ m <;> by_cases h4 : m ≤ 100 <;> simp [*]
  by_cases h5 : tp = -1
  · simp [h5]
  · by_cases h6 : tp ≤ 100 <;> by_cases h7 : m ≤ tp <;> simp [*]
set_option maxHeartbeats 2000000 in
theorem isRepeat_gen (k : Int) (t : ByteArray) (A : Option Addr) (n c : Nat) (m tp : Int) (hr : n ≤ c ∧ c ≤ 9223372036854775807) : Asks 62 ⟨k, t, A, n, c, m, tp⟩ (oft t n m tp) := by
  intro w
  rw [oft_may]
  have HM := Lib.hid (mayBe_any m tp)
  obtain ⟨b, hb⟩ : ∃ b, mayB m tp = b := ⟨_, rfl⟩
  rw [hb] at HM ⊢
  have hc1 := hr.1
  have hc2 := hr.2
  clear hr hb
  by_cases h1 : n = 1
  · subst h1
    rw [decide_eq_true (rfl : (1 : Nat) = 1), Bool.true_and]
    by_cases h2 : t.size = 0
    · have : t = ⟨#[]⟩ := no_of h2
      subst this
      rw [decide_eq_true h2, Bool.true_and]
      clear h2
      go_enter Tryz.func62, Tryz.ntmps62
      go_wp2_with (first
        | (refine box_arg (r := ⟨k, ⟨#[]⟩, A, 1, c, m, tp⟩) rfl (.tmp 0) rfl rfl ?_; intro w1 b1 e1 p1 l1 z1; have a1 := p1.c1; have a2 := p1.c2; have a3 := p1.c3; have a4 := p1.c4; have L1 := Lib.hid l1; clear e1 p1 l1 z1; simp only at a1 a2 a3 a4))
      refine (HM.out _).mono ?_
      rintro e w2 ⟨rfl, rfl⟩
      go_wp2_with fail
      go_ret
      exact ⟨rfl, L1.out⟩
    · have te := Kit.list_full (s := t) (by omega)
      have te2 := Kit.list_ne (s := t) (by omega)
      rw [decide_eq_false h2, Bool.false_and]
      clear h2
      go_enter Tryz.func62, Tryz.ntmps62
      go_wp2_with (first
        | (refine box_arg (r := ⟨k, t, A, 1, c, m, tp⟩) rfl (.tmp 0) rfl rfl ?_; intro w1 b1 e1 p1 l1 z1; have a1 := p1.c1; have a2 := p1.c2; have a3 := p1.c3; have a4 := p1.c4; have L1 := Lib.hid l1; clear e1 p1 l1 z1; simp only at a1 a2 a3 a4))
      go_ret
      exact ⟨rfl, L1.out⟩
  · have tn : ((n : Int) == 1) = false := by simp; omega
    rw [decide_eq_false h1, Bool.false_and]
    clear h1
    go_enter Tryz.func62, Tryz.ntmps62
    go_wp2_with (first
      | (refine box_arg (r := ⟨k, t, A, n, c, m, tp⟩) rfl (.tmp 0) rfl rfl ?_; intro w1 b1 e1 p1 l1 z1; have a1 := p1.c1; have a2 := p1.c2; have a3 := p1.c3; have a4 := p1.c4; have L1 := Lib.hid l1; clear e1 p1 l1 z1; simp only at a1 a2 a3 a4))
    go_ret
    exact ⟨rfl, L1.out⟩
theorem pg_often {x : ByteArray} {A : Option Addr} {n c : Nat} {m t : Int} (ho : oft x n m t = true) (hr : n ≤ c ∧ c ≤ 9223372036854775807) (w : World) : Calls Tryz.prog 62 #[.agg (rawA ⟨9, x, A, n, c, m, t⟩)] w fun e w' => e = .returned (.bool true) ∧ Below w.heap.size w w' := by
  have := isRepeat_gen 9 x A n c m t hr w
  rw [ho] at this
  exact this
set_option maxHeartbeats 4000000 in
theorem pg_leaf {k : Int} (hk : 1 ≤ k ∧ k ≤ 6) (t : ByteArray) (ks : List Piece) (l tp : Int) : PG (.mk k t ks l tp) := by
  intro w r h
  unfold GTo
  rw [gsize_1 hk]
  obtain ⟨A, c, raws, rfl, k1⟩ := h.parts
  have r1 := k1.room.2
  clear h k1
  have : k = 1 ∨ k = 2 ∨ k = 3 ∨ k = 4 ∨ k = 5 ∨ k = 6 := by omega
  clear hk
  rcases this with rfl | rfl | rfl | rfl | rfl | rfl
  all_goals
    go_enter Tryz.func25, Tryz.ntmps25
    go_wp2_with (first
      | (refine box_arg rfl (.tmp 0) rfl rfl ?_; intro w1 b1 e1 p1 l1 z1; have a0 := p1.c0; have L1 := Lib.hid l1; clear e1 p1 l1 z1; simp only at a0))
    go_ret
    exact ⟨by first | rfl | simp, L1.out⟩
set_option maxHeartbeats 4000000 in
theorem pg_other {k : Int} (hk : ¬ (1 ≤ k ∧ k ≤ 9)) (t : ByteArray) (ks : List Piece) (l tp : Int) : PG (.mk k t ks l tp) := by
  intro w r h
  unfold GTo
  rw [gsize_no hk]
  obtain ⟨A, c, raws, rfl, k1⟩ := h.parts
  have r1 := k1.room.2
  obtain ⟨n, hn⟩ : ∃ n, ks.length = n := ⟨_, rfl⟩
  rw [hn]
  have t1 : (k == 1) = false := by simp; omega
  have t2 : (k == 2) = false := by simp; omega
  have t3 : (k == 3) = false := by simp; omega
  have t4 : (k == 4) = false := by simp; omega
  have t5 : (k == 5) = false := by simp; omega
  have t6 : (k == 6) = false := by simp; omega
  have t7 : (k == 7) = false := by simp; omega
  have t8 : (k == 8) = false := by simp; omega
  have t9 : (k == 9) = false := by simp; omega
  clear h k1 hk hn
  go_enter Tryz.func25, Tryz.ntmps25
  go_wp2_with (first
    | (refine box_arg (r := ⟨k, t, A, n, c, l, tp⟩) rfl (.tmp 0) rfl rfl ?_; intro w1 b1 e1 p1 l1 z1; have a0 := p1.c0; have L1 := Lib.hid l1; clear e1 p1 l1 z1; simp only at a0))
  go_ret
  exact ⟨by first | rfl | simp, L1.out⟩
set_option maxHeartbeats 4000000 in
theorem pgs_any {ks : List Piece} (IH : ∀ i (hi : i < ks.length), PG ks[i]) {w : World} {A : Option Addr} {c : Nat} {raws : List Raw} (k1 : Kids w A c raws ks) : Calls Tryz.prog 42 #[.slice A ks.length c] w (GSum w (gsizes ks)) := by
  have HI := Lib.hid IH
  have hr1 := k1.room.1
  have hr2 := k1.room.2
  have K1 := Lib.hid k1
  have HR := Lib.hid (show ks.length ≤ c ∧ c ≤ 9223372036854775807 from ⟨hr1, hr2⟩)
  clear IH k1
  go_enter Tryz.func42, Tryz.ntmps42
  go_wp2_with fail
  clear hr1 hr2
  go_loopg [3, 8] ks.length (fun gk s3 s8 wr => ∃ i n : Nat, s3 = .int .i64 n ∧ s8 = .int .i64 i ∧ Hid (n = gsizes (ks.take i)) ∧ Hid (n ≤ 4000) ∧ Hid (i + gk = ks.length) ∧ Hid (Kids wr A c raws ks) ∧ Hid (Below w.heap.size w wr))
  case atStart => exact ⟨0, 0, rfl, rfl, rfl, Nat.zero_le _, by unfold Hid; omega, K1, Below.refl _ _⟩
  case round =>
    obtain ⟨i, n, rfl, rfl, hn, hnl, hig, K1, HB⟩ := hrel
    have hn1 := HR.out.1
    have hn2 := HR.out.2
    by_cases hi : i < ks.length
    · have ti : (i : Int) < (ks.length : Int) := by omega
      obtain ⟨g1, o1, rfl, C1⟩ := K1.out.at_ (Nat.lt_of_le_of_lt (Nat.zero_le _) hi)
      obtain ⟨hr1, q1⟩ := K1.out.kid hi
      have E1 := Lib.hid (C1 i hr1)
      have Q1 := Lib.hid q1
      have HS := Lib.hid (gsize_le (ks[i]'hi))
      have HT := Lib.hid (gsizes_take hi)
      have HI2 := Lib.hid hi
      obtain ⟨rk, hrk⟩ : ∃ rk, raws[i]'hr1 = rk := ⟨_, rfl⟩
      rw [hrk] at E1 Q1
      have HC := Lib.hid (fun (w : World) (h : PLow w rk (ks[i]'hi)) => HI.out i hi w rk h)
      obtain ⟨m, hm⟩ : ∃ m, gsize (ks[i]'hi) = m := ⟨_, rfl⟩
      have HM := Lib.hid hm
      rw [hm] at HS HT
      clear C1 q1 hm hrk
      go_wp2_with (first
        | (refine load_at rfl (.tmp 10) rfl rfl (r := rk) E1.out ?_)
        | (refine alloc_piece rfl rfl ?_; intro w3 b3 e3 p3 l3 z3)
        | (refine store_piece (r := rk) rfl (.tmp 5) (.tmp 11) rfl rfl rfl p3 ?_; intro w4 p4 l4 z4; have L4 := Lib.hid (two_new l3 l4 e3); have P4 := Lib.hid p4; clear e3 p3 l3 z3 p4 l4 z4)
        | (refine load_piece (r := rk) rfl (.tmp 5) rfl rfl P4.out ?_))
      refine (HC.out _ (Q1.out.below L4.out)).mono ?_
      rintro e w5 ⟨rfl, l5⟩
      rw [HM.out]
      have K5 := Lib.hid ((K1.out.below L4.out).below l5)
      have B5 := Lib.hid (HB.out.trans ((L4.out.trans (l5.mono L4.out.size)).mono HB.out.size))
      obtain ⟨s, hs⟩ : ∃ s, n + m = s := ⟨_, rfl⟩
      have hw : Hid (wrap64 ((n : Int) + (m : Int)) = (s : Int)) := wrap_nat (by rw [← hs, Int.natCast_add]) (by have := HS.out; have := hnl.out; omega)
      have HSS : Hid (s = gsizes (ks.take (i + 1)) ∧ s ≤ 8001) := ⟨by rw [HT.out, ← hn.out]; exact hs.symm, by have := HS.out; have := hnl.out; omega⟩
      have hwi : Hid (wrap64 ((i : Int) + 1) = ((i + 1 : Nat) : Int)) := by unfold Hid wrap64; omega
      have HW := hw
      clear l5 hs hn hnl HS HT HM
      by_cases hbig : 4001 ≤ s
      · have tb : (4001 : Int) ≤ (s : Int) := by omega
        have HEQ : Hid (min 4001 s = min 4001 (gsizes ks)) := by
          have h1 := gsizes_take_le ks (i + 1)
          rw [← HSS.out.1] at h1
          unfold Hid; omega
        have HSB : Hid (s ≤ 4000000) := Nat.le_trans HSS.out.2 (by decide)
        replace hw := hw.out
        clear hbig
        go_wp2_with fail
        go_ret
        exact ⟨s, by first | rfl | exact congrArg (fun x => Ending.returned (Value.int .i64 x)) HW.out, HEQ, HSB, B5.out⟩
      · have tb : ¬ (4001 : Int) ≤ (s : Int) := by omega
        have HSB : Hid (s ≤ 4000) := by unfold Hid; omega
        cases gk with
        | zero => exact absurd hig.out (by have := HI2.out; omega)
        | succ g =>
          replace hw := hw.out
          replace hwi := hwi.out
          have HWI := Lib.hid hwi
          clear hbig
          go_wp2_with fail
          go_roundg g
          case measure => omega
          case rel => exact ⟨i + 1, s, by first | rfl | exact congrArg (Value.int .i64) HW.out, by first | rfl | exact congrArg (Value.int .i64) HWI.out, HSS.out.1, HSB, by have := hig.out; unfold Hid; omega, K5, B5⟩
    · have ti : ¬ (i : Int) < (ks.length : Int) := by omega
      have hie : i = ks.length := by have := hig.out; omega
      have HE : Hid (n = gsizes ks) := by have := hn.out; rw [hie, List.take_length] at this; exact this
      have HSB : Hid (n ≤ 4000000) := Nat.le_trans hnl.out (by decide)
      clear hie
      go_wp2_with fail
      go_ret
      exact ⟨n, rfl, by rw [HE.out]; rfl, HSB, HB.out⟩
set_option maxHeartbeats 4000000 in
theorem pg_seq {t : ByteArray} {l tp : Int} {ks : List Piece} (IH : ∀ i (hi : i < ks.length), PG ks[i]) : PG (.mk 7 t ks l tp) := by
  intro w r h
  unfold GTo
  have hs : gsize (.mk 7 t ks l tp) = min 4001 (gsizes ks) := by
    unfold gsize
    rw [if_neg (by decide), if_neg (by decide), if_pos rfl]
  rw [hs]
  obtain ⟨A, c, raws, rfl, k1⟩ := h.parts
  have HI := Lib.hid IH
  have K1 := Lib.hid k1
  have hr1 := k1.room.1
  have hr2 := k1.room.2
  clear h k1 IH hs
  go_enter Tryz.func25, Tryz.ntmps25
  go_wp2_with (first
    | (refine box_arg (r := ⟨7, t, A, ks.length, c, l, tp⟩) rfl (.tmp 0) rfl rfl ?_; intro w1 b1 e1 p1 l1 z1; have a0 := p1.c0; have a2 := p1.c2; have L1 := Lib.hid l1; clear e1 p1 l1 z1; simp only at a0 a2))
  refine (pgs_any HI.out (K1.out.below L1.out)).mono ?_
  rintro e w2 ⟨N, rfl, hN1, hN2, l2⟩
  have L2 := Lib.hid (L1.out.trans (l2.mono L1.out.size))
  have hmin := min_sum hN1.out
  have HMIN := Lib.hid hmin
  clear l2 hN1 hN2
  go_wp2_with fail
  go_ret
  exact ⟨by first | rfl | exact congrArg (fun x => Ending.returned (Value.int .i64 x)) HMIN.out, L2.out⟩
set_option maxHeartbeats 4000000 in
theorem pg_alt {t : ByteArray} {l tp : Int} {ks : List Piece} (h3 : ks.length ≤ 1125899906842624) (IH : ∀ i (hi : i < ks.length), PG ks[i]) : PG (.mk 8 t ks l tp) := by
  intro w r h
  unfold GTo
  have hs : gsize (.mk 8 t ks l tp) = min 4001 (gsizes ks + 2 * (ks.length - 1)) := by
    unfold gsize
    rw [if_neg (by decide), if_neg (by decide), if_neg (by decide), if_pos rfl]
  rw [hs]
  obtain ⟨A, c, raws, rfl, k1⟩ := h.parts
  have HI := Lib.hid IH
  have K1 := Lib.hid k1
  have hr1 := k1.room.1
  have hr2 := k1.room.2
  obtain ⟨m, hm⟩ : ∃ m, 2 * (ks.length - 1) = m := ⟨_, rfl⟩
  have HX : Hid (wrap64 (2 * max ((ks.length : Int) - 1) 0) = (m : Int)) := by
    unfold Hid wrap64
    omega
  have HWN : Hid (∀ N : Nat, min 4001 N = min 4001 (gsizes ks) → N ≤ 4000000 → ∃ s : Nat, Hid (wrap64 ((N : Int) + (m : Int)) = (s : Int)) ∧ Hid (min (s : Int) 4001 = ((min 4001 (gsizes ks + 2 * (ks.length - 1)) : Nat) : Int))) := by
    intro N h1 h2
    refine ⟨N + m, by unfold Hid wrap64; omega, ?_⟩
    unfold Hid
    rw [← hm] at *
    obtain ⟨G, hG⟩ : ∃ G, gsizes ks = G := ⟨_, rfl⟩
    rw [hG] at h1 ⊢
    clear hG hs HX HI K1 IH h k1
    omega
  clear h k1 IH hs h3 hm
  go_enter Tryz.func25, Tryz.ntmps25
  go_wp2_with (first
    | (refine box_arg (r := ⟨8, t, A, ks.length, c, l, tp⟩) rfl (.tmp 0) rfl rfl ?_; intro w1 b1 e1 p1 l1 z1; have P1 := Lib.hid p1; have a0 := p1.c0; have a2 := p1.c2; have L1 := Lib.hid l1; clear e1 p1 l1 z1; simp only at a0 a2))
  have S0 : Hid ((w1.drewN 1).cell? ⟨b1, 2, none⟩ = some (.slice A ks.length c) ∧ Below w1.heap.size w1 (w1.drewN 1)) := ⟨a2, below_draws w1 1⟩
  have KEEP : Hid (∀ x, Below w1.heap.size w1 x → x.cell? ⟨b1, 2, none⟩ = some (.slice A ks.length c) ∧ Below w1.heap.size w1 x) := fun x hx => ⟨(P1.out.below hx).c2, hx⟩
  have K1 := Lib.hid (K1.out.below L1.out)
  refine wp_region_held_drew (S := fun w' => w'.cell? ⟨b1, 2, none⟩ = some (.slice A ks.length c) ∧ Below w1.heap.size w1 w') (by kernel_rfl) S0.out (fun hHeld => ?_)
  refine wpAnyH_take (i := 0) (oi := { dst := some 21, op := Op.fieldAddr 24 (Operand.tmp 1) 2, type := 0, pos := "pattern.go:256", after := #[], guard := none }) (v := ?vz0) rfl (by kernel_rfl) (by kernel_rfl) (by kernel_rfl) (fun _ _ _ h => h) (Or.inl ⟨by rfl, ?hz0⟩) (by assumption) ?rz0
  case hz0 => (intro w hSw; (try dsimp only at hSw); go_simp; try with_reducible rfl)
  try simp only [Act.put, List.setIfInBounds_toArray, List.set_cons_zero, List.set_cons_succ]
  refine wpAnyH_take (i := 1) (oi := { dst := some 22, op := Op.load 22 (Operand.tmp 21), type := 22, pos := "pattern.go:256", after := #[{ on := 0, ground := Ground.data }], guard := none }) (v := ?vz1) rfl (by kernel_rfl) (by kernel_rfl) (by kernel_rfl) (fun _ _ _ h => h) (Or.inl ⟨by rfl, ?hz1⟩) (by assumption) ?rz1
  case hz1 => (intro w hSw; (try dsimp only at hSw); go_simp; try with_reducible rfl)
  try simp only [Act.put, List.setIfInBounds_toArray, List.set_cons_zero, List.set_cons_succ]
  refine wpAnyH_take (i := 3) (oi := { dst := some 24, op := Op.fieldAddr 24 (Operand.tmp 1) 2, type := 0, pos := "pattern.go:256", after := #[], guard := none }) (v := ?vz3) rfl (by kernel_rfl) (by kernel_rfl) (by kernel_rfl) (fun _ _ _ h => h) (Or.inl ⟨by rfl, ?hz3⟩) (by assumption) ?rz3
  case hz3 => (intro w hSw; (try dsimp only at hSw); go_simp; try with_reducible rfl)
  try simp only [Act.put, List.setIfInBounds_toArray, List.set_cons_zero, List.set_cons_succ]
  refine wpAnyH_take (i := 4) (oi := { dst := some 25, op := Op.load 22 (Operand.tmp 24), type := 22, pos := "pattern.go:256", after := #[{ on := 3, ground := Ground.data }], guard := none }) (v := ?vz4) rfl (by kernel_rfl) (by kernel_rfl) (by kernel_rfl) (fun _ _ _ h => h) (Or.inl ⟨by rfl, ?hz4⟩) (by assumption) ?rz4
  case hz4 => (intro w hSw; (try dsimp only at hSw); go_simp; try with_reducible rfl)
  try simp only [Act.put, List.setIfInBounds_toArray, List.set_cons_zero, List.set_cons_succ]
  refine wpAnyH_take (i := 5) (oi := { dst := some 26, op := Op.call { callee := Callee.builtin Builtin.len, args := #[Operand.tmp 25], argTypes := #[22] }, type := 3, pos := "pattern.go:256", after := #[{ on := 4, ground := Ground.data }], guard := none }) (v := ?vz5) rfl (by kernel_rfl) (by kernel_rfl) (by kernel_rfl) (fun _ _ _ h => h) (Or.inl ⟨by rfl, ?hz5⟩) (by assumption) ?rz5
  case hz5 => (intro w hSw; (try dsimp only at hSw); go_simp; try with_reducible rfl)
  try simp only [Act.put, List.setIfInBounds_toArray, List.set_cons_zero, List.set_cons_succ]
  refine wpAnyH_take (i := 6) (oi := { dst := some 27, op := Op.binOp BinOp.sub 3 (Operand.tmp 26) (Operand.const (Value.int IntKind.i64 1)) 3, type := 3, pos := "pattern.go:256", after := #[{ on := 5, ground := Ground.data }], guard := none }) (v := ?vz6) rfl (by kernel_rfl) (by kernel_rfl) (by kernel_rfl) (fun _ _ _ h => h) (Or.inl ⟨by rfl, ?hz6⟩) (by assumption) ?rz6
  case hz6 => (intro w hSw; (try dsimp only at hSw); go_simp; try with_reducible rfl)
  try simp only [Act.put, List.setIfInBounds_toArray, List.set_cons_zero, List.set_cons_succ]
  refine wpAnyH_take (i := 7) (oi := { dst := some 28, op := Op.call { callee := Callee.builtin Builtin.max, args := #[Operand.tmp 27, Operand.const (Value.int IntKind.i64 0)], argTypes := #[3, 3] }, type := 3, pos := "pattern.go:256", after := #[{ on := 6, ground := Ground.data }], guard := none }) (v := ?vz7) rfl (by kernel_rfl) (by kernel_rfl) (by kernel_rfl) (fun _ _ _ h => h) (Or.inl ⟨by rfl, ?hz7⟩) (by assumption) ?rz7
  case hz7 => (intro w hSw; (try dsimp only at hSw); go_simp; try with_reducible rfl)
  try simp only [Act.put, List.setIfInBounds_toArray, List.set_cons_zero, List.set_cons_succ]
  refine wpAnyH_take (i := 8) (oi := { dst := some 29, op := Op.binOp BinOp.mul 3 (Operand.const (Value.int IntKind.i64 2)) (Operand.tmp 28) 3, type := 3, pos := "pattern.go:256", after := #[{ on := 7, ground := Ground.data }], guard := none }) (v := ?vz8) rfl (by kernel_rfl) (by kernel_rfl) (by kernel_rfl) (fun _ _ _ h => h) (Or.inl ⟨by rfl, ?hz8⟩) (by assumption) ?rz8
  case hz8 => (intro w hSw; (try dsimp only at hSw); go_simp; try with_reducible rfl)
  try simp only [Act.put, List.setIfInBounds_toArray, List.set_cons_zero, List.set_cons_succ]
  refine wpAnyH_ready (rs := [2]) (by kernel_rfl) (by simp) ?_
  refine AllReadyH.cons (o := { dst := some 23, op := Op.call { callee := Callee.value (Operand.func 42), args := #[Operand.tmp 22], argTypes := #[22] }, type := 3, pos := "pattern.go:256", after := #[{ on := 1, ground := Ground.data }], guard := none }) rfl (fun K hK => ?_) AllReadyH.nil
  go_simp
  (go_at_call 42; refine (pgs_any HI.out (K1.out.below S0.out.2)).mono ?_; rintro e x1 ⟨N, rfl, hN1, hN2, l5⟩; have hS1 := KEEP.out _ (S0.out.2.trans (l5.mono S0.out.2.size)); have hwN := HWN.out N hN1.out hN2.out; clear l5)
  go_wp2_with fail
  refine hK.out _ _ ?_ (fun hHeld => ?_)
  · exact hS1
  clear hK K
  try simp only [Act.put, List.setIfInBounds_toArray, List.set_cons_zero, List.set_cons_succ]
  refine wpAnyH_take (i := 9) (oi := { dst := some 30, op := Op.binOp BinOp.add 3 (Operand.tmp 23) (Operand.tmp 29) 3, type := 3, pos := "pattern.go:256", after := #[{ on := 2, ground := Ground.data }, { on := 8, ground := Ground.data }], guard := none }) (v := ?vz9) rfl (by kernel_rfl) (by kernel_rfl) (by kernel_rfl) (fun _ _ _ h => h) (Or.inl ⟨by rfl, ?hz9⟩) (by assumption) ?rz9
  case hz9 => (intro w hSw; (try dsimp only at hSw); go_simp; try with_reducible rfl)
  try simp only [Act.put, List.setIfInBounds_toArray, List.set_cons_zero, List.set_cons_succ]
  refine wpAnyH_take (i := 10) (oi := { dst := some 3, op := Op.assign (Operand.tmp 30), type := 3, pos := "pattern.go:256", after := #[{ on := 9, ground := Ground.data }, { on := 2, ground := Ground.chain }, { on := 0, ground := Ground.phase }, { on := 1, ground := Ground.phase }, { on := 2, ground := Ground.phase }, { on := 3, ground := Ground.phase }, { on := 4, ground := Ground.phase }, { on := 5, ground := Ground.phase }, { on := 6, ground := Ground.phase }, { on := 7, ground := Ground.phase }, { on := 8, ground := Ground.phase }, { on := 9, ground := Ground.phase }], guard := none }) (v := ?vz10) rfl (by kernel_rfl) (by kernel_rfl) (by kernel_rfl) (fun _ _ _ h => h) (Or.inl ⟨by rfl, ?hz10⟩) (by assumption) ?rz10
  case hz10 => (intro w hSw; (try dsimp only at hSw); go_simp; try with_reducible rfl)
  try simp only [Act.put, List.setIfInBounds_toArray, List.set_cons_zero, List.set_cons_succ]
  refine wpAnyH_done (by kernel_rfl) ?_ _
  obtain ⟨s, hs1, hs2⟩ := hwN
  have HV : Hid (min (wrap64 ((N : Int) + wrap64 (2 * max ((ks.length : Int) - 1) 0))) 4001 = ((min 4001 (gsizes ks + 2 * (ks.length - 1)) : Nat) : Int)) := by
    unfold Hid
    rw [HX.out, hs1.out]; exact hs2.out
  have L9 := Lib.hid (L1.out.trans (hS1.2.mono L1.out.size))
  clear hS1 hN1 hN2 hs1 hs2
  go_wp2_with fail
  go_ret
  exact ⟨by first | rfl | exact congrArg (fun x => Ending.returned (Value.int .i64 x)) HV.out, L9.out⟩
set_option maxHeartbeats 4000000 in
theorem pgr_not {x : ByteArray} {ks : List Piece} {m t : Int} (ho : oft x ks.length m t = false) {w : World} {r : Raw} (h : PLow w r (.mk 9 x ks m t)) : Calls Tryz.prog 43 #[.agg (rawA r)] w (GSum w (gsize (.mk 9 x ks m t))) := by
  rw [gsize_not ho]
  obtain ⟨A, c, raws, rfl, k1⟩ := h.parts
  have HO := isRepeat_gen 9 x A ks.length c m t k1.room
  rw [ho] at HO
  unfold Asks at HO
  replace HO := Lib.hid HO
  obtain ⟨n, hn⟩ : ∃ n, ks.length = n := ⟨_, rfl⟩
  rw [hn] at HO ⊢
  clear h k1 hn ho
  go_enter Tryz.func43, Tryz.ntmps43
  go_wp2_with (first
    | (refine box_arg (r := ⟨9, x, A, n, c, m, t⟩) rfl (.tmp 0) rfl rfl ?_; intro w1 b1 e1 p1 l1 z1; have P1 := Lib.hid p1; have L1 := Lib.hid l1; clear e1 p1 l1 z1)
    | (refine load_piece (r := ⟨9, x, A, n, c, m, t⟩) rfl (.tmp 1) rfl rfl P1.out ?_))
  refine (HO.out _).mono ?_
  rintro e w2 ⟨rfl, l2⟩
  have L2 := Lib.hid (on L1.out l2)
  clear l2
  go_wp2_with fail
  go_ret
  exact ⟨4001, rfl, by unfold Hid; rfl, by unfold Hid; decide, L2.out⟩
set_option maxHeartbeats 4000000 in
theorem pgr_ever {p : Piece} {M : Nat} (hM : M ≤ 100) (IH : PG p) {w : World} {r : Raw} (h : PLow w r (.mk 9 ⟨#[]⟩ [p] M (-1))) : Calls Tryz.prog 43 #[.agg (rawA r)] w (GSum w (gsize (.mk 9 ⟨#[]⟩ [p] M (-1)))) := by
  rw [gsize_rep _ _ _ (oft_of hM (.inl rfl))]
  obtain ⟨A, c, raws, rfl, k1⟩ := h.parts
  have hr : 1 ≤ c ∧ c ≤ 9223372036854775807 := k1.room
  obtain ⟨g1, o1, rfl, C1⟩ := k1.at_ (Nat.lt_succ_self 0)
  obtain ⟨hr1, q1⟩ := k1.kid (i := 0) (Nat.lt_succ_self 0)
  have HG := Lib.hid (k1.2.1 _ rfl (Nat.lt_of_le_of_lt (Nat.zero_le _) hr1))
  have E1 := C1 0 hr1
  obtain ⟨rk, hrk⟩ : ∃ rk, raws[0] = rk := ⟨_, rfl⟩
  rw [hrk] at E1 q1
  have Q1 : Hid (PLow w rk p) := q1
  rw [show o1 + 0 * 5 = o1 by omega] at E1
  have E1 := Lib.hid E1
  have HI := Lib.hid (fun (w : World) (h : PLow w rk p) => IH w rk h)
  have HO := Lib.hid (fun w => pg_often (t := (-1)) (A := some ⟨g1, o1, none⟩) (oft_of hM (.inl rfl)) hr w)
  have hS := gsize_le p
  obtain ⟨K, hK⟩ : ∃ K, gsize p = K := ⟨_, rfl⟩
  have HK := Lib.hid hK
  rw [hK] at hS ⊢
  have hMS := mul_small (a := M) (b := K) (by omega) (by omega)
  obtain ⟨P, hP⟩ : ∃ P, M * K = P := ⟨_, rfl⟩
  rw [hP] at hMS
  have hw1 : Hid (wrap64 ((M : Int) * (K : Int)) = (P : Int)) := wrap_nat (by rw [← Int.natCast_mul, hP]) (Nat.le_trans hMS (by decide))
  replace hP := Lib.hid hP
  obtain ⟨P2, hP2⟩ : ∃ P2, P + K = P2 := ⟨_, rfl⟩
  have hw2 : Hid (wrap64 ((P : Int) + (K : Int)) = (P2 : Int)) := wrap_nat (by rw [← hP2, Int.natCast_add]) (by omega)
  obtain ⟨N, hN⟩ : ∃ N, P2 + 2 = N := ⟨_, rfl⟩
  have hw3 : Hid (wrap64 ((P2 : Int) + 2) = (N : Int)) := wrap_nat (by rw [← hN, Int.natCast_add]; rfl) (by omega)
  have HNB : Hid (N ≤ 4000000) := by unfold Hid; omega
  have HE : Hid (min 4001 (if (-1 : Int) = -1 then M * K + K + 2 else M * K + (-1 - (M : Int)).toNat * (K + 1)) = min 4001 N) := by
    unfold Hid
    rw [if_pos rfl, hP.out, hP2, hN]
  rw [HE.out]
  have HWL := hw3
  have HFIN : Hid (min 4001 N = min 4001 (min 4001 N)) := by unfold Hid; omega
  have hc1 := hr.1
  have hc2 := hr.2
  clear h k1 C1 q1 hrk hr1 IH hK hS hMS hr HE hM hN hP2
  go_enter Tryz.func43, Tryz.ntmps43
  go_wp2_with (first
    | (refine box_arg (r := ⟨9, ⟨#[]⟩, some ⟨g1, o1, none⟩, 1, c, (M : Int), (-1)⟩) rfl (.tmp 0) rfl rfl ?_; intro w1 b1 e1 p1 l1 z1; have P1 := Lib.hid p1; have L1 := Lib.hid l1; clear e1 p1 l1 z1)
    | (refine load_piece (r := ⟨9, ⟨#[]⟩, some ⟨g1, o1, none⟩, 1, c, (M : Int), (-1)⟩) rfl (.tmp 1) rfl rfl P1.out ?_))
  refine (HO.out _).mono ?_
  rintro e w2 ⟨rfl, l2⟩
  have PB2 := Lib.hid (P1.out.below l2)
  have L2 := Lib.hid (L1.out.trans (l2.mono L1.out.size))
  have E2 : Hid (∀ j, j < 5 → w2.cell? ⟨g1, o1 + j, none⟩ = (rawC rk)[j]?) := fun j hj => (cell_block (L2.out.block g1 HG.out)).trans (E1.out j hj)
  have Q2 := Lib.hid (Q1.out.below L2.out)
  have a2 := PB2.out.c2
  simp only at a2
  clear l2
  go_wp2_with (first | (refine load_at rfl (.tmp 10) rfl rfl (r := rk) E2.out ?_))
  refine (HI.out _ Q2.out).mono ?_
  rintro e w3 ⟨rfl, l3⟩
  rw [HK.out]
  have PB3 := Lib.hid (PB2.out.below l3)
  have L3 := Lib.hid (L2.out.trans (l3.mono L2.out.size))
  have a3 := PB3.out.c3
  have a4 := PB3.out.c4
  simp only at a3 a4
  replace hw1 := hw1.out
  replace hw2 := hw2.out
  replace hw3 := hw3.out
  clear l3
  go_wp2_with fail
  go_ret
  exact ⟨N, by first | rfl | exact congrArg (fun x => Ending.returned (Value.int .i64 x)) HWL.out, HFIN.out, HNB.out, L3.out⟩
set_option maxHeartbeats 4000000 in
theorem pgr_upto {p : Piece} {M T : Nat} (hM : M ≤ 100) (hT : M ≤ T ∧ T ≤ 100) (IH : PG p) {w : World} {r : Raw} (h : PLow w r (.mk 9 ⟨#[]⟩ [p] M (T : Int))) : Calls Tryz.prog 43 #[.agg (rawA r)] w (GSum w (gsize (.mk 9 ⟨#[]⟩ [p] M (T : Int)))) := by
  rw [gsize_rep _ _ _ (oft_of hM (.inr ⟨by omega, by omega⟩))]
  obtain ⟨A, c, raws, rfl, k1⟩ := h.parts
  have hr : 1 ≤ c ∧ c ≤ 9223372036854775807 := k1.room
  obtain ⟨g1, o1, rfl, C1⟩ := k1.at_ (Nat.lt_succ_self 0)
  obtain ⟨hr1, q1⟩ := k1.kid (i := 0) (Nat.lt_succ_self 0)
  have HG := Lib.hid (k1.2.1 _ rfl (Nat.lt_of_le_of_lt (Nat.zero_le _) hr1))
  have E1 := C1 0 hr1
  obtain ⟨rk, hrk⟩ : ∃ rk, raws[0] = rk := ⟨_, rfl⟩
  rw [hrk] at E1 q1
  have Q1 : Hid (PLow w rk p) := q1
  rw [show o1 + 0 * 5 = o1 by omega] at E1
  have E1 := Lib.hid E1
  have HI := Lib.hid (fun (w : World) (h : PLow w rk p) => IH w rk h)
  have HO := Lib.hid (fun w => pg_often (t := (T : Int)) (A := some ⟨g1, o1, none⟩) (oft_of hM (.inr ⟨by omega, by omega⟩)) hr w)
  have hS := gsize_le p
  obtain ⟨K, hK⟩ : ∃ K, gsize p = K := ⟨_, rfl⟩
  have HK := Lib.hid hK
  rw [hK] at hS ⊢
  have hMS := mul_small (a := M) (b := K) (by omega) (by omega)
  obtain ⟨P, hP⟩ : ∃ P, M * K = P := ⟨_, rfl⟩
  rw [hP] at hMS
  have hw1 : Hid (wrap64 ((M : Int) * (K : Int)) = (P : Int)) := wrap_nat (by rw [← Int.natCast_mul, hP]) (Nat.le_trans hMS (by decide))
  replace hP := Lib.hid hP
  obtain ⟨D, hD⟩ : ∃ D, T - M = D := ⟨_, rfl⟩
  have hw2 : Hid (wrap64 ((T : Int) - (M : Int)) = (D : Int)) := wrap_nat (by omega) (by omega)
  obtain ⟨K2, hK2⟩ : ∃ K2, K + 1 = K2 := ⟨_, rfl⟩
  have hw3 : Hid (wrap64 ((K : Int) + 1) = (K2 : Int)) := wrap_nat (by omega) (by omega)
  have hDS := mul_small (a := D) (b := K2) (by omega) (by omega)
  obtain ⟨G, hG⟩ : ∃ G, D * K2 = G := ⟨_, rfl⟩
  rw [hG] at hDS
  have hw4 : Hid (wrap64 ((D : Int) * (K2 : Int)) = (G : Int)) := wrap_nat (by rw [← Int.natCast_mul, hG]) (Nat.le_trans hDS (by decide))
  replace hG := Lib.hid hG
  obtain ⟨N, hN⟩ : ∃ N, P + G = N := ⟨_, rfl⟩
  have hw5 : Hid (wrap64 ((P : Int) + (G : Int)) = (N : Int)) := wrap_nat (by rw [← hN, Int.natCast_add]) (by omega)
  have HNB : Hid (N ≤ 4000000) := by unfold Hid; omega
  have HE : Hid (min 4001 (if (T : Int) = -1 then M * K + K + 2 else M * K + ((T : Int) - (M : Int)).toNat * (K + 1)) = min 4001 N) := by
    unfold Hid
    rw [if_neg (by omega), show ((T : Int) - (M : Int)).toNat = D by omega, hP.out, hK2, hG.out, hN]
  have x0 : Hid (((T : Int) == -1) = false) := by unfold Hid; simp
  rw [HE.out]
  have HWL := hw5
  have HFIN : Hid (min 4001 N = min 4001 (min 4001 N)) := by unfold Hid; omega
  have hc1 := hr.1
  have hc2 := hr.2
  clear h k1 C1 q1 hrk hr1 IH hK hS hMS hr HE hM hN hT hD hK2 hDS
  go_enter Tryz.func43, Tryz.ntmps43
  go_wp2_with (first
    | (refine box_arg (r := ⟨9, ⟨#[]⟩, some ⟨g1, o1, none⟩, 1, c, (M : Int), (T : Int)⟩) rfl (.tmp 0) rfl rfl ?_; intro w1 b1 e1 p1 l1 z1; have P1 := Lib.hid p1; have L1 := Lib.hid l1; clear e1 p1 l1 z1)
    | (refine load_piece (r := ⟨9, ⟨#[]⟩, some ⟨g1, o1, none⟩, 1, c, (M : Int), (T : Int)⟩) rfl (.tmp 1) rfl rfl P1.out ?_))
  refine (HO.out _).mono ?_
  rintro e w2 ⟨rfl, l2⟩
  have PB2 := Lib.hid (P1.out.below l2)
  have L2 := Lib.hid (L1.out.trans (l2.mono L1.out.size))
  have E2 : Hid (∀ j, j < 5 → w2.cell? ⟨g1, o1 + j, none⟩ = (rawC rk)[j]?) := fun j hj => (cell_block (L2.out.block g1 HG.out)).trans (E1.out j hj)
  have Q2 := Lib.hid (Q1.out.below L2.out)
  have a2 := PB2.out.c2
  simp only at a2
  clear l2
  go_wp2_with (first | (refine load_at rfl (.tmp 10) rfl rfl (r := rk) E2.out ?_))
  refine (HI.out _ Q2.out).mono ?_
  rintro e w3 ⟨rfl, l3⟩
  rw [HK.out]
  have PB3 := Lib.hid (PB2.out.below l3)
  have L3 := Lib.hid (L2.out.trans (l3.mono L2.out.size))
  have a3 := PB3.out.c3
  have a4 := PB3.out.c4
  simp only at a3 a4
  replace hw1 := hw1.out
  replace hw2 := hw2.out
  replace hw3 := hw3.out
  replace hw4 := hw4.out
  replace hw5 := hw5.out
  replace x0 := x0.out
  clear l3
  go_wp2_with fail
  go_ret
  exact ⟨N, by first | rfl | exact congrArg (fun x => Ending.returned (Value.int .i64 x)) HWL.out, HFIN.out, HNB.out, L3.out⟩
set_option maxHeartbeats 1000000 in
theorem pg_rep {x : ByteArray} {ks : List Piece} {m t : Int} (hR : ∀ (w : World) (r : Raw), PLow w r (.mk 9 x ks m t) → Calls Tryz.prog 43 #[.agg (rawA r)] w (GSum w (gsize (.mk 9 x ks m t)))) : PG (.mk 9 x ks m t) := by
  intro w r h
  unfold GTo
  have hle := gsize_le (.mk 9 x ks m t)
  have HR := Lib.hid (fun w => hR w r)
  have HL := Lib.hid h
  obtain ⟨s, hs⟩ : ∃ s, gsize (.mk 9 x ks m t) = s := ⟨_, rfl⟩
  rw [hs] at HR hle ⊢
  obtain ⟨A, c, raws, rfl, k1⟩ := h.parts
  clear h k1 hs
  go_enter Tryz.func25, Tryz.ntmps25
  go_wp2_with (first
    | (refine box_arg (r := ⟨9, x, A, ks.length, c, m, t⟩) rfl (.tmp 0) rfl rfl ?_; intro w1 b1 e1 p1 l1 z1; have P1 := Lib.hid p1; have a0 := p1.c0; have L1 := Lib.hid l1; clear e1 p1 l1 z1; simp only at a0)
    | (refine load_piece (r := ⟨9, x, A, ks.length, c, m, t⟩) rfl (.tmp 1) rfl rfl P1.out ?_))
  refine (HR.out _ (HL.out.below L1.out)).mono ?_
  rintro e w2 ⟨N, rfl, hN1, hN2, l2⟩
  have L2 := Lib.hid (L1.out.trans (l2.mono L1.out.size))
  have HV : Hid (min (N : Int) 4001 = (s : Int)) := by have := hN1.out; unfold Hid; omega
  clear l2 hN1 hN2 hle
  go_wp2_with fail
  go_ret
  exact ⟨by first | rfl | exact congrArg (fun x => Ending.returned (Value.int .i64 x)) HV.out, L2.out⟩
theorem pg_any (p : Piece) : Small p → PG p := by
  induction p using M15.ind with
  | h k t ks m tp ih =>
    intro hs
    obtain ⟨s1, s2⟩ := hs.parts
    have IH : ∀ i (hi : i < ks.length), PG ks[i] := fun i hi => ih ks[i] (List.getElem_mem hi) (s2 _ (List.getElem_mem hi))
    by_cases h1 : 1 ≤ k ∧ k ≤ 6
    · exact pg_leaf h1 t ks m tp
    by_cases h7 : k = 7
    · subst h7; exact pg_seq IH
    by_cases h8 : k = 8
    · subst h8; exact pg_alt s1 IH
    by_cases h9 : k = 9
    · subst h9
      refine pg_rep fun w r h => ?_
      cases ho : oft t ks.length m tp with
      | false => exact pgr_not ho h
      | true =>
        obtain ⟨a1, a2, a3, a4⟩ := oft_is ho
        obtain ⟨p, rfl⟩ : ∃ p, ks = [p] := List.length_eq_one_iff.1 a1
        have ht : t = ⟨#[]⟩ := no_of a2
        subst ht
        obtain ⟨M, rfl⟩ : ∃ M : Nat, m = (M : Int) := ⟨m.toNat, by omega⟩
        have IHp := ih p (by simp) (s2 p (by simp))
        by_cases q : tp = -1
        · subst q; exact pgr_ever (by omega) IHp h
        · obtain ⟨T, rfl⟩ : ∃ T : Nat, tp = (T : Int) := ⟨tp.toNat, by omega⟩
          exact pgr_upto (by omega) ⟨by omega, by omega⟩ IHp h
    exact pg_other (by omega) t ks m tp
end Go.Proofs.YtmbibaccpeldoaaGreatDoor.W15
/-
  An argument that is a piece, opened. For this program's types; no condition but those that each theorem bears.
-/
namespace Go.Proofs.YtmbibaccpeldoaaGreatDoor.W15
open Go Go.RowKit Go.ChangeShapes Go.WideShapes Go.Deep Go.Joins
open Go.Proofs.YtmbibaccpeldoaaGreatDoor.Recs
open Go.Proofs.YtmbibaccpeldoaaGreatDoor.M14 (Piece)
open Go.Proofs.YtmbibaccpeldoaaGreatDoor.W14 (Raw rawA rawC PAt PLow)

theorem piece_struct : ∃ f0 f1 f2 f3 f4 : Field, Tryz.prog.underlying 24 = some (.struct #[f0, f1, f2, f3, f4]) ∧ f0.type = 3 ∧ f1.type = 9 ∧ f2.type = 22 ∧ f3.type = 3 ∧ f4.type = 3 ∧ oneCellFields Tryz.prog #[f0, f1, f2, f3, f4] = true :=
  ⟨_, _, _, _, _, Tryz.underlying24, rfl, rfl, rfl, rfl, rfl, by kernel_rfl⟩
theorem piece_cells : Tryz.prog.cellsOf 24 = 5 := by kernel_rfl
theorem piece_bytes : 0 < Tryz.prog.bytesOf 24 := of_decide_eq_true (by kernel_rfl)
theorem five_of {α : Type} : ∀ {l : List α}, l.length = 5 → ∃ a b c d e, l = [a, b, c, d, e]
  | [a, b, c, d, e], _ => ⟨a, b, c, d, e, rfl⟩
theorem weights_mem_all {H : Type} {P : Program} {e : TypeId} : ∀ {ds : List (DataW H)} {d : DataW H}, d ∈ ds → ∀ n ∈ d.weights P e, n ∈ DataW.weightsAll P e ds
  | [], _, h, _, _ => by simp at h
  | x :: l, d, h, n, hn => by
    simp only [DataW.weightsAll, List.mem_append]
    rcases List.mem_cons.1 h with h | h
    · subst h; exact Or.inl hn
    · exact Or.inr (weights_mem_all h n hn)
theorem weights_slice {H : Type} {P : Program} {t e : TypeId} {elems spare : List (DataW H)} (hu : P.underlying t = some (.slice e)) : (DataW.slice elems spare).weights P t = (elems.length + spare.length) * P.bytesOf e :: (DataW.weightsAll P e elems ++ DataW.weightsAll P e spare) := by
  simp [DataW.weights, hu]
theorem weights_agg {H : Type} {P : Program} {t : TypeId} {fs : Array Field} {parts : List (DataW H)} (hu : P.underlying t = some (.struct fs)) : (DataW.agg parts).weights P t = DataW.weightsEach P (fs.toList.map (·.type)) parts := by
  simp [DataW.weights, hu]
section
variable {H : Type} {enc : TypeId × Value → H} {W : World} {base : Nat}
set_option maxHeartbeats 1000000 in
theorem piece_read (n : Nat) : ∀ (cs : List Value) (x : DataW H × List MemPlace), cs.length = 5 → DataW.trod enc Tryz.prog W 0 (fun _ => true) true n 24 cs = some x → (∀ y ∈ x.2, y.block < W.heap.size) → (∀ m ∈ x.1.weights Tryz.prog 24, m ≤ reachBytes) →
    ∃ (r : Raw) (p : Piece), cs = rawC r ∧ PLow W r p ∧ Small p := by
  induction n using Nat.strongRecOn with
  | ind n ih =>
    intro cs x hl h hlt hw
    obtain ⟨f0, f1, f2, f3, f4, hs, e0, e1, e2, e3, e4, hone⟩ := piece_struct
    obtain ⟨o0, k0⟩ := hone_of hone 0 f0 rfl
    obtain ⟨o1, k1⟩ := hone_of hone 1 f1 rfl
    obtain ⟨o2, k2⟩ := hone_of hone 2 f2 rfl
    obtain ⟨o3, k3⟩ := hone_of hone 3 f3 rfl
    obtain ⟨o4, k4⟩ := hone_of hone 4 f4 rfl
    obtain ⟨xs, m, hn, rfl, _, hxl, hf⟩ := DataW.trod_struct hs h
    have hxl5 : xs.length = 5 := hxl
    have g0 := hf 0 f0 rfl
    have g1 := hf 1 f1 rfl
    have g2 := hf 2 f2 rfl
    have g3 := hf 3 f3 rfl
    have g4 := hf 4 f4 rfl
    rw [o0, k0, e0, List.getElem?_eq_getElem (by omega)] at g0
    rw [o1, k1, e1, List.getElem?_eq_getElem (by omega)] at g1
    rw [o2, k2, e2, List.getElem?_eq_getElem (by omega)] at g2
    rw [o3, k3, e3, List.getElem?_eq_getElem (by omega)] at g3
    rw [o4, k4, e4, List.getElem?_eq_getElem (by omega)] at g4
    obtain ⟨c0, c1, c2, c3, c4, rfl⟩ := five_of hl
    obtain ⟨z0, q0, _, _⟩ := DataW.trod_int Tryz.underlying3 g0
    obtain ⟨s1, q1, _, _⟩ := DataW.trod_string Tryz.underlying9 g1
    obtain ⟨z3, q3, _, _⟩ := DataW.trod_int Tryz.underlying3 g3
    obtain ⟨z4, q4, _, _⟩ := DataW.trod_int Tryz.underlying3 g4
    simp at q0 q1 q3 q4
    subst q0 q1 q3 q4
    have g2' : DataW.trod enc Tryz.prog W 0 (fun _ => true) true m 22 [c2] = some (xs[2]'(by omega)) := g2
    have hw2 : ∀ k ∈ (xs[2]'(by omega)).1.weights Tryz.prog 22, k ≤ reachBytes := by
      intro k hk
      refine hw k ?_
      rw [weights_agg hs]
      refine DataW.weights_mem_each (j := 2) (t := 22) (d := (xs[2]'(by omega)).1) ?_ ?_ k hk
      · show some f2.type = _
        rw [e2]
      · rw [List.getElem?_map, List.getElem?_eq_getElem (by omega)]; rfl
    have hlt2 : ∀ y ∈ (xs[2]'(by omega)).2, y.block < W.heap.size := fun y hy => hlt y (List.mem_flatMap.2 ⟨_, List.getElem_mem _, hy⟩)
    rcases DataW.trod_slice Tryz.underlying22 g2' with ⟨hc, hx2⟩ | ⟨a, len, cap, elems, rest, m2, hm2, hc, hx2, _, hlc, hcap, hel, hcell, _, _⟩
    · simp at hc
      subst hc
      exact ⟨⟨z0, s1, none, 0, 0, z3, z4⟩, .mk z0 s1 [] z3 z4, rfl, .mk _ _ _ _ _ _ _ [] [] 0 (recs_nil _ _ _ _) (fun ad q => by cases q) rfl (fun i h1 => by simp at h1), .mk _ _ _ _ _ (Nat.zero_le _) (fun p hp => by simp at hp)⟩
    · simp at hc
      subst hc
      rw [hx2] at hw2 hlt2
      rw [weights_slice Tryz.underlying22] at hw2
      rw [piece_cells] at hcell
      have hbnd : len ≤ 1125899906842624 := by
        have h1 := hw2 _ (List.mem_cons_self ..)
        simp only [List.length_map] at h1
        have h2 : elems.length + rest.length ≤ (elems.length + rest.length) * Tryz.prog.bytesOf 24 := Nat.le_mul_of_pos_right _ piece_bytes
        have h3 := reachBytes_lt
        omega
      have each : ∀ i, i < len → ∃ q : Raw × Piece, (∀ j, j < 5 → W.cell? (a.add (i * 5 + j)) = (rawC q.1)[j]?) ∧ PLow W q.1 q.2 ∧ Small q.2 := by
        intro i hi
        have hg := hcell i hi
        rw [List.getElem?_eq_getElem (by omega)] at hg
        obtain ⟨cs', h1, h2⟩ := Option.bind_eq_some_iff.1 hg
        obtain ⟨_, hlen, hc2⟩ := World.cells?_some h1
        have hmem : elems[i]'(by omega) ∈ elems := List.getElem_mem _
        obtain ⟨r, p, hr, hp, hsm⟩ := ih m2 (by omega) cs' _ hlen h2
          (fun y hy => hlt2 y (List.mem_append_right _ (List.mem_flatMap.2 ⟨_, List.mem_append_left _ hmem, hy⟩)))
          (fun k hk => hw2 k (List.mem_cons_of_mem _ (List.mem_append_left _ (weights_mem_all (List.mem_map.2 ⟨_, hmem, rfl⟩) k hk))))
        refine ⟨(r, p), fun j hj => ?_, hp, hsm⟩
        have := hc2 j hj
        rw [hr, Go.Deep.add_add] at this
        exact this
      obtain ⟨L, hL, hP⟩ := choose_list len each
      have hblk : 0 < len → a.block < W.heap.size := by
        intro hn
        obtain ⟨b, off, spot⟩ := a
        refine hlt2 (.cell b off) (List.mem_append_left _ (MemPlace.mem_row.2 ⟨0, ?_, by simp⟩))
        rw [piece_cells]
        omega
      refine ⟨⟨z0, s1, some a, len, cap, z3, z4⟩, .mk z0 s1 (L.map (·.2)) z3 z4, rfl, .mk _ _ _ _ _ _ _ (L.map (·.1)) _ W.heap.size ⟨some a, cap, by rw [List.length_map, hL], by rw [List.length_map, hL]; exact hlc, hcap, fun hn => ⟨a, rfl, ?_, fun k hk j hj => ?_⟩⟩ (fun ad q hr => ?_) (by simp) (fun i h1 h2 => ?_), .mk _ _ _ _ _ (by rw [List.length_map, hL]; exact hbnd) (fun p hp => ?_)⟩
      · rw [List.length_map, hL] at hn
        exact hblk hn
      · rw [List.length_map] at hk
        rw [List.getElem_map]
        exact (hP k hk).1 j hj
      · injection q with q
        subst q
        rw [List.length_map, hL] at hr
        exact hblk hr
      · rw [List.length_map] at h1
        rw [List.getElem_map, List.getElem_map]
        exact (hP i h1).2.1
      · obtain ⟨q, hq, rfl⟩ := List.mem_map.1 hp
        obtain ⟨i, hi2, rfl⟩ := List.getElem_of_mem hq
        exact (hP i hi2).2.2
set_option maxRecDepth 100000 in
theorem open_piece {v : Value} {d : DataW H} {p : List MemPlace} (hok : Value.okWide Tryz.prog W .any base 24 v) (h : DataW.Trod enc Tryz.prog W 0 (fun _ => true) true 24 v d p) (hlt : ∀ x ∈ p, x.block < W.heap.size) (hw : ∀ m ∈ d.weights Tryz.prog 24, m ≤ reachBytes) :
    ∃ (r : Raw) (pc : Piece), v = .agg (rawA r) ∧ PLow W r pc ∧ Small pc := by
  obtain ⟨f0, f1, f2, f3, f4, hs, -⟩ := piece_struct
  obtain ⟨cs, rfl, hsz⟩ := okWide_struct hs hok
  obtain ⟨fuel, hf⟩ := h
  obtain ⟨r, pc, hr, hp, hsm⟩ := piece_read _ _ _ (by show cs.toList.length = 5; rw [Array.length_toList, hsz]; exact piece_cells) hf hlt hw
  refine ⟨r, pc, ?_, hp, hsm⟩
  have hr2 : cs.toList = rawC r := hr
  have : cs = rawA r := by
    apply Array.toList_inj.1
    rw [hr2]; rfl
  rw [this]
end
end Go.Proofs.YtmbibaccpeldoaaGreatDoor.W15
