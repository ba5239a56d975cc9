/-
  Texts joined, in build order, each with its own comment and its own conditions: W13Next, W13RefMath.
-/
import Derived.Test.YtmbibaccpeldoaaGreatDoorJ26
import Derived.Test.YtmbibaccpeldoaaGreatDoorJ08
import Derived.Deep.RegionHeld3
import Derived.BigQuiet
import Derived.Test.YtmbibaccpeldoaaGreatDoorJ01
/-
  Layer 13 (class), walk of the document's next: a byte, or a letter's set, at a place. The conditions stand in the statements.
-/
namespace Go.Proofs.YtmbibaccpeldoaaGreatDoor.W13
set_option maxRecDepth 100000
open Go Go.RowKit Go.Proofs.YtmbibaccpeldoaaGreatDoor.M13 Go.Proofs.YtmbibaccpeldoaaGreatDoor.Row256
open Go.Proofs.YtmbibaccpeldoaaGreatDoor.Kit (ret_str ret_bool ret_int mk_of mk_bytes ba_ext below_draws on)

/-- what next answers -/
def nextV (at_ : Nat) (o : UInt8 × Nat × Bool) : Value :=
  if o.2.1 = 0 then .tuple #[.int .i64 0, .string ⟨#[]⟩, .int .i64 0, .int .i64 3]
  else if o.2.2 then .tuple #[.int .i64 (-1), .string (tx (namedF o.1)), .int .i64 ((at_ + o.2.1 : Nat) : Int), .int .i64 0]
  else .tuple #[.int .i64 o.1.toNat, .string (tx (between o.1.toNat o.1.toNat)), .int .i64 ((at_ + o.2.1 : Nat) : Int), .int .i64 0]
def NextTo (w : World) (v : Value) (e : Ending) (w' : World) : Prop := e = .returned v ∧ Below w.heap.size w w'
theorem res4 {fn : Func} {a b c d : Tmp} (h : fn.results = #[.tmp a, .tmp b, .tmp c, .tmp d]) (tmps : Array Value) (P : Program) (w : World) : (results fn tmps).run P w = .ok (.tuple #[tmps.getD a undef, tmps.getD b undef, tmps.getD c undef, tmps.getD d undef]) w := by
  simp [results, h]
theorem one_at {s : ByteArray} {at_ : Nat} (h : at_ < s.size) : one (s.data.toList.drop at_) = if s[at_] = 92 then (if h2 : at_ + 1 < s.size then (s[at_ + 1], 2, letter s[at_ + 1]) else (0, 0, false)) else (s[at_], 1, false) := by
  rw [Kit.drop_next s at_ h]
  unfold one
  by_cases h92 : s[at_] = 92
  · simp only [if_pos h92]
    by_cases h2 : at_ + 1 < s.size
    · rw [Kit.drop_next s (at_ + 1) h2, dif_pos h2]
    · rw [Kit.drop_end s (at_ + 1) h2, dif_neg h2]
  · simp only [if_neg h92]
section
variable {s : ByteArray} {at_ : Nat} {w : World}
set_option maxHeartbeats 1000000 in
theorem next_end (hat : ¬ at_ < s.size) : Calls Tryz.prog 108 #[.string s, .int .i64 at_] w (NextTo w (.tuple #[.int .i64 0, .string ⟨#[]⟩, .int .i64 0, .int .i64 3])) := by
  have h1 : (s.size : Int) ≤ (at_ : Int) := by omega
  go_enter Tryz.func108, Tryz.ntmps108
  go_wp2_with fail
  refine bodyPost_ret (res4 rfl _ _ _) rfl ?_
  exact ⟨rfl, Below.refl _ _⟩
set_option maxHeartbeats 1000000 in
theorem next_last (hs : s.size ≤ 900) (hat : at_ < s.size) (h92 : s[at_] = 92) (hl : ¬ at_ + 1 < s.size) : Calls Tryz.prog 108 #[.string s, .int .i64 at_] w (NextTo w (.tuple #[.int .i64 0, .string ⟨#[]⟩, .int .i64 0, .int .i64 3])) := by
  have h1 : ¬ (s.size : Int) ≤ (at_ : Int) := by omega
  have h2 : (at_ : Int) < (s.size : Int) := by omega
  have t92 : ((s[at_].toNat : Int) == 92) = true := u8_yes h92
  have hw1 : wrap64 ((at_ : Int) + 1) = ((at_ + 1 : Nat) : Int) := by unfold wrap64; omega
  have hq : (((at_ + 1 : Nat) : Int) == (s.size : Int)) = true := by simpa using (by omega : ((at_ : Int) + 1) = (s.size : Int))
  clear h92
  go_enter Tryz.func108, Tryz.ntmps108
  go_wp2_with fail
  refine bodyPost_ret (res4 rfl _ _ _) rfl ?_
  exact ⟨rfl, Below.refl _ _⟩
set_option maxHeartbeats 1000000 in
theorem next_plain (hs : s.size ≤ 900) (hat : at_ < s.size) (h92 : ¬ s[at_] = 92) : Calls Tryz.prog 108 #[.string s, .int .i64 at_] w (NextTo w (.tuple #[.int .i64 s[at_].toNat, .string (tx (between s[at_].toNat s[at_].toNat)), .int .i64 ((at_ + 1 : Nat) : Int), .int .i64 0])) := by
  have h1 : ¬ (s.size : Int) ≤ (at_ : Int) := by omega
  have h2 : (at_ : Int) < (s.size : Int) := by omega
  have t92 : ((s[at_].toNat : Int) == 92) = false := u8_no h92
  have hw1 : wrap64 ((at_ : Int) + 1) = ((at_ + 1 : Nat) : Int) := by unfold wrap64; omega
  have hb0 : (0 : Int) ≤ (at_ : Int) := by omega
  have hwr : IntKind.i64.wrap ((at_ : Int) + 1) = (at_ : Int) + 1 := by rw [IntKind.wrap_i64]; omega
  have hwb : IntKind.i64.wrap (s[at_].toNat : Int) = (s[at_].toNat : Int) := by have := UInt8.toNat_lt s[at_]; rw [IntKind.wrap_i64]; omega
  clear h92
  go_enter Tryz.func108, Tryz.ntmps108
  go_wp2_with fail
  refine wp_region_held_drew (S := fun w' => Below w.heap.size w w') (by kernel_rfl) (below_draws w 1) (fun hHeld => ?_)
  refine wpAnyH_take (i := 0) (oi := { dst := some 31, op := Op.move (Operand.tmp 0), type := 9, pos := "ref.go:96", after := #[], guard := none }) (v := ?vq0) rfl (by kernel_rfl) (by kernel_rfl) (by kernel_rfl) (fun _ _ _ h => h) (Or.inl ⟨by rfl, ?hq0⟩) (by assumption) ?rq0
  case hq0 => (intro w hSw; (try dsimp only at hSw); go_simp; try with_reducible rfl)
  try simp only [Act.put, List.setIfInBounds_toArray, List.set_cons_zero, List.set_cons_succ]
  refine wpAnyH_take (i := 1) (oi := { dst := some 32, op := Op.move (Operand.tmp 1), type := 3, pos := "ref.go:96", after := #[], guard := none }) (v := ?vq1) rfl (by kernel_rfl) (by kernel_rfl) (by kernel_rfl) (fun _ _ _ h => h) (Or.inl ⟨by rfl, ?hq1⟩) (by assumption) ?rq1
  case hq1 => (intro w hSw; (try dsimp only at hSw); go_simp; try with_reducible rfl)
  try simp only [Act.put, List.setIfInBounds_toArray, List.set_cons_zero, List.set_cons_succ]
  refine wpAnyH_take (i := 2) (oi := { dst := some 33, op := Op.index 9 (Operand.tmp 31) (Operand.tmp 32), type := 5, pos := "ref.go:96", after := #[{ on := 0, ground := Ground.data }, { on := 1, ground := Ground.data }], guard := none }) (v := ?vq2) rfl (by kernel_rfl) (by kernel_rfl) (by kernel_rfl) (fun _ _ _ h => h) (Or.inl ⟨by rfl, ?hq2⟩) (by assumption) ?rq2
  case hq2 => (intro w hSw; (try dsimp only at hSw); go_simp; try with_reducible rfl)
  try simp only [Act.put, List.setIfInBounds_toArray, List.set_cons_zero, List.set_cons_succ]
  refine wpAnyH_take (i := 3) (oi := { dst := some 34, op := Op.convert 5 3 (Operand.tmp 33), type := 3, pos := "ref.go:96", after := #[{ on := 2, ground := Ground.data }], guard := none }) (v := ?vq3) rfl (by kernel_rfl) (by kernel_rfl) (by kernel_rfl) (fun _ _ _ h => h) (Or.inl ⟨by rfl, ?hq3⟩) (by assumption) ?rq3
  case hq3 => (intro w hSw; (try dsimp only at hSw); go_simp; try with_reducible rfl)
  try simp only [Act.put, List.setIfInBounds_toArray, List.set_cons_zero, List.set_cons_succ]
  refine wpAnyH_take (i := 4) (oi := { dst := some 35, op := Op.move (Operand.tmp 0), type := 9, pos := "ref.go:96", after := #[], guard := none }) (v := ?vq4) rfl (by kernel_rfl) (by kernel_rfl) (by kernel_rfl) (fun _ _ _ h => h) (Or.inl ⟨by rfl, ?hq4⟩) (by assumption) ?rq4
  case hq4 => (intro w hSw; (try dsimp only at hSw); go_simp; try with_reducible rfl)
  try simp only [Act.put, List.setIfInBounds_toArray, List.set_cons_zero, List.set_cons_succ]
  refine wpAnyH_take (i := 5) (oi := { dst := some 36, op := Op.move (Operand.tmp 1), type := 3, pos := "ref.go:96", after := #[], guard := none }) (v := ?vq5) rfl (by kernel_rfl) (by kernel_rfl) (by kernel_rfl) (fun _ _ _ h => h) (Or.inl ⟨by rfl, ?hq5⟩) (by assumption) ?rq5
  case hq5 => (intro w hSw; (try dsimp only at hSw); go_simp; try with_reducible rfl)
  try simp only [Act.put, List.setIfInBounds_toArray, List.set_cons_zero, List.set_cons_succ]
  refine wpAnyH_take (i := 6) (oi := { dst := some 37, op := Op.index 9 (Operand.tmp 35) (Operand.tmp 36), type := 5, pos := "ref.go:96", after := #[{ on := 4, ground := Ground.data }, { on := 5, ground := Ground.data }], guard := none }) (v := ?vq6) rfl (by kernel_rfl) (by kernel_rfl) (by kernel_rfl) (fun _ _ _ h => h) (Or.inl ⟨by rfl, ?hq6⟩) (by assumption) ?rq6
  case hq6 => (intro w hSw; (try dsimp only at hSw); go_simp; try with_reducible rfl)
  try simp only [Act.put, List.setIfInBounds_toArray, List.set_cons_zero, List.set_cons_succ]
  refine wpAnyH_take (i := 7) (oi := { dst := some 38, op := Op.convert 5 3 (Operand.tmp 37), type := 3, pos := "ref.go:96", after := #[{ on := 6, ground := Ground.data }], guard := none }) (v := ?vq7) rfl (by kernel_rfl) (by kernel_rfl) (by kernel_rfl) (fun _ _ _ h => h) (Or.inl ⟨by rfl, ?hq7⟩) (by assumption) ?rq7
  case hq7 => (intro w hSw; (try dsimp only at hSw); go_simp; try with_reducible rfl)
  try simp only [Act.put, List.setIfInBounds_toArray, List.set_cons_zero, List.set_cons_succ]
  refine wpAnyH_take (i := 8) (oi := { dst := some 39, op := Op.move (Operand.tmp 0), type := 9, pos := "ref.go:96", after := #[], guard := none }) (v := ?vq8) rfl (by kernel_rfl) (by kernel_rfl) (by kernel_rfl) (fun _ _ _ h => h) (Or.inl ⟨by rfl, ?hq8⟩) (by assumption) ?rq8
  case hq8 => (intro w hSw; (try dsimp only at hSw); go_simp; try with_reducible rfl)
  try simp only [Act.put, List.setIfInBounds_toArray, List.set_cons_zero, List.set_cons_succ]
  refine wpAnyH_take (i := 9) (oi := { dst := some 40, op := Op.move (Operand.tmp 1), type := 3, pos := "ref.go:96", after := #[], guard := none }) (v := ?vq9) rfl (by kernel_rfl) (by kernel_rfl) (by kernel_rfl) (fun _ _ _ h => h) (Or.inl ⟨by rfl, ?hq9⟩) (by assumption) ?rq9
  case hq9 => (intro w hSw; (try dsimp only at hSw); go_simp; try with_reducible rfl)
  try simp only [Act.put, List.setIfInBounds_toArray, List.set_cons_zero, List.set_cons_succ]
  refine wpAnyH_take (i := 10) (oi := { dst := some 41, op := Op.index 9 (Operand.tmp 39) (Operand.tmp 40), type := 5, pos := "ref.go:96", after := #[{ on := 8, ground := Ground.data }, { on := 9, ground := Ground.data }], guard := none }) (v := ?vq10) rfl (by kernel_rfl) (by kernel_rfl) (by kernel_rfl) (fun _ _ _ h => h) (Or.inl ⟨by rfl, ?hq10⟩) (by assumption) ?rq10
  case hq10 => (intro w hSw; (try dsimp only at hSw); go_simp; try with_reducible rfl)
  try simp only [Act.put, List.setIfInBounds_toArray, List.set_cons_zero, List.set_cons_succ]
  refine wpAnyH_take (i := 11) (oi := { dst := some 42, op := Op.convert 5 3 (Operand.tmp 41), type := 3, pos := "ref.go:96", after := #[{ on := 10, ground := Ground.data }], guard := none }) (v := ?vq11) rfl (by kernel_rfl) (by kernel_rfl) (by kernel_rfl) (fun _ _ _ h => h) (Or.inl ⟨by rfl, ?hq11⟩) (by assumption) ?rq11
  case hq11 => (intro w hSw; (try dsimp only at hSw); go_simp; try with_reducible rfl)
  try simp only [Act.put, List.setIfInBounds_toArray, List.set_cons_zero, List.set_cons_succ]
  refine wpAnyH_take (i := 13) (oi := { dst := some 44, op := Op.move (Operand.tmp 1), type := 3, pos := "ref.go:96", after := #[{ on := 16, ground := Ground.gcOnly Departure.lateStores }], guard := none }) (v := ?vq13) rfl (by kernel_rfl) (by kernel_rfl) (by kernel_rfl) (fun _ _ _ h => h) (Or.inl ⟨by rfl, ?hq13⟩) (by assumption) ?rq13
  case hq13 => (intro w hSw; (try dsimp only at hSw); go_simp; try with_reducible rfl)
  try simp only [Act.put, List.setIfInBounds_toArray, List.set_cons_zero, List.set_cons_succ]
  refine wpAnyH_take (i := 14) (oi := { dst := some 45, op := Op.binOp BinOp.add 3 (Operand.tmp 44) (Operand.const (Value.int IntKind.i64 1)) 3, type := 3, pos := "ref.go:96", after := #[{ on := 13, ground := Ground.data }, { on := 16, ground := Ground.gcOnly Departure.lateStores }], guard := none }) (v := ?vq14) rfl (by kernel_rfl) (by kernel_rfl) (by kernel_rfl) (fun _ _ _ h => h) (Or.inl ⟨by rfl, ?hq14⟩) (by assumption) ?rq14
  case hq14 => (intro w hSw; (try dsimp only at hSw); go_simp; try with_reducible rfl)
  try simp only [Act.put, List.setIfInBounds_toArray, List.set_cons_zero, List.set_cons_succ]
  refine wpAnyH_ready (rs := [12]) (by kernel_rfl) (by simp) ?_
  refine AllReadyH.cons (o := { dst := some 43, op := Op.call { callee := Callee.value (Operand.func 107), args := #[Operand.tmp 38, Operand.tmp 42], argTypes := #[3, 3] }, type := 9, pos := "ref.go:96", after := #[{ on := 7, ground := Ground.data }, { on := 11, ground := Ground.data }], guard := none }) rfl (fun K hK => ?_) AllReadyH.nil
  go_simp
  (go_at_call 107; refine (refSpan_any s[at_].toNat s[at_].toNat (UInt8.toNat_lt _) (w.drewN 1)).mono ?_; rintro e w2 ⟨rfl, hb2⟩; have hB : Below w.heap.size w w2 := (below_draws w 1).trans hb2)
  go_wp2_with fail
  refine hK.out _ _ ?_ (fun hHeld => ?_)
  · exact hB
  clear hK K
  try simp only [Act.put, List.setIfInBounds_toArray, List.set_cons_zero, List.set_cons_succ]
  refine wpAnyH_take (i := 15) (oi := { dst := some 4, op := Op.assign (Operand.tmp 34), type := 3, pos := "ref.go:96", after := #[{ on := 3, ground := Ground.data }, { on := 12, ground := Ground.chain }, { on := 0, ground := Ground.phase }, { on := 1, ground := Ground.phase }, { on := 2, ground := Ground.phase }, { on := 3, ground := Ground.phase }, { on := 4, ground := Ground.textOnly Departure.lateStores }, { on := 5, ground := Ground.textOnly Departure.lateStores }, { on := 6, ground := Ground.textOnly Departure.lateStores }, { on := 7, ground := Ground.textOnly Departure.lateStores }, { on := 8, ground := Ground.textOnly Departure.lateStores }, { on := 9, ground := Ground.textOnly Departure.lateStores }, { on := 10, ground := Ground.textOnly Departure.lateStores }, { on := 11, ground := Ground.textOnly Departure.lateStores }, { on := 12, ground := Ground.textOnly Departure.lateStoresUnsure }, { on := 13, ground := Ground.textOnly Departure.lateStores }, { on := 14, ground := Ground.textOnly Departure.lateStores }], guard := none }) (v := ?vq15) rfl (by kernel_rfl) (by kernel_rfl) (by kernel_rfl) (fun _ _ _ h => h) (Or.inl ⟨by rfl, ?hq15⟩) (by assumption) ?rq15
  case hq15 => (intro w hSw; (try dsimp only at hSw); go_simp; try with_reducible rfl)
  try simp only [Act.put, List.setIfInBounds_toArray, List.set_cons_zero, List.set_cons_succ]
  refine wpAnyH_take (i := 16) (oi := { dst := some 5, op := Op.assign (Operand.tmp 43), type := 9, pos := "ref.go:96", after := #[{ on := 12, ground := Ground.data }, { on := 15, ground := Ground.chain }, { on := 0, ground := Ground.phase }, { on := 1, ground := Ground.phase }, { on := 2, ground := Ground.phase }, { on := 3, ground := Ground.phase }, { on := 4, ground := Ground.phase }, { on := 5, ground := Ground.phase }, { on := 6, ground := Ground.phase }, { on := 7, ground := Ground.phase }, { on := 8, ground := Ground.phase }, { on := 9, ground := Ground.phase }, { on := 10, ground := Ground.phase }, { on := 11, ground := Ground.phase }, { on := 12, ground := Ground.phase }, { on := 13, ground := Ground.textOnly Departure.lateStores }, { on := 14, ground := Ground.textOnly Departure.lateStores }, { on := 15, ground := Ground.phase }], guard := none }) (v := ?vq16) rfl (by kernel_rfl) (by kernel_rfl) (by kernel_rfl) (fun _ _ _ h => h) (Or.inl ⟨by rfl, ?hq16⟩) (by assumption) ?rq16
  case hq16 => (intro w hSw; (try dsimp only at hSw); go_simp; try with_reducible rfl)
  try simp only [Act.put, List.setIfInBounds_toArray, List.set_cons_zero, List.set_cons_succ]
  refine wpAnyH_take (i := 17) (oi := { dst := some 6, op := Op.assign (Operand.tmp 45), type := 3, pos := "ref.go:96", after := #[{ on := 14, ground := Ground.data }, { on := 16, ground := Ground.chain }, { on := 0, ground := Ground.phase }, { on := 1, ground := Ground.phase }, { on := 2, ground := Ground.phase }, { on := 3, ground := Ground.phase }, { on := 4, ground := Ground.phase }, { on := 5, ground := Ground.phase }, { on := 6, ground := Ground.phase }, { on := 7, ground := Ground.phase }, { on := 8, ground := Ground.phase }, { on := 9, ground := Ground.phase }, { on := 10, ground := Ground.phase }, { on := 11, ground := Ground.phase }, { on := 12, ground := Ground.phase }, { on := 13, ground := Ground.phase }, { on := 14, ground := Ground.phase }, { on := 15, ground := Ground.phase }, { on := 16, ground := Ground.phase }], guard := none }) (v := ?vq17) rfl (by kernel_rfl) (by kernel_rfl) (by kernel_rfl) (fun _ _ _ h => h) (Or.inl ⟨by rfl, ?hq17⟩) (by assumption) ?rq17
  case hq17 => (intro w hSw; (try dsimp only at hSw); go_simp; try with_reducible rfl)
  try simp only [Act.put, List.setIfInBounds_toArray, List.set_cons_zero, List.set_cons_succ]
  refine wpAnyH_take (i := 18) (oi := { dst := some 7, op := Op.assign (Operand.const (Value.int IntKind.i64 0)), type := 3, pos := "ref.go:96", after := #[{ on := 17, ground := Ground.chain }, { on := 0, ground := Ground.phase }, { on := 1, ground := Ground.phase }, { on := 2, ground := Ground.phase }, { on := 3, ground := Ground.phase }, { on := 4, ground := Ground.phase }, { on := 5, ground := Ground.phase }, { on := 6, ground := Ground.phase }, { on := 7, ground := Ground.phase }, { on := 8, ground := Ground.phase }, { on := 9, ground := Ground.phase }, { on := 10, ground := Ground.phase }, { on := 11, ground := Ground.phase }, { on := 12, ground := Ground.phase }, { on := 13, ground := Ground.phase }, { on := 14, ground := Ground.phase }, { on := 15, ground := Ground.phase }, { on := 16, ground := Ground.phase }, { on := 17, ground := Ground.phase }], guard := none }) (v := ?vq18) rfl (by kernel_rfl) (by kernel_rfl) (by kernel_rfl) (fun _ _ _ h => h) (Or.inl ⟨by rfl, ?hq18⟩) (by assumption) ?rq18
  case hq18 => (intro w hSw; (try dsimp only at hSw); go_simp; try with_reducible rfl)
  try simp only [Act.put, List.setIfInBounds_toArray, List.set_cons_zero, List.set_cons_succ]
  refine wpAnyH_done (by kernel_rfl) ?_ _
  go_wp2_with fail
  refine bodyPost_ret (res4 rfl _ _ _) rfl ?_
  exact ⟨rfl, hB⟩
set_option maxHeartbeats 1000000 in
theorem next_letter (hs : s.size ≤ 900) (hat : at_ < s.size) (h92 : s[at_] = 92) (hl : at_ + 1 < s.size) (hlet : letter s[at_ + 1] = true) : Calls Tryz.prog 108 #[.string s, .int .i64 at_] w (NextTo w (.tuple #[.int .i64 (-1), .string (tx (namedF s[at_ + 1])), .int .i64 ((at_ + 2 : Nat) : Int), .int .i64 0])) := by
  have h1 : ¬ (s.size : Int) ≤ (at_ : Int) := by omega
  have h2 : (at_ : Int) < (s.size : Int) := by omega
  have t92 : ((s[at_].toNat : Int) == 92) = true := u8_yes h92
  have hw1 : wrap64 ((at_ : Int) + 1) = ((at_ + 1 : Nat) : Int) := by unfold wrap64; omega
  have hw2 : wrap64 ((at_ : Int) + 2) = ((at_ + 2 : Nat) : Int) := by unfold wrap64; omega
  have h3 : ((at_ + 1 : Nat) : Int) < (s.size : Int) := by omega
  have hq : (((at_ + 1 : Nat) : Int) == (s.size : Int)) = false := by simpa using (by omega : ¬ ((at_ : Int) + 1) = (s.size : Int))
  have HN : Hid (∀ w, Calls Tryz.prog 98 #[.int .u8 s[at_ + 1].toNat] w fun e w' => e = .returned (.tuple #[.string (tx (namedF s[at_ + 1])), .bool true]) ∧ Below w.heap.size w w') := fun w => by
    have := refNamed_any s[at_ + 1] w
    rw [hlet] at this
    exact this
  clear h92 hlet
  go_enter Tryz.func108, Tryz.ntmps108
  go_wp2_with fail
  refine (HN.out _).mono ?_
  rintro e w1 ⟨rfl, hb1⟩
  have HB1 := Lib.hid hb1
  clear hb1
  go_wp2_with fail
  refine bodyPost_ret (res4 rfl _ _ _) rfl ?_
  exact ⟨rfl, HB1.out⟩
set_option maxHeartbeats 1000000 in
theorem next_escaped (hs : s.size ≤ 900) (hat : at_ < s.size) (h92 : s[at_] = 92) (hl : at_ + 1 < s.size) (hlet : letter s[at_ + 1] = false) : Calls Tryz.prog 108 #[.string s, .int .i64 at_] w (NextTo w (.tuple #[.int .i64 s[at_ + 1].toNat, .string (tx (between s[at_ + 1].toNat s[at_ + 1].toNat)), .int .i64 ((at_ + 2 : Nat) : Int), .int .i64 0])) := by
  have h1 : ¬ (s.size : Int) ≤ (at_ : Int) := by omega
  have h2 : (at_ : Int) < (s.size : Int) := by omega
  have t92 : ((s[at_].toNat : Int) == 92) = true := u8_yes h92
  have hw1 : wrap64 ((at_ : Int) + 1) = ((at_ + 1 : Nat) : Int) := by unfold wrap64; omega
  have hw2 : wrap64 ((at_ : Int) + 2) = ((at_ + 2 : Nat) : Int) := by unfold wrap64; omega
  have h3 : ((at_ + 1 : Nat) : Int) < (s.size : Int) := by omega
  have hq : (((at_ + 1 : Nat) : Int) == (s.size : Int)) = false := by simpa using (by omega : ¬ ((at_ : Int) + 1) = (s.size : Int))
  have hb0 : (0 : Int) ≤ (at_ : Int) := by omega
  have hwr : IntKind.i64.wrap ((at_ : Int) + 1) = (at_ : Int) + 1 := by rw [IntKind.wrap_i64]; omega
  have hb1' : (0 : Int) ≤ (at_ : Int) + 1 := by omega
  have hb2' : (at_ : Int) + 1 < (s.size : Int) := by omega
  have hwr2 : IntKind.i64.wrap ((at_ : Int) + 2) = (at_ : Int) + 2 := by rw [IntKind.wrap_i64]; omega
  have hwb : IntKind.i64.wrap (s[at_ + 1].toNat : Int) = (s[at_ + 1].toNat : Int) := by have := UInt8.toNat_lt s[at_ + 1]; rw [IntKind.wrap_i64]; omega
  have HN : Hid (∀ w, Calls Tryz.prog 98 #[.int .u8 s[at_ + 1].toNat] w fun e w' => e = .returned (.tuple #[.string (tx (namedF s[at_ + 1])), .bool false]) ∧ Below w.heap.size w w') := fun w => by
    have := refNamed_any s[at_ + 1] w
    rw [hlet] at this
    exact this
  clear h92 hlet
  go_enter Tryz.func108, Tryz.ntmps108
  go_wp2_with fail
  refine (HN.out _).mono ?_
  rintro e w1 ⟨rfl, hb1⟩
  have HB1 := Lib.hid hb1
  clear hb1
  go_wp2_with fail
  refine wp_region_held_drew (S := fun w' => Below w1.heap.size w1 w') (by kernel_rfl) (below_draws w1 1) (fun hHeld => ?_)
  refine wpAnyH_take (i := 0) (oi := { dst := some 58, op := Op.move (Operand.tmp 0), type := 9, pos := "ref.go:102", after := #[], guard := none }) (v := ?vq0) rfl (by kernel_rfl) (by kernel_rfl) (by kernel_rfl) (fun _ _ _ h => h) (Or.inl ⟨by rfl, ?hq0⟩) (by assumption) ?rq0
  case hq0 => (intro w hSw; (try dsimp only at hSw); go_simp; try with_reducible rfl)
  try simp only [Act.put, List.setIfInBounds_toArray, List.set_cons_zero, List.set_cons_succ]
  refine wpAnyH_take (i := 1) (oi := { dst := some 59, op := Op.move (Operand.tmp 1), type := 3, pos := "ref.go:102", after := #[], guard := none }) (v := ?vq1) rfl (by kernel_rfl) (by kernel_rfl) (by kernel_rfl) (fun _ _ _ h => h) (Or.inl ⟨by rfl, ?hq1⟩) (by assumption) ?rq1
  case hq1 => (intro w hSw; (try dsimp only at hSw); go_simp; try with_reducible rfl)
  try simp only [Act.put, List.setIfInBounds_toArray, List.set_cons_zero, List.set_cons_succ]
  refine wpAnyH_take (i := 2) (oi := { dst := some 60, op := Op.binOp BinOp.add 3 (Operand.tmp 59) (Operand.const (Value.int IntKind.i64 1)) 3, type := 3, pos := "ref.go:102", after := #[{ on := 1, ground := Ground.data }], guard := none }) (v := ?vq2) rfl (by kernel_rfl) (by kernel_rfl) (by kernel_rfl) (fun _ _ _ h => h) (Or.inl ⟨by rfl, ?hq2⟩) (by assumption) ?rq2
  case hq2 => (intro w hSw; (try dsimp only at hSw); go_simp; try with_reducible rfl)
  try simp only [Act.put, List.setIfInBounds_toArray, List.set_cons_zero, List.set_cons_succ]
  refine wpAnyH_take (i := 3) (oi := { dst := some 61, op := Op.index 9 (Operand.tmp 58) (Operand.tmp 60), type := 5, pos := "ref.go:102", after := #[{ on := 0, ground := Ground.data }, { on := 2, ground := Ground.data }], guard := none }) (v := ?vq3) rfl (by kernel_rfl) (by kernel_rfl) (by kernel_rfl) (fun _ _ _ h => h) (Or.inl ⟨by rfl, ?hq3⟩) (by assumption) ?rq3
  case hq3 => (intro w hSw; (try dsimp only at hSw); go_simp; try with_reducible rfl)
  try simp only [Act.put, List.setIfInBounds_toArray, List.set_cons_zero, List.set_cons_succ]
  refine wpAnyH_take (i := 4) (oi := { dst := some 62, op := Op.convert 5 3 (Operand.tmp 61), type := 3, pos := "ref.go:102", after := #[{ on := 3, ground := Ground.data }], guard := none }) (v := ?vq4) rfl (by kernel_rfl) (by kernel_rfl) (by kernel_rfl) (fun _ _ _ h => h) (Or.inl ⟨by rfl, ?hq4⟩) (by assumption) ?rq4
  case hq4 => (intro w hSw; (try dsimp only at hSw); go_simp; try with_reducible rfl)
  try simp only [Act.put, List.setIfInBounds_toArray, List.set_cons_zero, List.set_cons_succ]
  refine wpAnyH_take (i := 5) (oi := { dst := some 63, op := Op.move (Operand.tmp 0), type := 9, pos := "ref.go:102", after := #[], guard := none }) (v := ?vq5) rfl (by kernel_rfl) (by kernel_rfl) (by kernel_rfl) (fun _ _ _ h => h) (Or.inl ⟨by rfl, ?hq5⟩) (by assumption) ?rq5
  case hq5 => (intro w hSw; (try dsimp only at hSw); go_simp; try with_reducible rfl)
  try simp only [Act.put, List.setIfInBounds_toArray, List.set_cons_zero, List.set_cons_succ]
  refine wpAnyH_take (i := 6) (oi := { dst := some 64, op := Op.move (Operand.tmp 1), type := 3, pos := "ref.go:102", after := #[], guard := none }) (v := ?vq6) rfl (by kernel_rfl) (by kernel_rfl) (by kernel_rfl) (fun _ _ _ h => h) (Or.inl ⟨by rfl, ?hq6⟩) (by assumption) ?rq6
  case hq6 => (intro w hSw; (try dsimp only at hSw); go_simp; try with_reducible rfl)
  try simp only [Act.put, List.setIfInBounds_toArray, List.set_cons_zero, List.set_cons_succ]
  refine wpAnyH_take (i := 7) (oi := { dst := some 65, op := Op.binOp BinOp.add 3 (Operand.tmp 64) (Operand.const (Value.int IntKind.i64 1)) 3, type := 3, pos := "ref.go:102", after := #[{ on := 6, ground := Ground.data }], guard := none }) (v := ?vq7) rfl (by kernel_rfl) (by kernel_rfl) (by kernel_rfl) (fun _ _ _ h => h) (Or.inl ⟨by rfl, ?hq7⟩) (by assumption) ?rq7
  case hq7 => (intro w hSw; (try dsimp only at hSw); go_simp; try with_reducible rfl)
  try simp only [Act.put, List.setIfInBounds_toArray, List.set_cons_zero, List.set_cons_succ]
  refine wpAnyH_take (i := 8) (oi := { dst := some 66, op := Op.index 9 (Operand.tmp 63) (Operand.tmp 65), type := 5, pos := "ref.go:102", after := #[{ on := 5, ground := Ground.data }, { on := 7, ground := Ground.data }], guard := none }) (v := ?vq8) rfl (by kernel_rfl) (by kernel_rfl) (by kernel_rfl) (fun _ _ _ h => h) (Or.inl ⟨by rfl, ?hq8⟩) (by assumption) ?rq8
  case hq8 => (intro w hSw; (try dsimp only at hSw); go_simp; try with_reducible rfl)
  try simp only [Act.put, List.setIfInBounds_toArray, List.set_cons_zero, List.set_cons_succ]
  refine wpAnyH_take (i := 9) (oi := { dst := some 67, op := Op.convert 5 3 (Operand.tmp 66), type := 3, pos := "ref.go:102", after := #[{ on := 8, ground := Ground.data }], guard := none }) (v := ?vq9) rfl (by kernel_rfl) (by kernel_rfl) (by kernel_rfl) (fun _ _ _ h => h) (Or.inl ⟨by rfl, ?hq9⟩) (by assumption) ?rq9
  case hq9 => (intro w hSw; (try dsimp only at hSw); go_simp; try with_reducible rfl)
  try simp only [Act.put, List.setIfInBounds_toArray, List.set_cons_zero, List.set_cons_succ]
  refine wpAnyH_take (i := 10) (oi := { dst := some 68, op := Op.move (Operand.tmp 0), type := 9, pos := "ref.go:102", after := #[], guard := none }) (v := ?vq10) rfl (by kernel_rfl) (by kernel_rfl) (by kernel_rfl) (fun _ _ _ h => h) (Or.inl ⟨by rfl, ?hq10⟩) (by assumption) ?rq10
  case hq10 => (intro w hSw; (try dsimp only at hSw); go_simp; try with_reducible rfl)
  try simp only [Act.put, List.setIfInBounds_toArray, List.set_cons_zero, List.set_cons_succ]
  refine wpAnyH_take (i := 11) (oi := { dst := some 69, op := Op.move (Operand.tmp 1), type := 3, pos := "ref.go:102", after := #[], guard := none }) (v := ?vq11) rfl (by kernel_rfl) (by kernel_rfl) (by kernel_rfl) (fun _ _ _ h => h) (Or.inl ⟨by rfl, ?hq11⟩) (by assumption) ?rq11
  case hq11 => (intro w hSw; (try dsimp only at hSw); go_simp; try with_reducible rfl)
  try simp only [Act.put, List.setIfInBounds_toArray, List.set_cons_zero, List.set_cons_succ]
  refine wpAnyH_take (i := 12) (oi := { dst := some 70, op := Op.binOp BinOp.add 3 (Operand.tmp 69) (Operand.const (Value.int IntKind.i64 1)) 3, type := 3, pos := "ref.go:102", after := #[{ on := 11, ground := Ground.data }], guard := none }) (v := ?vq12) rfl (by kernel_rfl) (by kernel_rfl) (by kernel_rfl) (fun _ _ _ h => h) (Or.inl ⟨by rfl, ?hq12⟩) (by assumption) ?rq12
  case hq12 => (intro w hSw; (try dsimp only at hSw); go_simp; try with_reducible rfl)
  try simp only [Act.put, List.setIfInBounds_toArray, List.set_cons_zero, List.set_cons_succ]
  refine wpAnyH_take (i := 13) (oi := { dst := some 71, op := Op.index 9 (Operand.tmp 68) (Operand.tmp 70), type := 5, pos := "ref.go:102", after := #[{ on := 10, ground := Ground.data }, { on := 12, ground := Ground.data }], guard := none }) (v := ?vq13) rfl (by kernel_rfl) (by kernel_rfl) (by kernel_rfl) (fun _ _ _ h => h) (Or.inl ⟨by rfl, ?hq13⟩) (by assumption) ?rq13
  case hq13 => (intro w hSw; (try dsimp only at hSw); go_simp; try with_reducible rfl)
  try simp only [Act.put, List.setIfInBounds_toArray, List.set_cons_zero, List.set_cons_succ]
  refine wpAnyH_take (i := 14) (oi := { dst := some 72, op := Op.convert 5 3 (Operand.tmp 71), type := 3, pos := "ref.go:102", after := #[{ on := 13, ground := Ground.data }], guard := none }) (v := ?vq14) rfl (by kernel_rfl) (by kernel_rfl) (by kernel_rfl) (fun _ _ _ h => h) (Or.inl ⟨by rfl, ?hq14⟩) (by assumption) ?rq14
  case hq14 => (intro w hSw; (try dsimp only at hSw); go_simp; try with_reducible rfl)
  try simp only [Act.put, List.setIfInBounds_toArray, List.set_cons_zero, List.set_cons_succ]
  refine wpAnyH_take (i := 16) (oi := { dst := some 74, op := Op.move (Operand.tmp 1), type := 3, pos := "ref.go:102", after := #[{ on := 19, ground := Ground.gcOnly Departure.lateStores }], guard := none }) (v := ?vq16) rfl (by kernel_rfl) (by kernel_rfl) (by kernel_rfl) (fun _ _ _ h => h) (Or.inl ⟨by rfl, ?hq16⟩) (by assumption) ?rq16
  case hq16 => (intro w hSw; (try dsimp only at hSw); go_simp; try with_reducible rfl)
  try simp only [Act.put, List.setIfInBounds_toArray, List.set_cons_zero, List.set_cons_succ]
  refine wpAnyH_take (i := 17) (oi := { dst := some 75, op := Op.binOp BinOp.add 3 (Operand.tmp 74) (Operand.const (Value.int IntKind.i64 2)) 3, type := 3, pos := "ref.go:102", after := #[{ on := 16, ground := Ground.data }, { on := 19, ground := Ground.gcOnly Departure.lateStores }], guard := none }) (v := ?vq17) rfl (by kernel_rfl) (by kernel_rfl) (by kernel_rfl) (fun _ _ _ h => h) (Or.inl ⟨by rfl, ?hq17⟩) (by assumption) ?rq17
  case hq17 => (intro w hSw; (try dsimp only at hSw); go_simp; try with_reducible rfl)
  try simp only [Act.put, List.setIfInBounds_toArray, List.set_cons_zero, List.set_cons_succ]
  refine wpAnyH_ready (rs := [15]) (by kernel_rfl) (by simp) ?_
  refine AllReadyH.cons (o := { dst := some 73, op := Op.call { callee := Callee.value (Operand.func 107), args := #[Operand.tmp 67, Operand.tmp 72], argTypes := #[3, 3] }, type := 9, pos := "ref.go:102", after := #[{ on := 9, ground := Ground.data }, { on := 14, ground := Ground.data }], guard := none }) rfl (fun K hK => ?_) AllReadyH.nil
  go_simp
  (go_at_call 107; refine (refSpan_any s[at_ + 1].toNat s[at_ + 1].toNat (UInt8.toNat_lt _) (w1.drewN 1)).mono ?_; rintro e w2 ⟨rfl, hb2⟩; have hB : Below w1.heap.size w1 w2 := (below_draws w1 1).trans hb2)
  go_wp2_with fail
  refine hK.out _ _ ?_ (fun hHeld => ?_)
  · exact hB
  clear hK K
  try simp only [Act.put, List.setIfInBounds_toArray, List.set_cons_zero, List.set_cons_succ]
  refine wpAnyH_take (i := 18) (oi := { dst := some 4, op := Op.assign (Operand.tmp 62), type := 3, pos := "ref.go:102", after := #[{ on := 4, ground := Ground.data }, { on := 15, ground := Ground.chain }, { on := 0, ground := Ground.phase }, { on := 1, ground := Ground.phase }, { on := 2, ground := Ground.phase }, { on := 3, ground := Ground.phase }, { on := 4, ground := Ground.phase }, { on := 5, ground := Ground.textOnly Departure.lateStores }, { on := 6, ground := Ground.textOnly Departure.lateStores }, { on := 7, ground := Ground.textOnly Departure.lateStores }, { on := 8, ground := Ground.textOnly Departure.lateStores }, { on := 9, ground := Ground.textOnly Departure.lateStores }, { on := 10, ground := Ground.textOnly Departure.lateStores }, { on := 11, ground := Ground.textOnly Departure.lateStores }, { on := 12, ground := Ground.textOnly Departure.lateStores }, { on := 13, ground := Ground.textOnly Departure.lateStores }, { on := 14, ground := Ground.textOnly Departure.lateStores }, { on := 15, ground := Ground.textOnly Departure.lateStoresUnsure }, { on := 16, ground := Ground.textOnly Departure.lateStores }, { on := 17, ground := Ground.textOnly Departure.lateStores }], guard := none }) (v := ?vq18) rfl (by kernel_rfl) (by kernel_rfl) (by kernel_rfl) (fun _ _ _ h => h) (Or.inl ⟨by rfl, ?hq18⟩) (by assumption) ?rq18
  case hq18 => (intro w hSw; (try dsimp only at hSw); go_simp; try with_reducible rfl)
  try simp only [Act.put, List.setIfInBounds_toArray, List.set_cons_zero, List.set_cons_succ]
  refine wpAnyH_take (i := 19) (oi := { dst := some 5, op := Op.assign (Operand.tmp 73), type := 9, pos := "ref.go:102", after := #[{ on := 15, ground := Ground.data }, { on := 18, ground := Ground.chain }, { on := 0, ground := Ground.phase }, { on := 1, ground := Ground.phase }, { on := 2, ground := Ground.phase }, { on := 3, ground := Ground.phase }, { on := 4, ground := Ground.phase }, { on := 5, ground := Ground.phase }, { on := 6, ground := Ground.phase }, { on := 7, ground := Ground.phase }, { on := 8, ground := Ground.phase }, { on := 9, ground := Ground.phase }, { on := 10, ground := Ground.phase }, { on := 11, ground := Ground.phase }, { on := 12, ground := Ground.phase }, { on := 13, ground := Ground.phase }, { on := 14, ground := Ground.phase }, { on := 15, ground := Ground.phase }, { on := 16, ground := Ground.textOnly Departure.lateStores }, { on := 17, ground := Ground.textOnly Departure.lateStores }, { on := 18, ground := Ground.phase }], guard := none }) (v := ?vq19) rfl (by kernel_rfl) (by kernel_rfl) (by kernel_rfl) (fun _ _ _ h => h) (Or.inl ⟨by rfl, ?hq19⟩) (by assumption) ?rq19
  case hq19 => (intro w hSw; (try dsimp only at hSw); go_simp; try with_reducible rfl)
  try simp only [Act.put, List.setIfInBounds_toArray, List.set_cons_zero, List.set_cons_succ]
  refine wpAnyH_take (i := 20) (oi := { dst := some 6, op := Op.assign (Operand.tmp 75), type := 3, pos := "ref.go:102", after := #[{ on := 17, ground := Ground.data }, { on := 19, ground := Ground.chain }, { on := 0, ground := Ground.phase }, { on := 1, ground := Ground.phase }, { on := 2, ground := Ground.phase }, { on := 3, ground := Ground.phase }, { on := 4, ground := Ground.phase }, { on := 5, ground := Ground.phase }, { on := 6, ground := Ground.phase }, { on := 7, ground := Ground.phase }, { on := 8, ground := Ground.phase }, { on := 9, ground := Ground.phase }, { on := 10, ground := Ground.phase }, { on := 11, ground := Ground.phase }, { on := 12, ground := Ground.phase }, { on := 13, ground := Ground.phase }, { on := 14, ground := Ground.phase }, { on := 15, ground := Ground.phase }, { on := 16, ground := Ground.phase }, { on := 17, ground := Ground.phase }, { on := 18, ground := Ground.phase }, { on := 19, ground := Ground.phase }], guard := none }) (v := ?vq20) rfl (by kernel_rfl) (by kernel_rfl) (by kernel_rfl) (fun _ _ _ h => h) (Or.inl ⟨by rfl, ?hq20⟩) (by assumption) ?rq20
  case hq20 => (intro w hSw; (try dsimp only at hSw); go_simp; try with_reducible rfl)
  try simp only [Act.put, List.setIfInBounds_toArray, List.set_cons_zero, List.set_cons_succ]
  refine wpAnyH_take (i := 21) (oi := { dst := some 7, op := Op.assign (Operand.const (Value.int IntKind.i64 0)), type := 3, pos := "ref.go:102", after := #[{ on := 20, ground := Ground.chain }, { on := 0, ground := Ground.phase }, { on := 1, ground := Ground.phase }, { on := 2, ground := Ground.phase }, { on := 3, ground := Ground.phase }, { on := 4, ground := Ground.phase }, { on := 5, ground := Ground.phase }, { on := 6, ground := Ground.phase }, { on := 7, ground := Ground.phase }, { on := 8, ground := Ground.phase }, { on := 9, ground := Ground.phase }, { on := 10, ground := Ground.phase }, { on := 11, ground := Ground.phase }, { on := 12, ground := Ground.phase }, { on := 13, ground := Ground.phase }, { on := 14, ground := Ground.phase }, { on := 15, ground := Ground.phase }, { on := 16, ground := Ground.phase }, { on := 17, ground := Ground.phase }, { on := 18, ground := Ground.phase }, { on := 19, ground := Ground.phase }, { on := 20, ground := Ground.phase }], guard := none }) (v := ?vq21) rfl (by kernel_rfl) (by kernel_rfl) (by kernel_rfl) (fun _ _ _ h => h) (Or.inl ⟨by rfl, ?hq21⟩) (by assumption) ?rq21
  case hq21 => (intro w hSw; (try dsimp only at hSw); go_simp; try with_reducible rfl)
  try simp only [Act.put, List.setIfInBounds_toArray, List.set_cons_zero, List.set_cons_succ]
  refine wpAnyH_done (by kernel_rfl) ?_ _
  go_wp2_with fail
  refine bodyPost_ret (res4 rfl _ _ _) rfl ?_
  exact ⟨rfl, on HB1.out hB⟩
theorem next_any (hs : s.size ≤ 900) : Calls Tryz.prog 108 #[.string s, .int .i64 at_] w (NextTo w (nextV at_ (one (s.data.toList.drop at_)))) := by
  by_cases hat : at_ < s.size
  · rw [one_at hat]
    by_cases h92 : s[at_] = 92
    · rw [if_pos h92]
      by_cases hl : at_ + 1 < s.size
      · rw [dif_pos hl]
        cases hlet : letter s[at_ + 1] with
        | true => exact next_letter hs hat h92 hl hlet
        | false => exact next_escaped hs hat h92 hl hlet
      · rw [dif_neg hl]; exact next_last hs hat h92 hl
    · rw [if_neg h92]; exact next_plain hs hat h92
  · rw [Kit.drop_end s at_ hat]; exact next_end hat
end
end Go.Proofs.YtmbibaccpeldoaaGreatDoor.W13
/-
  Layer 13 (class), plain mathematics: items by absolute places, as the document's own Parse goes through them. No condition but those that each theorem bears.
-/
namespace Go.Proofs.YtmbibaccpeldoaaGreatDoor.M13
open Go

/-- items and their end, by absolute places -/
def itemsA (s : List UInt8) : Nat → Nat → Bool → (Nat → Bool) → (Nat → Bool) × Nat × Int
  | 0, _, _, _ => (fun _ => false, 0, 3)
  | fuel + 1, a, fst, f =>
    if s.length ≤ a then (fun _ => false, 0, 3)
    else if s.getD a 0 = 93 ∧ fst = false then (f, a + 1, 0)
    else if (item (s.drop a)).2.1 ≠ 0 then (fun _ => false, 0, (item (s.drop a)).2.1)
    else itemsA s fuel (a + (item (s.drop a)).1) false (fun i => f i || (item (s.drop a)).2.2 i)
theorem item_pos' {s : List UInt8} (h : (item s).2.1 = 0) : 0 < (item s).1 := by
  revert h
  unfold item
  split
  · simp
  · rename_i hn
    split
    · split
      · simp
      · simp only; omega
    · split
      · simp only; omega
      · split
        · simp
        · split
          · simp
          · split
            · simp
            · simp only; omega
theorem itemsA_is (s : List UInt8) (o : Nat) : ∀ (fuel k : Nat) (f : Nat → Bool), itemsA s fuel (o + k) (decide (k = 0)) f = ((items (s.drop o) fuel k f).1, (if (items (s.drop o) fuel k f).2.2 = 0 then o + (items (s.drop o) fuel k f).2.1 else 0), (items (s.drop o) fuel k f).2.2)
  | 0, k, f => rfl
  | fuel + 1, k, f => by
    unfold itemsA items
    have hlen : (s.drop o).length = s.length - o := List.length_drop
    have hget : (s.drop o).getD k 0 = s.getD (o + k) 0 := by rw [List.getD_eq_getElem?_getD, List.getD_eq_getElem?_getD, List.getElem?_drop]
    have hdrop : (s.drop o).drop k = s.drop (o + k) := by rw [List.drop_drop]
    rw [hget, hdrop, hlen]
    obtain ⟨⟨n, er, G⟩, hI⟩ : ∃ r, item (s.drop (o + k)) = r := ⟨_, rfl⟩
    have hpos := @item_pos' (s.drop (o + k))
    rw [hI] at hpos ⊢
    simp only at hpos ⊢
    by_cases h1 : s.length ≤ o + k
    · have g1 : s.length - o ≤ k := by omega
      simp only [if_pos h1, if_pos g1]; rfl
    · have g1 : ¬ s.length - o ≤ k := by omega
      simp only [if_neg h1, if_neg g1]
      by_cases h2 : s.getD (o + k) 0 = 93 ∧ 0 < k
      · have g2 : s.getD (o + k) 0 = 93 ∧ decide (k = 0) = false := ⟨h2.1, by simp; omega⟩
        simp only [if_pos h2, if_pos g2]; rfl
      · have g2 : ¬ (s.getD (o + k) 0 = 93 ∧ decide (k = 0) = false) := by rintro ⟨a, b⟩; exact h2 ⟨a, by simpa [Nat.pos_iff_ne_zero] using b⟩
        simp only [if_neg h2, if_neg g2]
        by_cases h3 : er ≠ 0
        · simp only [if_pos h3, if_neg h3]
        · simp only [if_neg h3]
          have hp : 0 < n := hpos (by simpa using h3)
          have := itemsA_is s o fuel (k + n) (fun i => f i || G i)
          rw [← Nat.add_assoc, decide_eq_false (by omega : ¬ k + n = 0)] at this
          exact this
section
variable {S : List UInt8} {a k : Nat} {fst : Bool} {F G : Nat → Bool}
theorem itemsA_bad {er : Int} (hne : ¬ (S.getD a 0 = 93 ∧ fst = false)) (hi : item (S.drop a) = (0, er, G)) (her : er ≠ 0) (h3 : S.length ≤ a → er = 3) : itemsA S (k + 1) a fst F = (fun _ => false, 0, er) := by
  unfold itemsA
  by_cases h : S.length ≤ a
  · rw [if_pos h, h3 h]
  · rw [if_neg h, if_neg hne, hi, if_pos her]
theorem itemsA_on {n : Nat} (hlt : a < S.length) (hne : ¬ (S.getD a 0 = 93 ∧ fst = false)) (hi : item (S.drop a) = (n, 0, G)) : itemsA S (k + 1) a fst F = itemsA S k (a + n) false (fun i => F i || G i) := by
  rw [itemsA, if_neg (by omega), if_neg hne, hi, if_neg (by simp)]
theorem itemsA_end (hlt : a < S.length) (h93 : S.getD a 0 = 93) : itemsA S (k + 1) a false F = (F, a + 1, 0) := by
  rw [itemsA, if_neg (by omega), if_pos ⟨h93, rfl⟩]
end
/-- what Parse makes of the items -/
def fin (neg : Bool) (R : (Nat → Bool) × Nat × Int) : (Nat → Bool) × Nat × Int :=
  if R.2.2 ≠ 0 then (fun _ => false, 0, R.2.2) else if neg = true then (fun i => !R.1 i, R.2.1, 0) else (R.1, R.2.1, 0)
theorem fin_bad {neg : Bool} {er : Int} {F : Nat → Bool} {n : Nat} (h : er ≠ 0) : fin neg (F, n, er) = (fun _ => false, 0, er) := if_pos h
theorem fin_neg {F : Nat → Bool} {n : Nat} : fin true (F, n, 0) = (fun i => !F i, n, 0) := rfl
theorem fin_ok {F : Nat → Bool} {n : Nat} : fin false (F, n, 0) = (F, n, 0) := rfl
theorem parse_neg (q : List UInt8) : parse (91 :: 94 :: q) = fin true (itemsA (91 :: 94 :: q) (q.length + 1) 2 true (fun _ => false)) := by
  have h := itemsA_is (91 :: 94 :: q) 2 (q.length + 1) 0 (fun _ => false)
  rw [Nat.add_zero, show decide (0 = 0) = true from rfl, show (91 :: 94 :: q).drop 2 = q from rfl] at h
  rw [h]
  unfold parse
  simp only [if_pos]
  by_cases he : (items q (q.length + 1) 0 (fun _ => false)).2.2 ≠ 0
  · rw [if_pos he, fin_bad he]
  · have he2 : (items q (q.length + 1) 0 (fun _ => false)).2.2 = 0 := by simpa using he
    rw [if_neg he, if_pos he2, he2]; rfl
theorem parse_pos (r : List UInt8) (h94 : r.getD 0 0 ≠ 94) : parse (91 :: r) = fin false (itemsA (91 :: r) (r.length + 1) 1 true (fun _ => false)) := by
  have h := itemsA_is (91 :: r) 1 (r.length + 1) 0 (fun _ => false)
  rw [Nat.add_zero, show decide (0 = 0) = true from rfl, show (91 :: r).drop 1 = r from rfl] at h
  rw [h]
  unfold parse
  match r, h94 with
  | [], _ => rfl
  | d :: q, h94 =>
    have hd : ¬ d = 94 := h94
    simp only [if_pos]
    rw [if_neg hd]
    by_cases he : (items (d :: q) ((d :: q).length + 1) 0 (fun _ => false)).2.2 ≠ 0
    · rw [if_pos he, fin_bad he]
    · have he2 : (items (d :: q) ((d :: q).length + 1) 0 (fun _ => false)).2.2 = 0 := by simpa using he
      rw [if_neg he, if_pos he2, he2]; rfl

/-! an item, way by way -/
section
variable {D : List UInt8} {c c2 : UInt8} {m m2 : Nat} {l l2 : Bool}
theorem item_none (h : one D = (c, 0, l)) : item D = (0, 3, fun _ => false) := by unfold item; rw [h]; rfl
theorem item_lj (h : one D = (c, m, true)) (hm : m ≠ 0) (hj : joined (D.drop m) = true) : item D = (0, 3, fun _ => false) := by
  unfold item; rw [h]; simp only; rw [if_neg hm, if_pos trivial, if_pos hj]
theorem item_l (h : one D = (c, m, true)) (hm : m ≠ 0) (hj : joined (D.drop m) = false) : item D = (m, 0, namedF c) := by
  unfold item; rw [h]; simp only; rw [if_neg hm, if_pos trivial, if_neg (by rw [hj]; simp)]
theorem item_p (h : one D = (c, m, false)) (hm : m ≠ 0) (hj : joined (D.drop m) = false) : item D = (m, 0, fun i => decide (i = c.toNat)) := by
  unfold item; rw [h]; simp only; rw [if_neg hm, if_neg (by simp), if_pos hj]
theorem item_n2 (h : one D = (c, m, false)) (hm : m ≠ 0) (hj : joined (D.drop m) = true) (h2 : one (D.drop (m + 1)) = (c2, 0, l2)) : item D = (0, 3, fun _ => false) := by
  unfold item; rw [h]; simp only; rw [if_neg hm, if_neg (by simp), if_neg (by rw [hj]; simp), h2]; rfl
theorem item_l2 (h : one D = (c, m, false)) (hm : m ≠ 0) (hj : joined (D.drop m) = true) (h2 : one (D.drop (m + 1)) = (c2, m2, true)) (hm2 : m2 ≠ 0) : item D = (0, 3, fun _ => false) := by
  unfold item; rw [h]; simp only; rw [if_neg hm, if_neg (by simp), if_neg (by rw [hj]; simp), h2]; simp only; rw [if_neg hm2, if_pos trivial]
theorem item_lt (h : one D = (c, m, false)) (hm : m ≠ 0) (hj : joined (D.drop m) = true) (h2 : one (D.drop (m + 1)) = (c2, m2, false)) (hm2 : m2 ≠ 0) (hlt : c2.toNat < c.toNat) : item D = (0, 4, fun _ => false) := by
  unfold item; rw [h]; simp only; rw [if_neg hm, if_neg (by simp), if_neg (by rw [hj]; simp), h2]; simp only; rw [if_neg hm2, if_neg (by simp), if_pos hlt]
theorem item_ok (h : one D = (c, m, false)) (hm : m ≠ 0) (hj : joined (D.drop m) = true) (h2 : one (D.drop (m + 1)) = (c2, m2, false)) (hm2 : m2 ≠ 0) (hlt : ¬ c2.toNat < c.toNat) : item D = (m + 1 + m2, 0, between c.toNat c2.toNat) := by
  unfold item; rw [h]; simp only; rw [if_neg hm, if_neg (by simp), if_neg (by rw [hj]; simp), h2]; simp only; rw [if_neg hm2, if_neg (by simp), if_neg hlt]
end
end Go.Proofs.YtmbibaccpeldoaaGreatDoor.M13
