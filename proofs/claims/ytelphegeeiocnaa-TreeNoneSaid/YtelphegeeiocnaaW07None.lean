/-
  Layer 7 (tree), a walk of the law TreeNone over the contracts of the calls of no tree: it returns true, at every act; nothing that was there is changed.
-/
import Derived.Test.YtelphegeeiocnaaW07Lives
namespace Go.Proofs.Ytelphegeeiocnaa.W07
open Go Go.RowKit Go.Proofs.Ytelphegeeiocnaa.Strs Go.Proofs.Ytelphegeeiocnaa.Recs Go.Proofs.Ytelphegeeiocnaa.M07 Go.Proofs.Ytelphegeeiocnaa.Range
open Go.Proofs.Ytelphegeeiocnaa.Kit (ret_str ret_bool ret_int mk_of mk_bytes ba_ext below_draws on)

/-- what a call of no tree returns -/
def Tells (u : Value) (w : World) (e : Ending) (w' : World) : Prop := e = .returned u ∧ Below w.heap.size w w'
structure NoTree : Prop where
  put : ∀ w (d : Int) (s : ByteArray) (k : Int) (x : ByteArray), Calls Try.prog 11 #[.pointer none, .int .i64 d, .string s, .int .i64 k, .string x] w (Tells (.tuple #[.int .i64 0, .int .i64 1]) w)
  set : ∀ w (d : Int) (x : ByteArray), Calls Try.prog 19 #[.pointer none, .int .i64 d, .string x] w (Tells (.int .i64 1) w)
  cut : ∀ w (d : Int) (s : ByteArray), Calls Try.prog 12 #[.pointer none, .int .i64 d, .string s] w (Tells (.int .i64 1) w)
  move : ∀ w (d : Int) (s : ByteArray) (k : Int) (x : ByteArray), Calls Try.prog 20 #[.pointer none, .int .i64 d, .string s, .int .i64 k, .string x] w (Tells (.int .i64 1) w)
  kind : ∀ w (d : Int), Calls Try.prog 17 #[.pointer none, .int .i64 d] w (Tells (.int .i64 0) w)
  data : ∀ w (d : Int), Calls Try.prog 21 #[.pointer none, .int .i64 d] w (Tells (.string ⟨#[]⟩) w)
  list : ∀ w (d : Int), Calls Try.prog 15 #[.pointer none, .int .i64 d] w fun e w' => ∃ A c, Tells (.slice A 0 c) w e w'
  up : ∀ w (d : Int), Calls Try.prog 16 #[.pointer none, .int .i64 d] w (Tells (.int .i64 0) w)
  len : ∀ w, Calls Try.prog 18 #[.pointer none] w (Tells (.int .i64 0) w)
  copy : ∀ w, Calls Try.prog 10 #[.pointer none] w (Tells (.pointer none) w)
/-- an act in memory -/
structure ActOne (w : World) (p : Nat) (x : Ac) : Prop where
  c1 : w.cell? ⟨p, 1, none⟩ = some (.int .i64 x.dir)
  c2 : w.cell? ⟨p, 2, none⟩ = some (.int .i64 x.to)
  c3 : w.cell? ⟨p, 3, none⟩ = some (.string ⟨x.name.toArray⟩)
  c4 : w.cell? ⟨p, 4, none⟩ = some (.string ⟨x.alias.toArray⟩)
  c5 : w.cell? ⟨p, 5, none⟩ = some (.int .i64 x.kind)
  c6 : w.cell? ⟨p, 6, none⟩ = some (.string ⟨x.data.toArray⟩)
theorem ActOne.new (w : World) (x : Ac) (t : TypeId) : ActOne (w.alloc (.cells #[.int .i64 x.act, .int .i64 x.dir, .int .i64 x.to, .string ⟨x.name.toArray⟩, .string ⟨x.alias.toArray⟩, .int .i64 x.kind, .string ⟨x.data.toArray⟩] t)) w.heap.size x := by
  constructor <;> simp
theorem ActOne.below {w w' : World} {p : Nat} {x : Ac} (h : ActOne w p x) (hp : p < w.heap.size) (hb : Below w.heap.size w w') : ActOne w' p x :=
  ⟨(hb.cell hp).trans h.c1, (hb.cell hp).trans h.c2, (hb.cell hp).trans h.c3, (hb.cell hp).trans h.c4, (hb.cell hp).trans h.c5, (hb.cell hp).trans h.c6⟩
/-- what is held between two calls -/
structure NilAt (w w' : World) (p : Nat) (x : Ac) : Prop where
  box : ActOne w' p x
  lt : p < w'.heap.size
  below : Below w.heap.size w w'
theorem NilAt.next {w w1 w2 : World} {p : Nat} {x : Ac} (h : NilAt w w1 p x) (hb : Below w1.heap.size w1 w2) : NilAt w w2 p x := ⟨h.box.below h.lt hb, Nat.lt_of_lt_of_le h.lt hb.size, on h.below hb⟩

set_option maxHeartbeats 4000000 in
set_option maxRecDepth 100000 in
theorem treeNone_over {Rep : (Nat → Prop) → World → Value → Tr → Prop} (C : Trees Rep) (N : NoTree) (w : World) (x : Ac) :
    Calls Try.prog 5 #[.agg #[.int .i64 x.act, .int .i64 x.dir, .int .i64 x.to, .string ⟨x.name.toArray⟩, .string ⟨x.alias.toArray⟩, .int .i64 x.kind, .string ⟨x.data.toArray⟩]] w fun e w' => e = .returned (.bool true) ∧ Below w.heap.size w w' := by
  have HLV := Lib.hid (lives_tree C)
  have HN := Lib.hid N
  obtain ⟨w1, hw1⟩ : ∃ w', w.alloc (.cells #[.int .i64 x.act, .int .i64 x.dir, .int .i64 x.to, .string ⟨x.name.toArray⟩, .string ⟨x.alias.toArray⟩, .int .i64 x.kind, .string ⟨x.data.toArray⟩] 32) = w' := ⟨_, rfl⟩
  have H1 : Hid (NilAt w w1 w.heap.size x) := ⟨by rw [← hw1]; exact ActOne.new _ _ _, by rw [← hw1]; simp, by rw [← hw1]; exact (Below.refl _ _).alloc (Nat.le_refl _) _⟩
  have c1 := H1.out.box.c1
  have c2 := H1.out.box.c2
  have c3 := H1.out.box.c3
  have c4 := H1.out.box.c4
  have c5 := H1.out.box.c5
  have c6 := H1.out.box.c6
  clear N
  go_enter Try.func5, Try.ntmps5
  go_wp2_with fail
  refine (HN.out.put _ _ _ _ _).mono ?_
  rintro e w2 ⟨rfl, hb⟩
  clear hw1
  have H2 := Lib.hid (H1.out.next hb)
  clear hb c1 c2 c3 c4 c5 c6
  have c1 := H2.out.box.c1
  have c2 := H2.out.box.c2
  have c3 := H2.out.box.c3
  have c4 := H2.out.box.c4
  have c5 := H2.out.box.c5
  have c6 := H2.out.box.c6
  go_wp2_with fail
  refine (HN.out.set _ _ _).mono ?_
  rintro e w3 ⟨rfl, hb⟩
  have H3 := Lib.hid (H2.out.next hb)
  clear hb c1 c2 c3 c4 c5 c6
  have c1 := H3.out.box.c1
  have c2 := H3.out.box.c2
  have c3 := H3.out.box.c3
  have c4 := H3.out.box.c4
  have c5 := H3.out.box.c5
  have c6 := H3.out.box.c6
  go_wp2_with fail
  refine (HN.out.cut _ _ _).mono ?_
  rintro e w4 ⟨rfl, hb⟩
  have H4 := Lib.hid (H3.out.next hb)
  clear hb c1 c2 c3 c4 c5 c6
  have c1 := H4.out.box.c1
  have c2 := H4.out.box.c2
  have c3 := H4.out.box.c3
  have c4 := H4.out.box.c4
  have c5 := H4.out.box.c5
  have c6 := H4.out.box.c6
  go_wp2_with fail
  refine (HN.out.move _ _ _ _ _).mono ?_
  rintro e w5 ⟨rfl, hb⟩
  have H5 := Lib.hid (H4.out.next hb)
  clear hb c1 c2 c3 c4 c5 c6
  have c1 := H5.out.box.c1
  have c2 := H5.out.box.c2
  have c3 := H5.out.box.c3
  have c4 := H5.out.box.c4
  have c5 := H5.out.box.c5
  have c6 := H5.out.box.c6
  go_wp2_with fail
  refine (HN.out.kind _ _).mono ?_
  rintro e w6 ⟨rfl, hb⟩
  have H6 := Lib.hid (H5.out.next hb)
  clear hb c1 c2 c3 c4 c5 c6
  have c1 := H6.out.box.c1
  have c2 := H6.out.box.c2
  have c3 := H6.out.box.c3
  have c4 := H6.out.box.c4
  have c5 := H6.out.box.c5
  have c6 := H6.out.box.c6
  go_wp2_with fail
  refine (HN.out.data _ _).mono ?_
  rintro e w7 ⟨rfl, hb⟩
  have H7 := Lib.hid (H6.out.next hb)
  clear hb c1 c2 c3 c4 c5 c6
  have c1 := H7.out.box.c1
  have c2 := H7.out.box.c2
  have c3 := H7.out.box.c3
  have c4 := H7.out.box.c4
  have c5 := H7.out.box.c5
  have c6 := H7.out.box.c6
  go_wp2_with fail
  refine (HN.out.list _ _).mono ?_
  rintro e w8 ⟨A, c, rfl, hb⟩
  have H8 := Lib.hid (H7.out.next hb)
  clear hb c1 c2 c3 c4 c5 c6
  have c1 := H8.out.box.c1
  have c2 := H8.out.box.c2
  have c3 := H8.out.box.c3
  have c4 := H8.out.box.c4
  have c5 := H8.out.box.c5
  have c6 := H8.out.box.c6
  go_wp2_with fail
  refine (HN.out.up _ _).mono ?_
  rintro e w9 ⟨rfl, hb⟩
  have H9 := Lib.hid (H8.out.next hb)
  clear hb c1 c2 c3 c4 c5 c6
  have c1 := H9.out.box.c1
  have c2 := H9.out.box.c2
  have c3 := H9.out.box.c3
  have c4 := H9.out.box.c4
  have c5 := H9.out.box.c5
  have c6 := H9.out.box.c6
  go_wp2_with fail
  refine (HN.out.len _).mono ?_
  rintro e w10 ⟨rfl, hb⟩
  have H10 := Lib.hid (H9.out.next hb)
  clear hb c1 c2 c3 c4 c5 c6
  have c1 := H10.out.box.c1
  have c2 := H10.out.box.c2
  have c3 := H10.out.box.c3
  have c4 := H10.out.box.c4
  have c5 := H10.out.box.c5
  have c6 := H10.out.box.c6
  go_wp2_with fail
  refine (HN.out.copy _).mono ?_
  rintro e w11 ⟨rfl, hb⟩
  have H11 := Lib.hid (H10.out.next hb)
  clear hb c1 c2 c3 c4 c5 c6
  have c1 := H11.out.box.c1
  have c2 := H11.out.box.c2
  have c3 := H11.out.box.c3
  have c4 := H11.out.box.c4
  have c5 := H11.out.box.c5
  have c6 := H11.out.box.c6
  go_wp2_with fail
  refine (HLV.out _).mono ?_
  rintro e w12 ⟨rfl, hb⟩
  go_wp2_with fail
  go_ret
  exact ⟨rfl, on H11.out.below hb⟩
end Go.Proofs.Ytelphegeeiocnaa.W07
