/-
  Texts joined, in build order, each with its own comment and its own conditions: W15In, W15Kid.
-/
import Derived.Test.YtmbibaccpeldoaaGreatDoorJ02
import Derived.Test.YtmbibaccpeldoaaGreatDoorJ14
/-
  Layer 15 (prog), plain mathematics: where a piece's steps go on: among themselves, or right behind them. No condition but those that each theorem bears.
-/
namespace Go.Proofs.YtmbibaccpeldoaaGreatDoor.M15
open Go Go.Proofs.YtmbibaccpeldoaaGreatDoor.M14

/-- a step that goes on from lo to hi -/
structure Inside (lo hi : Nat) (x : Inst) : Prop where
  x1 : (lo : Int) ≤ x.x
  x2 : x.x ≤ (hi : Int)
  y1 : x.kind = 6 → (lo : Int) ≤ x.y ∧ x.y ≤ (hi : Int)
  y2 : x.kind ≠ 6 → x.y = 0
  k : 1 ≤ x.kind ∧ x.kind ≤ 8 ∧ x.kind ≠ 7
theorem Inside.wider {lo hi lo' hi' : Nat} {x : Inst} (h : Inside lo hi x) (h1 : lo' ≤ lo) (h2 : hi ≤ hi') : Inside lo' hi' x :=
  ⟨by have := h.x1; omega, by have := h.x2; omega, fun q => by have := h.y1 q; omega, h.y2, h.k⟩
theorem inside_split {lo hi x y : Nat} (h1 : lo ≤ x ∧ x ≤ hi) (h2 : lo ≤ y ∧ y ≤ hi) : Inside lo hi (split x y) := by
  refine ⟨?_, ?_, fun _ => ?_, fun q => absurd rfl q, ?_⟩ <;> simp only [split] <;> omega
theorem inside_jump {lo hi x : Nat} (h1 : lo ≤ x ∧ x ≤ hi) : Inside lo hi (jump x) := by
  refine ⟨?_, ?_, fun q => ?_, fun _ => rfl, ?_⟩
  · simp only [jump]; omega
  · simp only [jump]; omega
  · simp [jump] at q
  · simp only [jump]; omega
theorem inside_one {lo hi a : Nat} {k : Int} (t : ByteArray) (h1 : lo ≤ a + 1 ∧ a + 1 ≤ hi) (hk : 1 ≤ k ∧ k ≤ 5) : Inside lo hi (one k t a) := by
  refine ⟨?_, ?_, fun q => ?_, fun _ => rfl, ?_⟩
  · simp only [one]; omega
  · simp only [one]; omega
  · simp only [one] at q; omega
  · simp only [one]; omega
theorem times_in {f : Nat → List Inst} {K : Nat} (hl : ∀ a, (f a).length = K) (hf : ∀ a x, x ∈ f a → Inside a (a + K) x) {lo hi : Nat} : ∀ (n a : Nat), lo ≤ a → a + n * K ≤ hi → ∀ x, x ∈ times f n a → Inside lo hi x
  | 0, a, _, _, x, hx => by simp [times] at hx
  | n + 1, a, h1, h2, x, hx => by
    rw [Nat.succ_mul] at h2
    rw [times] at hx
    rcases List.mem_append.1 hx with hx | hx
    · exact (hf a x hx).wider h1 (by omega)
    · rw [hl] at hx
      exact times_in hl hf n (a + K) (by omega) (by omega) x hx
theorem maybe_in {f : Nat → List Inst} {K : Nat} (hl : ∀ a, (f a).length = K) (hf : ∀ a x, x ∈ f a → Inside a (a + K) x) {lo hi e : Nat} (he : lo ≤ e ∧ e ≤ hi) : ∀ (n a : Nat), lo ≤ a → a + n * (K + 1) ≤ hi → ∀ x, x ∈ maybe f e n a → Inside lo hi x
  | 0, a, _, _, x, hx => by simp [maybe] at hx
  | n + 1, a, h1, h2, x, hx => by
    rw [Nat.succ_mul] at h2
    rw [maybe] at hx
    rcases List.mem_cons.1 hx with rfl | hx
    · exact inside_split ⟨by omega, by omega⟩ he
    · rcases List.mem_append.1 hx with hx | hx
      · exact (hf (a + 1) x hx).wider (by omega) (by omega)
      · rw [hl] at hx
        exact maybe_in hl hf he n (a + 1 + K) (by omega) (by omega) x hx
theorem star_in {f : Nat → List Inst} {K : Nat} (hf : ∀ a x, x ∈ f a → Inside a (a + K) x) {lo hi e a : Nat} (he : lo ≤ e ∧ e ≤ hi) (h1 : lo ≤ a) (h2 : a + K + 2 ≤ hi) : ∀ x, x ∈ star f e a → Inside lo hi x := by
  intro x hx
  rw [star] at hx
  rcases List.mem_cons.1 hx with rfl | hx
  · exact inside_split ⟨by omega, by omega⟩ he
  · rcases List.mem_append.1 hx with hx | hx
    · exact (hf (a + 1) x hx).wider (by omega) (by omega)
    · rw [List.mem_singleton.1 hx]
      exact inside_jump ⟨by omega, by omega⟩
theorem seqs_in {lo hi : Nat} : ∀ {ks : List Piece}, (∀ p, p ∈ ks → ∀ a x, x ∈ steps p a → Inside a (a + size p) x) → ∀ a, lo ≤ a → a + sizes ks ≤ hi → ∀ x, x ∈ seqs ks a → Inside lo hi x
  | [], _, a, _, _, x, hx => by simp [seqs] at hx
  | p :: l, h, a, h1, h2, x, hx => by
    rw [show sizes (p :: l) = size p + sizes l by simp only [sizes]] at h2
    rw [seqs] at hx
    rcases List.mem_append.1 hx with hx | hx
    · exact (h p (by simp) a x hx).wider h1 (by omega)
    · exact seqs_in (fun q hq => h q (by simp [hq])) (a + size p) (by omega) (by omega) x hx
theorem alts_in {lo hi e : Nat} (he : lo ≤ e ∧ e ≤ hi) : ∀ {ks : List Piece}, (∀ p, p ∈ ks → ∀ a x, x ∈ steps p a → Inside a (a + size p) x) → ∀ a, lo ≤ a → a + sizes ks + 2 * (ks.length - 1) ≤ hi → ∀ x, x ∈ alts ks a e → Inside lo hi x
  | [], _, a, _, _, x, hx => by simp [alts] at hx
  | [p], h, a, h1, h2, x, hx => by
    rw [alts_1] at hx
    rw [show sizes [p] = size p by simp only [sizes, Nat.add_zero]] at h2
    exact (h p (by simp) a x hx).wider h1 (by omega)
  | p :: q :: l, h, a, h1, h2, x, hx => by
    rw [show sizes (p :: q :: l) = size p + sizes (q :: l) by simp only [sizes]] at h2
    simp only [List.length_cons] at h2
    rw [alts_2] at hx
    rcases List.mem_cons.1 hx with rfl | hx
    · exact inside_split ⟨by omega, by omega⟩ ⟨by omega, by omega⟩
    · rcases List.mem_append.1 hx with hx | hx
      · exact (h p (by simp) (a + 1) x hx).wider (by omega) (by omega)
      · rcases List.mem_cons.1 hx with rfl | hx
        · exact inside_jump he
        · exact alts_in he (ks := q :: l) (fun r hr => h r (by simp at hr; simp [hr])) (a + size p + 2) (by omega) (by simp only [List.length_cons]; omega) x hx
/-- where a piece's steps go on -/
theorem steps_in {p : Piece} (h : Good p) : size p ≤ 4000 → ∀ a x, x ∈ steps p a → Inside a (a + size p) x := by
  induction h with
  | leaf k t h =>
    intro _ a x hx
    rw [steps_leaf h] at hx
    rw [size_1 h]
    by_cases c : k = 1
    · rw [if_pos c] at hx; simp at hx
    · rw [if_neg c] at hx
      rw [if_neg c, List.mem_singleton.1 hx]
      exact inside_one _ ⟨by omega, by omega⟩ (by omega)
  | many k hk ks h2 hw ih =>
    intro hs a x hx
    rcases hk with rfl | rfl
    · rw [steps_7] at hx
      rw [size_7] at hs ⊢
      exact seqs_in (fun p hp => ih p hp (by have := size_mem hp; omega)) a (Nat.le_refl _) (by omega) x hx
    · rw [steps_8] at hx
      rw [size_8] at hs hx ⊢
      exact alts_in ⟨by omega, by omega⟩ (fun p hp => ih p hp (by have := size_mem hp; omega)) a (Nat.le_refl _) (by omega) x hx
  | rep p m t hm ht hw ih =>
    intro hs a x hx
    rw [steps_9] at hx
    by_cases hu : 0 < m ∨ t = -1 ∨ m < t
    · have hk := rep_kid hs hu hm.1
      have hl := steps_len hw hk
      have hf := ih hk
      have hz := size_9 no p m t
      obtain ⟨E, hE⟩ : ∃ E, size (.mk 9 no [p] m t) = E := ⟨_, rfl⟩
      rw [hE] at hs hx hz ⊢
      unfold reps at hx
      rw [times_len hl] at hx
      by_cases c : t = -1
      · rw [if_pos c] at hx hz
        rcases List.mem_append.1 hx with hx | hx
        · exact times_in hl hf m.toNat a (Nat.le_refl _) (by omega) x hx
        · exact star_in hf ⟨by omega, by omega⟩ (by omega) (by omega) x hx
      · rw [if_neg c] at hx hz
        rcases List.mem_append.1 hx with hx | hx
        · exact times_in hl hf m.toNat a (Nat.le_refl _) (by omega) x hx
        · exact maybe_in hl hf ⟨by omega, by omega⟩ _ _ (by omega) (by omega) x hx
    · have hm0 : m = 0 := by omega
      have ht0 : t = 0 := by omega
      subst hm0 ht0
      unfold reps at hx
      simp [times, maybe] at hx
end Go.Proofs.YtmbibaccpeldoaaGreatDoor.M15
/-
  Layer 15 (prog), walk of the function that again answers: called the first time it lays the piece's steps, called again it lays them once more. The conditions stand in the statements.
-/
namespace Go.Proofs.YtmbibaccpeldoaaGreatDoor.W15
set_option maxRecDepth 100000
open Go Go.RowKit Go.Proofs.YtmbibaccpeldoaaGreatDoor.Strs Go.Proofs.YtmbibaccpeldoaaGreatDoor.Recs Go.Proofs.YtmbibaccpeldoaaGreatDoor.M15
open Go.Proofs.YtmbibaccpeldoaaGreatDoor.M14 (Piece size sizes)
open Go.Proofs.YtmbibaccpeldoaaGreatDoor.W14 (Raw Raws rawA rawC PAt PAll PBox below_new cell_block own_same own_form box_arg load_piece two_new)
open Go.Proofs.YtmbibaccpeldoaaGreatDoor.Row256 (Beside)
open Go.Proofs.YtmbibaccpeldoaaGreatDoor.Kit (below_draws on)

/-- where the piece's steps are, once they are laid -/
def Cons (laid : Bool) (f e : Nat) (L : List Inst) (p : Piece) : Prop := laid = true → ∃ P R, L = P ++ (steps p f ++ R) ∧ P.length = f ∧ e = f + (steps p f).length
theorem Cons.more {laid : Bool} {f e : Nat} {L : List Inst} {p : Piece} (h : Cons laid f e L p) (M : List Inst) : Cons laid f e (L ++ M) p := fun hl => by
  obtain ⟨P, R, rfl, h1, h2⟩ := h hl
  exact ⟨P, R ++ M, by simp only [List.append_assoc], h1, h2⟩
/-- what a call of it comes to -/
def Kid (b c2 c3 c5 c6 c7 : Nat) (r : Raw) (p : Piece) (v : Value) (w : World) (L : List Inst) (e : Ending) (w' : World) : Prop :=
  e = .returned (.tuple #[]) ∧ ∃ v' f e', Lay w' b v' (L ++ steps p L.length) ∧ Turn b c5 c6 c7 v v' w w' ∧ Again w' b c2 c3 c5 c6 c7 r true f e' ∧ Cons true f e' (L ++ steps p L.length) p
section
variable {w w' : World} {b c2 c3 c5 c6 c7 f e : Nat} {r : Raw} {laid : Bool} {v v' : Value} {L : List Inst} {p : Piece}
theorem cell0 {c : Nat} {t : TypeId} {u : Value} (h : w.heap[c]? = some (.cells #[u] t (0, 0))) : w.cell? ⟨c, 0, none⟩ = some u ∧ w.frozen? ⟨c, 0, none⟩ = false := ⟨cell_of_row w c 0 _ _ _ h, frozen_of_row w c 0 _ _ h⟩
theorem put_block {c : Nat} {t : TypeId} {u : Value} (h : w.heap[c]? = some (.cells #[u] t (0, 0))) (u' : Value) : (w.setCell ⟨c, 0, none⟩ u').heap[c]? = some (.cells #[u'] t (0, 0)) := by
  rw [heap_setCell_same w c 0 _ _ _ h]; rfl
theorem Again.put5 (h : Again w b c2 c3 c5 c6 c7 r laid f e) (h5 : Five b c2 c3 c5 c6 c7) (n : Nat) : Again (w.setCell ⟨c5, 0, none⟩ (.int .i64 n)) b c2 c3 c5 c6 c7 r laid n e := by
  unfold Five at h5
  exact ⟨(heap_setCell_other w _ c2 _ (show c2 ≠ c5 by omega)).trans h.b2, (heap_setCell_other w _ c3 _ (show c3 ≠ c5 by omega)).trans h.b3, put_block h.b5 _, (heap_setCell_other w _ c6 _ (show c6 ≠ c5 by omega)).trans h.b6, (heap_setCell_other w _ c7 _ (show c7 ≠ c5 by omega)).trans h.b7⟩
theorem Again.put6 (h : Again w b c2 c3 c5 c6 c7 r laid f e) (h5 : Five b c2 c3 c5 c6 c7) (n : Nat) : Again (w.setCell ⟨c6, 0, none⟩ (.int .i64 n)) b c2 c3 c5 c6 c7 r laid f n := by
  unfold Five at h5
  exact ⟨(heap_setCell_other w _ c2 _ (show c2 ≠ c6 by omega)).trans h.b2, (heap_setCell_other w _ c3 _ (show c3 ≠ c6 by omega)).trans h.b3, (heap_setCell_other w _ c5 _ (show c5 ≠ c6 by omega)).trans h.b5, put_block h.b6 _, (heap_setCell_other w _ c7 _ (show c7 ≠ c6 by omega)).trans h.b7⟩
theorem Again.put7 (h : Again w b c2 c3 c5 c6 c7 r laid f e) (h5 : Five b c2 c3 c5 c6 c7) (l : Bool) : Again (w.setCell ⟨c7, 0, none⟩ (.bool l)) b c2 c3 c5 c6 c7 r l f e := by
  unfold Five at h5
  exact ⟨(heap_setCell_other w _ c2 _ (show c2 ≠ c7 by omega)).trans h.b2, (heap_setCell_other w _ c3 _ (show c3 ≠ c7 by omega)).trans h.b3, (heap_setCell_other w _ c5 _ (show c5 ≠ c7 by omega)).trans h.b5, (heap_setCell_other w _ c6 _ (show c6 ≠ c7 by omega)).trans h.b6, put_block h.b7 _⟩
theorem Lay.put_box (hl : Lay w b v L) {c : Nat} (hc : c ≠ b) (ho : v.ownBlock ≠ some c) (u : Value) : Lay (w.setCell ⟨c, 0, none⟩ u) b v L := hl.other ((Beside.refl c w).put 0 u) hc ho
set_option maxHeartbeats 4000000 in
theorem kid_first (IH : LayOk p) (h : Lay w b v L) (ha : Again w b c2 c3 c5 c6 c7 r false f e) (h5 : Five b c2 c3 c5 c6 c7) (hp : PAt (fun k => k < b) w r p) (hl : L.length + size p ≤ 4000) :
    Calls Tryz.prog 65 #[.pointer (some ⟨c7, 0, none⟩), .pointer (some ⟨c2, 0, none⟩), .pointer (some ⟨c5, 0, none⟩), .pointer (some ⟨c6, 0, none⟩), .pointer (some ⟨c3, 0, none⟩)] w (Kid b c2 c3 c5 c6 c7 r p v w L) := by
  have H := Lib.hid h
  have HA := Lib.hid ha
  have H5 := Lib.hid h5
  have HLEN : Hid ((L ++ steps p L.length).length = L.length + (steps p L.length).length) := List.length_append
  have HC : Hid (∀ (w : World) (v : Value), Lay w b v L → PAt (fun k => k < b) w r p → Calls Tryz.prog 18 #[.pointer (some ⟨b, 0, none⟩), .agg (rawA r)] w (Laid b v w (L ++ steps p L.length))) := fun w v h1 h2 => IH w b v L r h1 h2 hl
  have HP := Lib.hid hp
  obtain ⟨N, hN⟩ : ∃ N, L.length = N := ⟨_, rfl⟩
  obtain ⟨E, hE⟩ : ∃ E, N + (steps p L.length).length = E := ⟨_, rfl⟩
  have HN := Lib.hid hN
  have HE := Lib.hid hE
  obtain ⟨c7a, c7b⟩ := cell0 ha.b7
  obtain ⟨c5a, c5b⟩ := cell0 ha.b5
  obtain ⟨c2a, -⟩ := cell0 ha.b2
  have n1 : ¬ c5 = c7 := by unfold Five at h5; omega
  have n2 : ¬ c7 = c5 := by unfold Five at h5; omega
  have n3 : ¬ c2 = c5 := by unfold Five at h5; omega
  have n4 : ¬ c2 = c7 := by unfold Five at h5; omega
  have n5 : ¬ c5 = c2 := by unfold Five at h5; omega
  have n6 : ¬ c7 = c2 := by unfold Five at h5; omega
  have HH := Lib.hid (here_any h)
  rw [hN] at HH
  clear h ha h5 hp IH hl hN hE
  go_enter Tryz.func65, Tryz.ntmps65
  go_wp2_with fail
  refine HH.out.mono ?_
  rintro e1 w1 ⟨rfl, rfl⟩
  have A2 := Lib.hid ((HA.out.put5 H5.out N).put7 H5.out true)
  have L2 := Lib.hid ((H.out.put_box (c := c5) (by have := H5.out; unfold Five at this; omega) (HA.out.not_own H.out (by simp)) (.int .i64 N)).put_box (c := c7) (by have := H5.out; unfold Five at this; omega) ((HA.out.put5 H5.out N).not_own (H.out.put_box (c := c5) (by have := H5.out; unfold Five at this; omega) (HA.out.not_own H.out (by simp)) (.int .i64 N)) (by simp)) (.bool true))
  have T2 : Hid (Turn b c5 c6 c7 v v w1 ((w1.setCell ⟨c5, 0, none⟩ (.int .i64 N)).setCell ⟨c7, 0, none⟩ (.bool true))) := (Turn.put w1 v b (.inl rfl) _).trans (Turn.put _ v b (.inr (.inr rfl)) _)
  have P2 := Lib.hid (T2.out.piece H5.out H.out HP.out)
  go_wp2_with (first | (refine load_piece (r := r) rfl (.tmp 4) rfl rfl A2.out.b3 ?_))
  refine (HC.out _ _ L2.out P2.out).mono ?_
  rintro e2 w3 ⟨rfl, v3, h3, g3⟩
  have L3 := Lib.hid h3
  have A3 := Lib.hid (A2.out.grow H5.out L2.out g3)
  have T3 := Lib.hid (T2.out.trans (Turn.of g3))
  have H3 := Lib.hid (here_any h3)
  rw [HLEN.out, HN.out] at H3
  have HS : Hid ((steps p L.length).length + N = E) := by unfold Hid; rw [← HE.out, Nat.add_comm]
  have H3 : Hid (Calls Tryz.prog 50 #[.pointer (some ⟨b, 0, none⟩)] w3 fun e w' => e = .returned (.int .i64 E) ∧ w' = w3) := by
    have h1 := here_any h3
    rw [HLEN.out, HN.out] at h1
    rw [HN.out] at HE
    rw [HE.out] at h1
    exact h1
  clear h3 g3 HS
  have d2 := (cell0 A3.out.b2).1
  obtain ⟨d6, d6b⟩ := cell0 A3.out.b6
  go_wp2_with fail
  refine H3.out.mono ?_
  rintro e3 w4 ⟨rfl, rfl⟩
  go_wp2_with fail
  go_end0
  refine ⟨rfl, v3, N, E, L3.out.put_box (by have := H5.out; unfold Five at this; omega) (A3.out.not_own L3.out (by simp)) _, T3.out.trans (Turn.put _ v3 b (.inr (.inl rfl)) _), A3.out.put6 H5.out E, fun _ => ⟨L, [], ?_, HN.out, ?_⟩⟩
  · rw [List.append_nil, HN.out]
  · have := HE.out; rw [HN.out] at this; exact this.symm
set_option maxHeartbeats 4000000 in
theorem kid_more (hg : M15.Good p) (hs : size p ≤ 4000) (h : Lay w b v L) (h5 : Five b c2 c3 c5 c6 c7) (ha : Again w b c2 c3 c5 c6 c7 r true f e) (hc : Cons true f e L p) (hl : L.length + size p ≤ 4000) :
    Calls Tryz.prog 65 #[.pointer (some ⟨c7, 0, none⟩), .pointer (some ⟨c2, 0, none⟩), .pointer (some ⟨c5, 0, none⟩), .pointer (some ⟨c6, 0, none⟩), .pointer (some ⟨c3, 0, none⟩)] w (Kid b c2 c3 c5 c6 c7 r p v w L) := by
  have HA := Lib.hid ha
  have H5 := Lib.hid h5
  have HC := Lib.hid hc
  have HO : Hid (Calls Tryz.prog 66 #[.pointer (some ⟨b, 0, none⟩), .int .i64 f, .int .i64 e] w (Laid b v w (L ++ steps p L.length))) := by
    obtain ⟨P, R, hL, hP, he⟩ := hc rfl
    have hlen := steps_len hg hs f
    by_cases h0 : 0 < (steps p f).length
    · have h1 := h
      rw [hL] at h1
      have h2 := once_any h1 h0 (by rw [← hL]; omega) (fun x hx => by
        have h3 := steps_in hg hs f x hx
        have hf : f ≤ L.length := by rw [hL, ← hP, List.length_append]; omega
        have h4 := h3.x1
        have h5 := h3.x2
        refine ⟨⟨by omega, by omega⟩, ?_⟩
        by_cases c : x.kind = 6
        · have h6 := h3.y1 c; exact ⟨by omega, by omega⟩
        · have h6 := h3.y2 c; exact ⟨by omega, by omega⟩)
      have h3 : L.length = f + ((steps p f).length + R.length) := by rw [hL, List.length_append, List.length_append, hP]
      rw [hP, ← he, ← steps_shift, ← h3, ← hL] at h2
      exact h2
    · have hz : size p = 0 := by omega
      have h1 : steps p L.length = [] := List.length_eq_zero_iff.1 (by rw [steps_len hg hs, hz])
      have h2 : e = f := by omega
      rw [h1, List.append_nil, h2]
      exact once_none h (by rw [hL, ← hP, List.length_append]; omega)
  have d7 := (cell0 ha.b7).1
  have d2 := (cell0 ha.b2).1
  have d5 := (cell0 ha.b5).1
  have d6 := (cell0 ha.b6).1
  have HL := Lib.hid h
  clear ha hc h hg hs hl h5
  go_enter Tryz.func65, Tryz.ntmps65
  go_wp2_with fail
  refine HO.out.mono ?_
  rintro e2 w3 ⟨rfl, v3, h3, g3⟩
  have L3 := Lib.hid h3
  have G3 := Lib.hid g3
  clear h3 g3
  go_wp2_with fail
  (first | go_end0 | (simp only [Exit.inBlock, Exit.then]; refine bodyPost_ret (results_none rfl _ _ _) rfl ?_) | refine bodyPost_ret (results_none rfl _ _ _) rfl ?_)
  exact ⟨rfl, v3, f, e, L3.out, Turn.of G3.out, HA.out.grow H5.out HL.out G3.out, HC.out.more _⟩
theorem kid_any (IH : LayOk p) (hg : M15.Good p) (hs : size p ≤ 4000) (h : Lay w b v L) (h5 : Five b c2 c3 c5 c6 c7) (ha : Again w b c2 c3 c5 c6 c7 r laid f e) (hc : Cons laid f e L p) (hp : PAt (fun k => k < b) w r p) (hl : L.length + size p ≤ 4000) :
    Calls Tryz.prog 65 #[.pointer (some ⟨c7, 0, none⟩), .pointer (some ⟨c2, 0, none⟩), .pointer (some ⟨c5, 0, none⟩), .pointer (some ⟨c6, 0, none⟩), .pointer (some ⟨c3, 0, none⟩)] w (Kid b c2 c3 c5 c6 c7 r p v w L) := by
  cases laid with
  | false => exact kid_first IH h ha h5 hp hl
  | true => exact kid_more hg hs h h5 ha hc hl
end
end Go.Proofs.YtmbibaccpeldoaaGreatDoor.W15
