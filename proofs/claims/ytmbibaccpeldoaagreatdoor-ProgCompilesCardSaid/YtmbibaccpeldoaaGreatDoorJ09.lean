/-
  Texts joined, in build order, each with its own comment and its own conditions: W14RefSize, W14RefRep, W15GSize, W14Sizes.
-/
import Derived.Test.YtmbibaccpeldoaaGreatDoorJ03
import Derived.Deep.LoopGhost
import Derived.Lib.MinMax
import Derived.Test.YtmbibaccpeldoaaGreatDoorJ08
import Derived.Test.YtmbibaccpeldoaaGreatDoorJ07
/-
  Layer 14 (pattern), walk of the document's Size: of a piece that may be it is the mathematics' size. The conditions stand in the statements.
-/
namespace Go.Proofs.YtmbibaccpeldoaaGreatDoor.W14
set_option maxRecDepth 100000
open Go Go.RowKit Go.Proofs.YtmbibaccpeldoaaGreatDoor.Strs Go.Proofs.YtmbibaccpeldoaaGreatDoor.Recs Go.Proofs.YtmbibaccpeldoaaGreatDoor.M14
open Go.Proofs.YtmbibaccpeldoaaGreatDoor.Kit (below_draws on)

theorem size_leaf {k : Int} (hk : k = 1 ∨ k = 2 ∨ k = 3 ∨ k = 4 ∨ k = 5 ∨ k = 6) (t : ByteArray) : size (M14.leaf k t) = if k = 1 then 0 else 1 := by
  unfold M14.leaf size
  by_cases h1 : k = 1
  · simp [h1]
  · simp [h1, show 2 ≤ k ∧ k ≤ 6 by omega]
def SizeTo (w : World) (p : Piece) (e : Ending) (w' : World) : Prop := e = .returned (.int .i64 (size p)) ∧ Below w.heap.size w w'
theorem size_rep (p : Piece) (M : Nat) (t : Int) : size (.mk 9 ⟨#[]⟩ [p] M t) = min 4001 (if t = -1 then M * size p + size p + 2 else M * size p + (t - M).toNat * (size p + 1)) := by
  have h1 : sizes [p] = size p := by simp [sizes]
  conv => lhs; unfold size
  rw [if_neg (by decide), if_neg (by decide), if_neg (by decide), if_neg (by decide), h1, Int.toNat_natCast]
theorem mul_small {a b : Nat} (ha : a ≤ 100) (hb : b ≤ 4002) : a * b ≤ 400200 := Nat.le_trans (Nat.mul_le_mul ha hb) (by decide)
/-- what tells how often may tell -/
def Often (m t : Int) : Prop := (0 ≤ m ∧ m ≤ 100) ∧ (t = -1 ∨ m ≤ t ∧ t ≤ 100)
set_option maxHeartbeats 1000000 in
theorem roften_any {m t : Int} (h : Often m t) {A : Option Addr} {c : Nat} (hc : 1 ≤ c ∧ c ≤ 9223372036854775807) (w : World) : Calls Tryz.prog 23 #[.agg (rawA ⟨9, ⟨#[]⟩, A, 1, c, m, t⟩)] w fun e w' => e = .returned (.bool true) ∧ Below w.heap.size w w' := by
  obtain ⟨⟨hm0, hm1⟩, ht⟩ := h
  have hc1 := hc.1
  have hc2 := hc.2
  have x1 : ¬ m < 0 := by omega
  have x2 : ¬ 100 < m := by omega
  have x3 : ¬ 100 < t := by omega
  by_cases q : t = -1
  · subst q
    clear hc x3 hm0 hm1 ht
    go_enter Tryz.func23, Tryz.ntmps23
    go_wp2_with (first
      | (refine box_arg (r := ⟨9, ⟨#[]⟩, A, 1, c, m, -1⟩) rfl (.tmp 0) rfl rfl ?_; intro w1 b1 e1 p1 l1 z1; have a1 := p1.c1; have a2 := p1.c2; have a3 := p1.c3; have a4 := p1.c4; have L1 := Lib.hid l1; clear e1 p1 l1 z1; simp only at a1 a2 a3 a4))
    go_ret
    exact ⟨rfl, L1.out⟩
  · have x4 : (t == -1) = false := by simpa using q
    have x5 : m ≤ t := by omega
    clear hc hm0 hm1 ht q
    go_enter Tryz.func23, Tryz.ntmps23
    go_wp2_with (first
      | (refine box_arg (r := ⟨9, ⟨#[]⟩, A, 1, c, m, t⟩) rfl (.tmp 0) rfl rfl ?_; intro w1 b1 e1 p1 l1 z1; have a1 := p1.c1; have a2 := p1.c2; have a3 := p1.c3; have a4 := p1.c4; have L1 := Lib.hid l1; clear e1 p1 l1 z1; simp only at a1 a2 a3 a4))
    go_ret
    exact ⟨rfl, L1.out⟩
end Go.Proofs.YtmbibaccpeldoaaGreatDoor.W14
/-
  Layer 14 (pattern), walk of the document's Size: of what is asked for often, and of any piece that may be. The conditions stand in the statements.
-/
namespace Go.Proofs.YtmbibaccpeldoaaGreatDoor.W14
set_option maxRecDepth 100000
open Go Go.RowKit Go.Proofs.YtmbibaccpeldoaaGreatDoor.Strs Go.Proofs.YtmbibaccpeldoaaGreatDoor.Recs Go.Proofs.YtmbibaccpeldoaaGreatDoor.M14
open Go.Proofs.YtmbibaccpeldoaaGreatDoor.Kit (below_draws on)

theorem wrap_nat {a : Int} {n : Nat} (h : a = (n : Int)) (hn : n ≤ 4000000) : wrap64 a = (n : Int) := by subst h; unfold wrap64; omega
theorem min_nat (n : Nat) : min (n : Int) 4001 = ((min 4001 n : Nat) : Int) := by omega
end Go.Proofs.YtmbibaccpeldoaaGreatDoor.W14
/-
  Layer 15 (prog), walk of layer 14's own Size of any piece. The conditions stand in the statements.
-/
namespace Go.Proofs.YtmbibaccpeldoaaGreatDoor.M15
set_option maxRecDepth 100000
open Go Go.Proofs.YtmbibaccpeldoaaGreatDoor.M14
mutual
/-- how many steps any piece has, 4001 if it may not be by itself -/
def gsize : Piece → Nat
  | .mk k t ks m tp => min 4001 (if k = 1 then 0 else if 2 ≤ k ∧ k ≤ 6 then 1 else if k = 7 then gsizes ks else if k = 8 then gsizes ks + 2 * (ks.length - 1) else if k = 9 ∧ oft t ks.length m tp = true then (if tp = -1 then m.toNat * gsizes ks + gsizes ks + 2 else m.toNat * gsizes ks + (tp - m).toNat * (gsizes ks + 1)) else 4001)
def gsizes : List Piece → Nat
  | [] => 0
  | p :: l => gsize p + gsizes l
end
theorem gsize_le (p : Piece) : gsize p ≤ 4001 := by
  match p with
  | .mk k t l a b => unfold gsize; exact Nat.min_le_left _ _
theorem gsizes_append (l m : List Piece) : gsizes (l ++ m) = gsizes l + gsizes m := by
  induction l with
  | nil => simp [gsizes]
  | cons p l ih => rw [List.cons_append, gsizes, ih, gsizes]; omega
theorem gsizes_take {l : List Piece} {i : Nat} (h : i < l.length) : gsizes (l.take (i + 1)) = gsizes (l.take i) + gsize l[i] := by
  rw [List.take_succ_eq_append_getElem h, gsizes_append]
  simp [gsizes]
theorem gsizes_take_le (l : List Piece) (i : Nat) : gsizes (l.take i) ≤ gsizes l := by
  conv => rhs; rw [← List.take_append_drop i l, gsizes_append]
  exact Nat.le_add_right _ _
def gcnt (k : Int) (ks : List Piece) (i : Nat) : Nat := min (gsizes (ks.take i) + (if k = 8 then 2 * (i - 1) else 0)) 4001
theorem gsize_many {k : Int} (hk : k = 7 ∨ k = 8) (t : ByteArray) (ks : List Piece) (l tp : Int) : gsize (.mk k t ks l tp) = gcnt k ks ks.length := by
  unfold gsize gcnt
  rw [List.take_length]
  rcases hk with rfl | rfl
  · rw [if_neg (by decide), if_neg (by decide), if_pos rfl, if_neg (by decide)]; omega
  · rw [if_neg (by decide), if_neg (by decide), if_neg (by decide), if_pos rfl, if_pos rfl]; omega
theorem gcnt_le (k : Int) (ks : List Piece) (i : Nat) : gcnt k ks i ≤ 4001 := Nat.min_le_right _ _
theorem gcnt_7 {ks : List Piece} {i n m : Nat} (hi : i < ks.length) (hn : gcnt 7 ks i = n) (hm : gsize (ks[i]'hi) = m) : gcnt 7 ks (i + 1) = min (n + m) 4001 := by
  subst hn hm
  unfold gcnt
  rw [if_neg (by decide), if_neg (by decide), gsizes_take hi]; omega
theorem gcnt_8 {ks : List Piece} {i n m : Nat} (hi : i < ks.length) (hn : gcnt 8 ks i = n) (hm : gsize (ks[i]'hi) = m) : gcnt 8 ks (i + 1) = min (n + m + (if 0 < i then 2 else 0)) 4001 := by
  subst hn hm
  unfold gcnt
  rw [if_pos rfl, if_pos rfl, gsizes_take hi]
  by_cases h : 0 < i
  · rw [if_pos h]; omega
  · rw [if_neg h]
    obtain rfl : i = 0 := by omega
    simp only [List.take_zero, Nat.mul_zero, Nat.add_zero, Nat.zero_sub, Nat.zero_add, Nat.sub_self]
    omega
theorem gsize_1 {k : Int} (hk : 1 ≤ k ∧ k ≤ 6) (t : ByteArray) (ks : List Piece) (m tp : Int) : gsize (.mk k t ks m tp) = if k = 1 then 0 else 1 := by
  unfold gsize
  by_cases h1 : k = 1
  · simp [h1]
  · simp [h1, show 2 ≤ k ∧ k ≤ 6 by omega]
theorem gsize_no {k : Int} (hk : ¬ (1 ≤ k ∧ k ≤ 9)) (t : ByteArray) (ks : List Piece) (m tp : Int) : gsize (.mk k t ks m tp) = 4001 := by
  unfold gsize
  rw [if_neg (by omega), if_neg (by omega), if_neg (by omega), if_neg (by omega), if_neg (by omega)]; rfl
theorem gsize_not {t : ByteArray} {ks : List Piece} {m tp : Int} (h : oft t ks.length m tp = false) : gsize (.mk 9 t ks m tp) = 4001 := by
  unfold gsize
  rw [if_neg (by decide), if_neg (by decide), if_neg (by decide), if_neg (by decide), if_neg (by simp [h])]; rfl
theorem gsize_rep (p : Piece) (M : Nat) (t : Int) (h : oft ⟨#[]⟩ 1 M t = true) : gsize (.mk 9 ⟨#[]⟩ [p] M t) = min 4001 (if t = -1 then M * gsize p + gsize p + 2 else M * gsize p + (t - M).toNat * (gsize p + 1)) := by
  have h1 : gsizes [p] = gsize p := by simp [gsizes]
  have h2 : oft ⟨#[]⟩ [p].length M t = true := h
  conv => lhs; unfold gsize
  rw [if_neg (by decide), if_neg (by decide), if_neg (by decide), if_neg (by decide), if_pos ⟨rfl, h2⟩, h1, Int.toNat_natCast]
theorem oft_of {M : Nat} {t : Int} (hM : M ≤ 100) (ht : t = -1 ∨ (M : Int) ≤ t ∧ t ≤ 100) : oft ⟨#[]⟩ 1 M t = true := by
  unfold oft
  have h0 : (⟨#[]⟩ : ByteArray).size = 0 := rfl
  rw [decide_eq_true h0, decide_eq_true (show (1 : Nat) = 1 from rfl), decide_eq_true (show (0 : Int) ≤ M by omega), decide_eq_true (show (M : Int) ≤ 100 by omega), decide_eq_true (show t ≤ 100 by omega)]
  by_cases q : t = -1
  · rw [decide_eq_true q]; rfl
  · rw [decide_eq_false q, decide_eq_true (show (M : Int) ≤ t by omega)]; rfl
/-- of a piece that may be it is its size -/
theorem gsizes_eq : ∀ {l : List Piece}, (∀ p, p ∈ l → gsize p = size p) → gsizes l = sizes l
  | [], _ => by simp [gsizes, sizes]
  | p :: l, h => by rw [gsizes, sizes, h p (by simp), gsizes_eq (fun q hq => h q (by simp [hq]))]
theorem gsize_eq {p : Piece} (h : Good p) : gsize p = size p := by
  induction h with
  | leaf k t h => rw [size_1 h]; exact gsize_1 h _ _ _ _
  | many k hk ks h2 hw ih =>
    unfold gsize size
    rw [gsizes_eq ih]
    rcases hk with rfl | rfl
    · rfl
    · rfl
  | rep p m t hm ht hw ih =>
    obtain ⟨M, rfl⟩ : ∃ M : Nat, m = (M : Int) := ⟨m.toNat, by omega⟩
    have h1 := gsize_rep p M t (oft_of (by omega) ht)
    have h2 := size_9 no p (M : Int) t
    rw [show (⟨#[]⟩ : ByteArray) = no from rfl, ih] at h1
    rw [Int.toNat_natCast] at h2
    rw [h1, h2]
end Go.Proofs.YtmbibaccpeldoaaGreatDoor.M15
namespace Go.Proofs.YtmbibaccpeldoaaGreatDoor.W15
open Go Go.RowKit Go.Proofs.YtmbibaccpeldoaaGreatDoor.Strs Go.Proofs.YtmbibaccpeldoaaGreatDoor.Recs Go.Proofs.YtmbibaccpeldoaaGreatDoor.M15
open Go.Proofs.YtmbibaccpeldoaaGreatDoor.M14 (Piece)
open Go.Proofs.YtmbibaccpeldoaaGreatDoor.W14 (Raw rawA rawC PAt PBox PLow box_arg load_piece load_at cell_block wrap_nat min_nat mul_small roften_any)
open Go.Proofs.YtmbibaccpeldoaaGreatDoor.Kit (below_draws on)
abbrev Kids (w : World) (A : Option Addr) (c : Nat) (raws : List Raw) (ks : List Piece) : Prop := W14.Kids w A c raws ks

def GTo (w : World) (p : Piece) (e : Ending) (w' : World) : Prop := e = .returned (.int .i64 (gsize p)) ∧ Below w.heap.size w w'
set_option maxHeartbeats 4000000 in
theorem rgsize_leaf {k : Int} (hk : 1 ≤ k ∧ k ≤ 6) {t : ByteArray} {ks : List Piece} {l tp : Int} {w : World} {r : Raw} (h : PLow w r (.mk k t ks l tp)) : Calls Tryz.prog 12 #[.agg (rawA r)] w (GTo w (.mk k t ks l tp)) := by
  unfold GTo
  rw [gsize_1 hk]
  obtain ⟨A, c, raws, rfl, k1⟩ := h.parts
  have r1 := k1.room
  have hc1 := r1.1
  have hc2 := r1.2
  obtain ⟨n, hn⟩ : ∃ n, ks.length = n := ⟨_, rfl⟩
  rw [hn] at hc1 ⊢
  clear h k1 r1 hn
  have : k = 1 ∨ k = 2 ∨ k = 3 ∨ k = 4 ∨ k = 5 ∨ k = 6 := by omega
  by_cases h0 : 0 < n
  · have t0 : (0 : Int) < (n : Int) := by omega
    clear h0 hk
    rcases this with rfl | rfl | rfl | rfl | rfl | rfl
    all_goals
      go_enter Tryz.func12, Tryz.ntmps12
      go_wp2_with (first
        | (refine box_arg rfl (.tmp 0) rfl rfl ?_; intro w1 b1 e1 p1 l1 z1; have a0 := p1.c0; have a2 := p1.c2; have L1 := Lib.hid l1; clear e1 p1 l1 z1; simp only at a0 a2))
      go_loopg [3, 4] 1 (fun gk s3 s4 wr => s3 = .int .i64 0 ∧ s4 = .int .i64 0 ∧ wr = w1)
      case atStart => exact ⟨rfl, rfl, rfl⟩
      case round =>
        obtain ⟨rfl, rfl, rfl⟩ := hrel
        go_wp2_with fail
        go_ret
        exact ⟨by first | rfl | simp, L1.out⟩
  · have t0 : ¬ (0 : Int) < (n : Int) := by omega
    clear h0 hk
    rcases this with rfl | rfl | rfl | rfl | rfl | rfl
    all_goals
      go_enter Tryz.func12, Tryz.ntmps12
      go_wp2_with (first
        | (refine box_arg rfl (.tmp 0) rfl rfl ?_; intro w1 b1 e1 p1 l1 z1; have a0 := p1.c0; have a2 := p1.c2; have L1 := Lib.hid l1; clear e1 p1 l1 z1; simp only at a0 a2))
      go_loopg [3, 4] 1 (fun gk s3 s4 wr => s3 = .int .i64 0 ∧ s4 = .int .i64 0 ∧ wr = w1)
      case atStart => exact ⟨rfl, rfl, rfl⟩
      case round =>
        obtain ⟨rfl, rfl, rfl⟩ := hrel
        go_wp2_with fail
        go_ret
        exact ⟨by first | rfl | simp, L1.out⟩
set_option maxHeartbeats 4000000 in
theorem rgsize_other {k : Int} (hk : ¬ (1 ≤ k ∧ k ≤ 9)) {t : ByteArray} {ks : List Piece} {l tp : Int} {w : World} {r : Raw} (h : PLow w r (.mk k t ks l tp)) : Calls Tryz.prog 12 #[.agg (rawA r)] w (GTo w (.mk k t ks l tp)) := by
  unfold GTo
  rw [gsize_no hk]
  obtain ⟨A, c, raws, rfl, k1⟩ := h.parts
  have r1 := k1.room
  have hc1 := r1.1
  have hc2 := r1.2
  obtain ⟨n, hn⟩ : ∃ n, ks.length = n := ⟨_, rfl⟩
  rw [hn] at hc1 ⊢
  have t7 : (k == 7) = false := by simp; omega
  have t8 : (k == 8) = false := by simp; omega
  clear h k1 r1 hn
  by_cases h0 : 0 < n
  · have t0 : (0 : Int) < (n : Int) := by omega
    clear h0
    by_cases q : k < 1
    · have q2 : ¬ 2 ≤ k := by omega
      clear hk
      go_enter Tryz.func12, Tryz.ntmps12
      go_wp2_with (first
        | (refine box_arg (r := ⟨k, t, A, n, c, l, tp⟩) rfl (.tmp 0) rfl rfl ?_; intro w1 b1 e1 p1 l1 z1; have a0 := p1.c0; have a2 := p1.c2; have L1 := Lib.hid l1; clear e1 p1 l1 z1; simp only at a0 a2))
      go_loopg [3, 4] 1 (fun gk s3 s4 wr => s3 = .int .i64 0 ∧ s4 = .int .i64 0 ∧ wr = w1)
      case atStart => exact ⟨rfl, rfl, rfl⟩
      case round =>
        obtain ⟨rfl, rfl, rfl⟩ := hrel
        go_wp2_with fail
        go_ret
        exact ⟨rfl, L1.out⟩
    · have q2 : 2 ≤ k := by omega
      have q3 : ¬ k ≤ 6 := by omega
      have q4 : 9 < k := by omega
      clear hk
      go_enter Tryz.func12, Tryz.ntmps12
      go_wp2_with (first
        | (refine box_arg (r := ⟨k, t, A, n, c, l, tp⟩) rfl (.tmp 0) rfl rfl ?_; intro w1 b1 e1 p1 l1 z1; have a0 := p1.c0; have a2 := p1.c2; have L1 := Lib.hid l1; clear e1 p1 l1 z1; simp only at a0 a2))
      go_loopg [3, 4] 1 (fun gk s3 s4 wr => s3 = .int .i64 0 ∧ s4 = .int .i64 0 ∧ wr = w1)
      case atStart => exact ⟨rfl, rfl, rfl⟩
      case round =>
        obtain ⟨rfl, rfl, rfl⟩ := hrel
        go_wp2_with fail
        go_ret
        exact ⟨rfl, L1.out⟩
  · have t0 : ¬ (0 : Int) < (n : Int) := by omega
    clear h0
    by_cases q : k < 1
    · have q2 : ¬ 2 ≤ k := by omega
      clear hk
      go_enter Tryz.func12, Tryz.ntmps12
      go_wp2_with (first
        | (refine box_arg (r := ⟨k, t, A, n, c, l, tp⟩) rfl (.tmp 0) rfl rfl ?_; intro w1 b1 e1 p1 l1 z1; have a0 := p1.c0; have a2 := p1.c2; have L1 := Lib.hid l1; clear e1 p1 l1 z1; simp only at a0 a2))
      go_loopg [3, 4] 1 (fun gk s3 s4 wr => s3 = .int .i64 0 ∧ s4 = .int .i64 0 ∧ wr = w1)
      case atStart => exact ⟨rfl, rfl, rfl⟩
      case round =>
        obtain ⟨rfl, rfl, rfl⟩ := hrel
        go_wp2_with fail
        go_ret
        exact ⟨rfl, L1.out⟩
    · have q2 : 2 ≤ k := by omega
      have q3 : ¬ k ≤ 6 := by omega
      have q4 : 9 < k := by omega
      clear hk
      go_enter Tryz.func12, Tryz.ntmps12
      go_wp2_with (first
        | (refine box_arg (r := ⟨k, t, A, n, c, l, tp⟩) rfl (.tmp 0) rfl rfl ?_; intro w1 b1 e1 p1 l1 z1; have a0 := p1.c0; have a2 := p1.c2; have L1 := Lib.hid l1; clear e1 p1 l1 z1; simp only at a0 a2))
      go_loopg [3, 4] 1 (fun gk s3 s4 wr => s3 = .int .i64 0 ∧ s4 = .int .i64 0 ∧ wr = w1)
      case atStart => exact ⟨rfl, rfl, rfl⟩
      case round =>
        obtain ⟨rfl, rfl, rfl⟩ := hrel
        go_wp2_with fail
        go_ret
        exact ⟨rfl, L1.out⟩
set_option maxHeartbeats 4000000 in
theorem rgsize_not {t : ByteArray} {ks : List Piece} {m tp : Int} (ho : oft t ks.length m tp = false) {w : World} {r : Raw} (h : PLow w r (.mk 9 t ks m tp)) : Calls Tryz.prog 12 #[.agg (rawA r)] w (GTo w (.mk 9 t ks m tp)) := by
  unfold GTo
  rw [gsize_not ho]
  obtain ⟨A, c, raws, rfl, k1⟩ := h.parts
  have r1 := k1.room
  have hc1 := r1.1
  have hc2 := r1.2
  have HO := roft_any 9 t A ks.length c m tp r1
  rw [ho] at HO
  unfold Asks at HO
  replace HO := Lib.hid HO
  obtain ⟨n, hn⟩ : ∃ n, ks.length = n := ⟨_, rfl⟩
  rw [hn] at hc1 HO ⊢
  clear h k1 r1 hn ho
  by_cases h0 : 0 < n
  · have t0 : (0 : Int) < (n : Int) := by omega
    clear h0
    go_enter Tryz.func12, Tryz.ntmps12
    go_wp2_with (first
      | (refine box_arg (r := ⟨9, t, A, n, c, m, tp⟩) rfl (.tmp 0) rfl rfl ?_; intro w1 b1 e1 p1 l1 z1; have P1 := Lib.hid p1; have a0 := p1.c0; have a1 := p1.c1; have a2 := p1.c2; have a3 := p1.c3; have a4 := p1.c4; have L1 := Lib.hid l1; clear e1 p1 l1 z1; simp only at a0 a1 a2 a3 a4))
    go_loopg [3, 4] 1 (fun gk s3 s4 wr => s3 = .int .i64 0 ∧ s4 = .int .i64 0 ∧ wr = w1)
    case atStart => exact ⟨rfl, rfl, rfl⟩
    case round =>
      obtain ⟨rfl, rfl, rfl⟩ := hrel
      go_wp2_with fail
      refine (HO.out _).mono ?_
      rintro e w2 ⟨rfl, l2⟩
      have L2 := Lib.hid (on L1.out l2)
      clear l2
      go_wp2_with fail
      go_ret
      exact ⟨rfl, L2.out⟩
  · have t0 : ¬ (0 : Int) < (n : Int) := by omega
    clear h0
    go_enter Tryz.func12, Tryz.ntmps12
    go_wp2_with (first
      | (refine box_arg (r := ⟨9, t, A, n, c, m, tp⟩) rfl (.tmp 0) rfl rfl ?_; intro w1 b1 e1 p1 l1 z1; have P1 := Lib.hid p1; have a0 := p1.c0; have a1 := p1.c1; have a2 := p1.c2; have a3 := p1.c3; have a4 := p1.c4; have L1 := Lib.hid l1; clear e1 p1 l1 z1; simp only at a0 a1 a2 a3 a4))
    go_loopg [3, 4] 1 (fun gk s3 s4 wr => s3 = .int .i64 0 ∧ s4 = .int .i64 0 ∧ wr = w1)
    case atStart => exact ⟨rfl, rfl, rfl⟩
    case round =>
      obtain ⟨rfl, rfl, rfl⟩ := hrel
      go_wp2_with fail
      refine (HO.out _).mono ?_
      rintro e w2 ⟨rfl, l2⟩
      have L2 := Lib.hid (on L1.out l2)
      clear l2
      go_wp2_with fail
      go_ret
      exact ⟨rfl, L2.out⟩
set_option maxHeartbeats 4000000 in
theorem rgsize_seq {t : ByteArray} {l tp : Int} {ks : List Piece} (IH : ∀ i (hi : i < ks.length) (w : World) (r : Raw), PLow w r ks[i] → Calls Tryz.prog 12 #[.agg (rawA r)] w (GTo w ks[i])) {w : World} {r : Raw} (h : PLow w r (.mk 7 t ks l tp)) : Calls Tryz.prog 12 #[.agg (rawA r)] w (GTo w (.mk 7 t ks l tp)) := by
  unfold GTo
  rw [gsize_many (.inl rfl) t ks l tp]
  obtain ⟨A, c, raws, rfl, k1⟩ := h.parts
  have HI := Lib.hid IH
  have hr1 := k1.room.1
  have hr2 := k1.room.2
  have K1 := Lib.hid k1
  clear h k1 IH
  go_enter Tryz.func12, Tryz.ntmps12
  go_wp2_with (first
    | (refine box_arg (r := ⟨7, t, A, ks.length, c, l, tp⟩) rfl (.tmp 0) rfl rfl ?_; intro w1 b1 e1 p1 l1 z1; have P1 := Lib.hid p1; have L1 := Lib.hid l1; clear e1 p1 l1 z1))
  have K1 := Lib.hid (K1.out.below L1.out)
  have HR := Lib.hid (show ks.length ≤ c ∧ c ≤ 9223372036854775807 from ⟨hr1, hr2⟩)
  clear hr1 hr2
  go_loopg [3, 4] ks.length (fun gk s3 s4 wr => ∃ i : Nat, s3 = .int .i64 (gcnt 7 ks i : Nat) ∧ s4 = .int .i64 i ∧ Hid (i + gk = ks.length) ∧ Hid (PBox wr b1 ⟨7, t, A, ks.length, c, l, tp⟩) ∧ Hid (Kids wr A c raws ks) ∧ Hid (Below w.heap.size w wr))
  case atStart => exact ⟨0, rfl, rfl, by unfold Hid; omega, P1, K1, L1⟩
  case round =>
    obtain ⟨i, rfl, rfl, hig, P1, K1, HB⟩ := hrel
    have a0 := P1.out.c0
    have a2 := P1.out.c2
    simp only at a0 a2
    have hn1 := HR.out.1
    have hn2 := HR.out.2
    by_cases hi : i < ks.length
    · have ti : (i : Int) < (ks.length : Int) := by omega
      obtain ⟨g1, o1, rfl, C1⟩ := K1.out.at_ (Nat.lt_of_le_of_lt (Nat.zero_le _) hi)
      obtain ⟨hr1, q1⟩ := K1.out.kid hi
      have E1 := Lib.hid (C1 i hr1)
      have HC := Lib.hid (HI.out i hi wr _ q1)
      have HL := Lib.hid (gcnt_le 7 ks i)
      have HI2 := Lib.hid hi
      clear C1 q1
      obtain ⟨n, hn⟩ : ∃ n, gcnt 7 ks i = n := ⟨_, rfl⟩
      obtain ⟨m, hm⟩ : ∃ m, gsize (ks[i]'hi) = m := ⟨_, rfl⟩
      have HX := Lib.hid (gcnt_7 hi hn hm)
      rw [hn] at HL ⊢
      have HS := Lib.hid (show m ≤ 4001 from hm ▸ gsize_le _)
      have HM := Lib.hid hm
      clear hn hm
      go_wp2_with (first | (refine load_at rfl (.tmp 27) rfl rfl (r := raws[i]) E1.out ?_))
      refine HC.out.mono ?_
      rintro e w2 ⟨rfl, l2⟩
      rw [HM.out]
      have P2 := Lib.hid (P1.out.below l2)
      have K2 := Lib.hid (K1.out.below l2)
      have B2 := Lib.hid (HB.out.trans (l2.mono HB.out.size))
      have a0 := P2.out.c0
      have a2 := P2.out.c2
      simp only at a0 a2
      have hw : wrap64 ((n : Int) + (m : Int)) = ((n + m : Nat) : Int) := by have := HS.out; have := HL.out; unfold wrap64; omega
      have hwi : wrap64 ((i : Int) + 1) = ((i + 1 : Nat) : Int) := by unfold wrap64; omega
      have hmin : min ((n + m : Nat) : Int) 4001 = ((gcnt 7 ks (i + 1) : Nat) : Int) := by rw [HX.out]; omega
      have HWI := Lib.hid hwi
      clear l2 HC E1
      cases gk with
      | zero => exact absurd hig.out (by have := HI2.out; omega)
      | succ g =>
        by_cases h0 : 0 < i
        · have t0 : (0 : Int) < (i : Int) := by omega
          go_wp2_with fail
          go_roundg g
          case measure => omega
          case rel => exact ⟨i + 1, by first | rfl | exact congrArg (Value.int .i64) hmin, by first | rfl | exact congrArg (Value.int .i64) HWI.out, by have := hig.out; unfold Hid; omega, P2, K2, B2⟩
        · have t0 : ¬ (0 : Int) < (i : Int) := by omega
          go_wp2_with fail
          go_roundg g
          case measure => omega
          case rel => exact ⟨i + 1, by first | rfl | exact congrArg (Value.int .i64) hmin, by first | rfl | exact congrArg (Value.int .i64) HWI.out, by have := hig.out; unfold Hid; omega, P2, K2, B2⟩
    · have ti : ¬ (i : Int) < (ks.length : Int) := by omega
      have hie : i = ks.length := by have := hig.out; omega
      have hle := gcnt_le 7 ks i
      have HE := Lib.hid hie
      have hmin : min ((gcnt 7 ks i : Nat) : Int) 4001 = ((gcnt 7 ks i : Nat) : Int) := by omega
      clear hle hie
      go_wp2_with fail
      go_ret
      exact ⟨by rw [← HE.out]; first | rfl | rw [hmin], HB.out⟩
set_option maxHeartbeats 4000000 in
theorem rgsize_alt {t : ByteArray} {l tp : Int} {ks : List Piece} (IH : ∀ i (hi : i < ks.length) (w : World) (r : Raw), PLow w r ks[i] → Calls Tryz.prog 12 #[.agg (rawA r)] w (GTo w ks[i])) {w : World} {r : Raw} (h : PLow w r (.mk 8 t ks l tp)) : Calls Tryz.prog 12 #[.agg (rawA r)] w (GTo w (.mk 8 t ks l tp)) := by
  unfold GTo
  rw [gsize_many (.inr rfl) t ks l tp]
  obtain ⟨A, c, raws, rfl, k1⟩ := h.parts
  have HI := Lib.hid IH
  have hr1 := k1.room.1
  have hr2 := k1.room.2
  have K1 := Lib.hid k1
  clear h k1 IH
  go_enter Tryz.func12, Tryz.ntmps12
  go_wp2_with (first
    | (refine box_arg (r := ⟨8, t, A, ks.length, c, l, tp⟩) rfl (.tmp 0) rfl rfl ?_; intro w1 b1 e1 p1 l1 z1; have P1 := Lib.hid p1; have L1 := Lib.hid l1; clear e1 p1 l1 z1))
  have K1 := Lib.hid (K1.out.below L1.out)
  have HR := Lib.hid (show ks.length ≤ c ∧ c ≤ 9223372036854775807 from ⟨hr1, hr2⟩)
  clear hr1 hr2
  go_loopg [3, 4] ks.length (fun gk s3 s4 wr => ∃ i : Nat, s3 = .int .i64 (gcnt 8 ks i : Nat) ∧ s4 = .int .i64 i ∧ Hid (i + gk = ks.length) ∧ Hid (PBox wr b1 ⟨8, t, A, ks.length, c, l, tp⟩) ∧ Hid (Kids wr A c raws ks) ∧ Hid (Below w.heap.size w wr))
  case atStart => exact ⟨0, rfl, rfl, by unfold Hid; omega, P1, K1, L1⟩
  case round =>
    obtain ⟨i, rfl, rfl, hig, P1, K1, HB⟩ := hrel
    have a0 := P1.out.c0
    have a2 := P1.out.c2
    simp only at a0 a2
    have hn1 := HR.out.1
    have hn2 := HR.out.2
    by_cases hi : i < ks.length
    · have ti : (i : Int) < (ks.length : Int) := by omega
      obtain ⟨g1, o1, rfl, C1⟩ := K1.out.at_ (Nat.lt_of_le_of_lt (Nat.zero_le _) hi)
      obtain ⟨hr1, q1⟩ := K1.out.kid hi
      have E1 := Lib.hid (C1 i hr1)
      have HC := Lib.hid (HI.out i hi wr _ q1)
      have HL := Lib.hid (gcnt_le 8 ks i)
      have HI2 := Lib.hid hi
      clear C1 q1
      obtain ⟨n, hn⟩ : ∃ n, gcnt 8 ks i = n := ⟨_, rfl⟩
      obtain ⟨m, hm⟩ : ∃ m, gsize (ks[i]'hi) = m := ⟨_, rfl⟩
      have HX := Lib.hid (gcnt_8 hi hn hm)
      rw [hn] at HL ⊢
      have HS := Lib.hid (show m ≤ 4001 from hm ▸ gsize_le _)
      have HM := Lib.hid hm
      clear hn hm
      go_wp2_with (first | (refine load_at rfl (.tmp 27) rfl rfl (r := raws[i]) E1.out ?_))
      refine HC.out.mono ?_
      rintro e w2 ⟨rfl, l2⟩
      rw [HM.out]
      have P2 := Lib.hid (P1.out.below l2)
      have K2 := Lib.hid (K1.out.below l2)
      have B2 := Lib.hid (HB.out.trans (l2.mono HB.out.size))
      have a0 := P2.out.c0
      have a2 := P2.out.c2
      simp only at a0 a2
      have hw : wrap64 ((n : Int) + (m : Int)) = ((n + m : Nat) : Int) := by have := HS.out; have := HL.out; unfold wrap64; omega
      have hwi : wrap64 ((i : Int) + 1) = ((i + 1 : Nat) : Int) := by unfold wrap64; omega
      have HWI := Lib.hid hwi
      clear l2 HC E1
      cases gk with
      | zero => exact absurd hig.out (by have := HI2.out; omega)
      | succ g =>
        by_cases h0 : 0 < i
        · have t0 : (0 : Int) < (i : Int) := by omega
          have hw3 : wrap64 ((n : Int) + (m : Int) + 2) = ((n + m + 2 : Nat) : Int) := by have := HS.out; have := HL.out; unfold wrap64; omega
          have hmin : min (wrap64 ((n : Int) + (m : Int) + 2)) 4001 = ((gcnt 8 ks (i + 1) : Nat) : Int) := by rw [hw3, HX.out, if_pos h0]; omega
          clear hw3
          go_wp2_with fail
          go_roundg g
          case measure => omega
          case rel => exact ⟨i + 1, by first | rfl | exact congrArg (Value.int .i64) hmin, by first | rfl | exact congrArg (Value.int .i64) HWI.out, by have := hig.out; unfold Hid; omega, P2, K2, B2⟩
        · have t0 : ¬ (0 : Int) < (i : Int) := by omega
          have hmin : min ((n + m : Nat) : Int) 4001 = ((gcnt 8 ks (i + 1) : Nat) : Int) := by rw [HX.out, if_neg h0]; omega
          go_wp2_with fail
          go_roundg g
          case measure => omega
          case rel => exact ⟨i + 1, by first | rfl | exact congrArg (Value.int .i64) hmin, by first | rfl | exact congrArg (Value.int .i64) HWI.out, by have := hig.out; unfold Hid; omega, P2, K2, B2⟩
    · have ti : ¬ (i : Int) < (ks.length : Int) := by omega
      have hie : i = ks.length := by have := hig.out; omega
      have hle := gcnt_le 8 ks i
      have HE := Lib.hid hie
      have hmin : min ((gcnt 8 ks i : Nat) : Int) 4001 = ((gcnt 8 ks i : Nat) : Int) := by omega
      clear hle hie
      go_wp2_with fail
      go_ret
      exact ⟨by rw [← HE.out]; first | rfl | rw [hmin], HB.out⟩
set_option maxHeartbeats 4000000 in
theorem rgsize_ever {p : Piece} {M : Nat} (hM : M ≤ 100) (IH : ∀ (w : World) (r : Raw), PLow w r p → Calls Tryz.prog 12 #[.agg (rawA r)] w (GTo w p)) {w : World} {r : Raw} (h : PLow w r (.mk 9 ⟨#[]⟩ [p] M (-1))) : Calls Tryz.prog 12 #[.agg (rawA r)] w (GTo w (.mk 9 ⟨#[]⟩ [p] M (-1))) := by
  unfold GTo
  rw [gsize_rep _ _ _ (oft_of hM (.inl rfl))]
  obtain ⟨A, c, raws, rfl, k1⟩ := h.parts
  have hr : 1 ≤ c ∧ c ≤ 9223372036854775807 := k1.room
  obtain ⟨g1, o1, rfl, C1⟩ := k1.at_ (Nat.lt_succ_self 0)
  obtain ⟨hr1, q1⟩ := k1.kid (i := 0) (Nat.lt_succ_self 0)
  have HG := Lib.hid (k1.2.1 _ rfl (Nat.lt_of_le_of_lt (Nat.zero_le _) hr1))
  have E1 := C1 0 hr1
  obtain ⟨rk, hrk⟩ : ∃ rk, raws[0] = rk := ⟨_, rfl⟩
  rw [hrk] at E1 q1
  have Q1 : Hid (PLow w rk p) := q1
  rw [show o1 + 0 * 5 = o1 by omega] at E1
  have E1 := Lib.hid E1
  have HI := Lib.hid (fun (w : World) (h : PLow w rk p) => IH w rk h)
  have HO := Lib.hid (fun w => roften_any (m := (M : Int)) (t := (-1)) ⟨by omega, by omega⟩ (A := some ⟨g1, o1, none⟩) hr w)
  have hS := gsize_le p
  obtain ⟨K, hK⟩ : ∃ K, gsize p = K := ⟨_, rfl⟩
  have HK := Lib.hid hK
  rw [hK] at hS ⊢
  have hMS := mul_small (a := M) (b := K) (by omega) (by omega)
  obtain ⟨P, hP⟩ : ∃ P, M * K = P := ⟨_, rfl⟩
  rw [hP] at hMS
  have hw1 : Hid (wrap64 ((M : Int) * (K : Int)) = (P : Int)) := wrap_nat (by rw [← Int.natCast_mul, hP]) (Nat.le_trans hMS (by decide))
  replace hP := Lib.hid hP
  obtain ⟨P2, hP2⟩ : ∃ P2, P + K = P2 := ⟨_, rfl⟩
  have hw2 : Hid (wrap64 ((P : Int) + (K : Int)) = (P2 : Int)) := wrap_nat (by rw [← hP2, Int.natCast_add]) (by omega)
  obtain ⟨P3, hP3⟩ : ∃ P3, P2 + 2 = P3 := ⟨_, rfl⟩
  have hw3 : Hid (wrap64 ((P2 : Int) + 2) = (P3 : Int)) := wrap_nat (by rw [← hP3, Int.natCast_add]; rfl) (by omega)
  have hmin := min_nat P3
  have HE : Hid (min 4001 (if (-1 : Int) = -1 then M * K + K + 2 else M * K + (-1 - (M : Int)).toNat * (K + 1)) = min 4001 P3) := by
    unfold Hid
    rw [if_pos rfl, hP.out, hP2, hP3]
  rw [HE.out]
  clear HE
  have hc1 := hr.1
  have hc2 := hr.2
  have HMIN := Lib.hid hmin
  clear hM
  clear h k1 C1 q1 hrk hr1 IH hK hS hMS hP2 hP3 hr hmin
  go_enter Tryz.func12, Tryz.ntmps12
  go_wp2_with (first
    | (refine box_arg (r := ⟨9, ⟨#[]⟩, some ⟨g1, o1, none⟩, 1, c, (M : Int), (-1)⟩) rfl (.tmp 0) rfl rfl ?_; intro w1 b1 e1 p1 l1 z1; have P1 := Lib.hid p1; have L1 := Lib.hid l1; have a0 := p1.c0; have a1 := p1.c1; have a2 := p1.c2; have a3 := p1.c3; have a4 := p1.c4; clear e1 p1 l1 z1; simp only at a0 a1 a2 a3 a4))
  go_loopg [3, 4] 1 (fun gk s3 s4 wr => s3 = .int .i64 0 ∧ s4 = .int .i64 0 ∧ wr = w1)
  case atStart => exact ⟨rfl, rfl, rfl⟩
  case round =>
    obtain ⟨rfl, rfl, rfl⟩ := hrel
    go_wp2_with fail
    refine (HO.out _).mono ?_
    rintro e w2 ⟨rfl, l2⟩
    have PB2 := Lib.hid (P1.out.below l2)
    have L2 := Lib.hid (L1.out.trans (l2.mono L1.out.size))
    have E2 : Hid (∀ j, j < 5 → w2.cell? ⟨g1, o1 + j, none⟩ = (rawC rk)[j]?) := fun j hj => (cell_block (L2.out.block g1 HG.out)).trans (E1.out j hj)
    have Q2 := Lib.hid (Q1.out.below L2.out)
    have a0 := PB2.out.c0
    have a2 := PB2.out.c2
    simp only at a0 a2
    clear l2
    go_wp2_with (first | (refine load_at rfl (.tmp 73) rfl rfl (r := rk) E2.out ?_))
    refine (HI.out _ Q2.out).mono ?_
    rintro e w3 ⟨rfl, l3⟩
    rw [HK.out]
    have PB3 := Lib.hid (PB2.out.below l3)
    have L3 := Lib.hid (L2.out.trans (l3.mono L2.out.size))
    have a3 := PB3.out.c3
    have a4 := PB3.out.c4
    simp only at a3 a4
    clear l3
    replace hw1 := hw1.out
    replace hw2 := hw2.out
    replace hw3 := hw3.out
    go_wp2_with fail
    go_ret
    refine ⟨?_, L3.out⟩
    first | rfl | exact congrArg (fun x => Ending.returned (Value.int .i64 x)) HMIN.out
set_option maxHeartbeats 4000000 in
theorem rgsize_upto {p : Piece} {M T : Nat} (hM : M ≤ 100) (hT : M ≤ T ∧ T ≤ 100) (IH : ∀ (w : World) (r : Raw), PLow w r p → Calls Tryz.prog 12 #[.agg (rawA r)] w (GTo w p)) {w : World} {r : Raw} (h : PLow w r (.mk 9 ⟨#[]⟩ [p] M (T : Int))) : Calls Tryz.prog 12 #[.agg (rawA r)] w (GTo w (.mk 9 ⟨#[]⟩ [p] M (T : Int))) := by
  unfold GTo
  rw [gsize_rep _ _ _ (oft_of hM (.inr ⟨by omega, by omega⟩))]
  obtain ⟨A, c, raws, rfl, k1⟩ := h.parts
  have hr : 1 ≤ c ∧ c ≤ 9223372036854775807 := k1.room
  obtain ⟨g1, o1, rfl, C1⟩ := k1.at_ (Nat.lt_succ_self 0)
  obtain ⟨hr1, q1⟩ := k1.kid (i := 0) (Nat.lt_succ_self 0)
  have HG := Lib.hid (k1.2.1 _ rfl (Nat.lt_of_le_of_lt (Nat.zero_le _) hr1))
  have E1 := C1 0 hr1
  obtain ⟨rk, hrk⟩ : ∃ rk, raws[0] = rk := ⟨_, rfl⟩
  rw [hrk] at E1 q1
  have Q1 : Hid (PLow w rk p) := q1
  rw [show o1 + 0 * 5 = o1 by omega] at E1
  have E1 := Lib.hid E1
  have HI := Lib.hid (fun (w : World) (h : PLow w rk p) => IH w rk h)
  have HO := Lib.hid (fun w => roften_any (m := (M : Int)) (t := (T : Int)) ⟨by omega, by omega⟩ (A := some ⟨g1, o1, none⟩) hr w)
  have hS := gsize_le p
  obtain ⟨K, hK⟩ : ∃ K, gsize p = K := ⟨_, rfl⟩
  have HK := Lib.hid hK
  rw [hK] at hS ⊢
  have hMS := mul_small (a := M) (b := K) (by omega) (by omega)
  obtain ⟨P, hP⟩ : ∃ P, M * K = P := ⟨_, rfl⟩
  rw [hP] at hMS
  have hw1 : Hid (wrap64 ((M : Int) * (K : Int)) = (P : Int)) := wrap_nat (by rw [← Int.natCast_mul, hP]) (Nat.le_trans hMS (by decide))
  replace hP := Lib.hid hP
  obtain ⟨P2, hP2⟩ : ∃ P2, P + K = P2 := ⟨_, rfl⟩
  have hw2 : Hid (wrap64 ((P : Int) + (K : Int)) = (P2 : Int)) := wrap_nat (by rw [← hP2, Int.natCast_add]) (by omega)
  obtain ⟨P3, hP3⟩ : ∃ P3, P2 + 2 = P3 := ⟨_, rfl⟩
  have hw3 : Hid (wrap64 ((P2 : Int) + 2) = (P3 : Int)) := wrap_nat (by rw [← hP3, Int.natCast_add]; rfl) (by omega)
  obtain ⟨D, hD⟩ : ∃ D, T - M = D := ⟨_, rfl⟩
  have hw4 : Hid (wrap64 ((T : Int) - (M : Int)) = (D : Int)) := wrap_nat (by omega) (by omega)
  obtain ⟨K2, hK2⟩ : ∃ K2, K + 1 = K2 := ⟨_, rfl⟩
  have hw5 : Hid (wrap64 ((K : Int) + 1) = (K2 : Int)) := wrap_nat (by omega) (by omega)
  have hDS := mul_small (a := D) (b := K2) (by omega) (by omega)
  obtain ⟨G, hG⟩ : ∃ G, D * K2 = G := ⟨_, rfl⟩
  rw [hG] at hDS
  have hw6 : Hid (wrap64 ((D : Int) * (K2 : Int)) = (G : Int)) := wrap_nat (by rw [← Int.natCast_mul, hG]) (Nat.le_trans hDS (by decide))
  replace hG := Lib.hid hG
  obtain ⟨N, hN⟩ : ∃ N, P + G = N := ⟨_, rfl⟩
  have hw7 : Hid (wrap64 ((P : Int) + (G : Int)) = (N : Int)) := wrap_nat (by rw [← hN, Int.natCast_add]) (by omega)
  have hmin := min_nat N
  have HE : Hid (min 4001 (if (T : Int) = -1 then M * K + K + 2 else M * K + ((T : Int) - (M : Int)).toNat * (K + 1)) = min 4001 N) := by
    unfold Hid
    rw [if_neg (by omega), show ((T : Int) - (M : Int)).toNat = D by omega, hP.out, hK2, hG.out, hN]
  have x0 : (0 : Int) ≤ (T : Int) := by omega
  rw [HE.out]
  clear HE
  have hc1 := hr.1
  have hc2 := hr.2
  have HMIN := Lib.hid hmin
  replace x0 := Lib.hid x0
  clear hM hT
  clear h k1 C1 q1 hrk hr1 IH hK hS hMS hP2 hP3 hr hmin hD hK2 hDS hN
  go_enter Tryz.func12, Tryz.ntmps12
  go_wp2_with (first
    | (refine box_arg (r := ⟨9, ⟨#[]⟩, some ⟨g1, o1, none⟩, 1, c, (M : Int), (T : Int)⟩) rfl (.tmp 0) rfl rfl ?_; intro w1 b1 e1 p1 l1 z1; have P1 := Lib.hid p1; have L1 := Lib.hid l1; have a0 := p1.c0; have a1 := p1.c1; have a2 := p1.c2; have a3 := p1.c3; have a4 := p1.c4; clear e1 p1 l1 z1; simp only at a0 a1 a2 a3 a4))
  go_loopg [3, 4] 1 (fun gk s3 s4 wr => s3 = .int .i64 0 ∧ s4 = .int .i64 0 ∧ wr = w1)
  case atStart => exact ⟨rfl, rfl, rfl⟩
  case round =>
    obtain ⟨rfl, rfl, rfl⟩ := hrel
    go_wp2_with fail
    refine (HO.out _).mono ?_
    rintro e w2 ⟨rfl, l2⟩
    have PB2 := Lib.hid (P1.out.below l2)
    have L2 := Lib.hid (L1.out.trans (l2.mono L1.out.size))
    have E2 : Hid (∀ j, j < 5 → w2.cell? ⟨g1, o1 + j, none⟩ = (rawC rk)[j]?) := fun j hj => (cell_block (L2.out.block g1 HG.out)).trans (E1.out j hj)
    have Q2 := Lib.hid (Q1.out.below L2.out)
    have a0 := PB2.out.c0
    have a2 := PB2.out.c2
    simp only at a0 a2
    clear l2
    go_wp2_with (first | (refine load_at rfl (.tmp 73) rfl rfl (r := rk) E2.out ?_))
    refine (HI.out _ Q2.out).mono ?_
    rintro e w3 ⟨rfl, l3⟩
    rw [HK.out]
    have PB3 := Lib.hid (PB2.out.below l3)
    have L3 := Lib.hid (L2.out.trans (l3.mono L2.out.size))
    have a3 := PB3.out.c3
    have a4 := PB3.out.c4
    simp only at a3 a4
    clear l3
    replace hw1 := hw1.out
    replace hw2 := hw2.out
    replace hw3 := hw3.out
    replace hw4 := hw4.out
    replace hw5 := hw5.out
    replace hw6 := hw6.out
    replace hw7 := hw7.out
    replace x0 := x0.out
    go_wp2_with fail
    go_ret
    refine ⟨?_, L3.out⟩
    first | rfl | exact congrArg (fun x => Ending.returned (Value.int .i64 x)) HMIN.out
theorem rgsize_any (p : Piece) : ∀ (w : World) (r : Raw), PLow w r p → Calls Tryz.prog 12 #[.agg (rawA r)] w (GTo w p) := by
  induction p using M15.ind with
  | h k t ks m tp ih =>
    intro w r h
    have IH : ∀ i (hi : i < ks.length) (w : World) (r : Raw), PLow w r ks[i] → Calls Tryz.prog 12 #[.agg (rawA r)] w (GTo w ks[i]) := fun i hi => ih ks[i] (List.getElem_mem hi)
    by_cases h1 : 1 ≤ k ∧ k ≤ 6
    · exact rgsize_leaf h1 h
    by_cases h7 : k = 7
    · subst h7; exact rgsize_seq IH h
    by_cases h8 : k = 8
    · subst h8; exact rgsize_alt IH h
    by_cases h9 : k = 9
    · subst h9
      cases ho : oft t ks.length m tp with
      | false => exact rgsize_not ho h
      | true =>
        obtain ⟨a1, a2, a3, a4⟩ := oft_is ho
        obtain ⟨p, rfl⟩ : ∃ p, ks = [p] := List.length_eq_one_iff.1 a1
        have ht : t = ⟨#[]⟩ := no_of a2
        subst ht
        obtain ⟨M, rfl⟩ : ∃ M : Nat, m = (M : Int) := ⟨m.toNat, by omega⟩
        have IHp := ih p (by simp)
        by_cases q : tp = -1
        · subst q; exact rgsize_ever (by omega) IHp h
        · obtain ⟨T, rfl⟩ : ∃ T : Nat, tp = (T : Int) := ⟨tp.toNat, by omega⟩
          exact rgsize_upto (by omega) ⟨by omega, by omega⟩ IHp h
    exact rgsize_other (by omega) h
end Go.Proofs.YtmbibaccpeldoaaGreatDoor.W15
/-
  Layer 14 (pattern), walks of the program's sizes, isRepeat and repeated. The conditions stand in the statements.
-/
namespace Go.Proofs.YtmbibaccpeldoaaGreatDoor.W14
set_option maxRecDepth 100000
open Go Go.RowKit Go.Proofs.YtmbibaccpeldoaaGreatDoor.Strs Go.Proofs.YtmbibaccpeldoaaGreatDoor.Recs Go.Proofs.YtmbibaccpeldoaaGreatDoor.M14
open Go.Proofs.YtmbibaccpeldoaaGreatDoor.Kit (below_draws on)

/-- the program's Size of a piece -/
def PSize (p : Piece) : Prop := ∀ (w : World) (r : Raw), PLow w r p → Calls Tryz.prog 25 #[.agg (rawA r)] w (SizeTo w p)
theorem wrap_nat2 {a : Int} {n : Nat} (h : a = (n : Int)) (hn : n ≤ 9000000) : wrap64 a = (n : Int) := by subst h; unfold wrap64; omega
theorem mayB_often {m t : Int} (h : Often m t) : mayB m t = true := by
  obtain ⟨⟨h1, h2⟩, h3⟩ := h
  unfold mayB
  rcases h3 with h3 | ⟨h3, h4⟩ <;> simp [*]
def SumTo (w : World) (N0 : Nat) (e : Ending) (w' : World) : Prop := ∃ N : Nat, e = .returned (.int .i64 N) ∧ Hid (min 4001 N = min 4001 N0) ∧ Hid (N ≤ 4000000) ∧ Below w.heap.size w w'
set_option maxHeartbeats 4000000 in
theorem psizes_any {ks : List Piece} (IH : ∀ i (hi : i < ks.length), PSize ks[i]) {w : World} {A : Option Addr} {c : Nat} {raws : List Raw} (k1 : Kids w A c raws ks) : Calls Tryz.prog 42 #[.slice A ks.length c] w (SumTo w (sizes ks)) := by
  have HI := Lib.hid IH
  have hr1 := k1.room.1
  have hr2 := k1.room.2
  have K1 := Lib.hid k1
  have HR := Lib.hid (show ks.length ≤ c ∧ c ≤ 9223372036854775807 from ⟨hr1, hr2⟩)
  clear IH k1
  go_enter Tryz.func42, Tryz.ntmps42
  go_wp2_with fail
  clear hr1 hr2
  go_loopg [3, 8] ks.length (fun gk s3 s8 wr => ∃ i n : Nat, s3 = .int .i64 n ∧ s8 = .int .i64 i ∧ Hid (n = sizes (ks.take i)) ∧ Hid (n ≤ 4000) ∧ Hid (i + gk = ks.length) ∧ Hid (Kids wr A c raws ks) ∧ Hid (Below w.heap.size w wr))
  case atStart => exact ⟨0, 0, rfl, rfl, rfl, Nat.zero_le _, by unfold Hid; omega, K1, Below.refl _ _⟩
  case round =>
    obtain ⟨i, n, rfl, rfl, hn, hnl, hig, K1, HB⟩ := hrel
    have hn1 := HR.out.1
    have hn2 := HR.out.2
    by_cases hi : i < ks.length
    · have ti : (i : Int) < (ks.length : Int) := by omega
      obtain ⟨g1, o1, rfl, C1⟩ := K1.out.at_ (Nat.lt_of_le_of_lt (Nat.zero_le _) hi)
      obtain ⟨hr1, q1⟩ := K1.out.kid hi
      have E1 := Lib.hid (C1 i hr1)
      have Q1 := Lib.hid q1
      have HS := Lib.hid (size_le (ks[i]'hi))
      have HT := Lib.hid (sizes_take hi)
      have HI2 := Lib.hid hi
      obtain ⟨rk, hrk⟩ : ∃ rk, raws[i]'hr1 = rk := ⟨_, rfl⟩
      rw [hrk] at E1 Q1
      have HC := Lib.hid (fun (w : World) (h : PLow w rk (ks[i]'hi)) => HI.out i hi w rk h)
      obtain ⟨m, hm⟩ : ∃ m, size (ks[i]'hi) = m := ⟨_, rfl⟩
      have HM := Lib.hid hm
      rw [hm] at HS HT
      clear C1 q1 hm hrk
      go_wp2_with (first
        | (refine load_at rfl (.tmp 10) rfl rfl (r := rk) E1.out ?_)
        | (refine alloc_piece rfl rfl ?_; intro w3 b3 e3 p3 l3 z3)
        | (refine store_piece (r := rk) rfl (.tmp 5) (.tmp 11) rfl rfl rfl p3 ?_; intro w4 p4 l4 z4; have L4 := Lib.hid (two_new l3 l4 e3); have P4 := Lib.hid p4; clear e3 p3 l3 z3 p4 l4 z4)
        | (refine load_piece (r := rk) rfl (.tmp 5) rfl rfl P4.out ?_))
      refine (HC.out _ (Q1.out.below L4.out)).mono ?_
      rintro e w5 ⟨rfl, l5⟩
      rw [HM.out]
      have K5 := Lib.hid ((K1.out.below L4.out).below l5)
      have B5 := Lib.hid (HB.out.trans ((L4.out.trans (l5.mono L4.out.size)).mono HB.out.size))
      obtain ⟨s, hs⟩ : ∃ s, n + m = s := ⟨_, rfl⟩
      have hw : Hid (wrap64 ((n : Int) + (m : Int)) = (s : Int)) := wrap_nat (by rw [← hs, Int.natCast_add]) (by have := HS.out; have := hnl.out; omega)
      have HSS : Hid (s = sizes (ks.take (i + 1)) ∧ s ≤ 8001) := ⟨by rw [HT.out, ← hn.out]; exact hs.symm, by have := HS.out; have := hnl.out; omega⟩
      have hwi : Hid (wrap64 ((i : Int) + 1) = ((i + 1 : Nat) : Int)) := by unfold Hid wrap64; omega
      have HW := hw
      clear l5 hs hn hnl HS HT HM
      by_cases hbig : 4001 ≤ s
      · have tb : (4001 : Int) ≤ (s : Int) := by omega
        have HEQ : Hid (min 4001 s = min 4001 (sizes ks)) := by
          have h1 := sizes_take_le ks (i + 1)
          rw [← HSS.out.1] at h1
          unfold Hid; omega
        have HSB : Hid (s ≤ 4000000) := Nat.le_trans HSS.out.2 (by decide)
        replace hw := hw.out
        clear hbig
        go_wp2_with fail
        go_ret
        exact ⟨s, by first | rfl | exact congrArg (fun x => Ending.returned (Value.int .i64 x)) HW.out, HEQ, HSB, B5.out⟩
      · have tb : ¬ (4001 : Int) ≤ (s : Int) := by omega
        have HSB : Hid (s ≤ 4000) := by unfold Hid; omega
        cases gk with
        | zero => exact absurd hig.out (by have := HI2.out; omega)
        | succ g =>
          replace hw := hw.out
          replace hwi := hwi.out
          have HWI := Lib.hid hwi
          clear hbig
          go_wp2_with fail
          go_roundg g
          case measure => omega
          case rel => exact ⟨i + 1, s, by first | rfl | exact congrArg (Value.int .i64) HW.out, by first | rfl | exact congrArg (Value.int .i64) HWI.out, HSS.out.1, HSB, by have := hig.out; unfold Hid; omega, K5, B5⟩
    · have ti : ¬ (i : Int) < (ks.length : Int) := by omega
      have hie : i = ks.length := by have := hig.out; omega
      have HE : Hid (n = sizes ks) := by have := hn.out; rw [hie, List.take_length] at this; exact this
      have HSB : Hid (n ≤ 4000000) := Nat.le_trans hnl.out (by decide)
      clear hie
      go_wp2_with fail
      go_ret
      exact ⟨n, rfl, by rw [HE.out]; rfl, HSB, HB.out⟩
set_option maxHeartbeats 1000000 in
theorem isRepeat_any {m t : Int} (h : Often m t) {A : Option Addr} {c : Nat} (hc : 1 ≤ c ∧ c ≤ 9223372036854775807) (w : World) : Calls Tryz.prog 62 #[.agg (rawA ⟨9, ⟨#[]⟩, A, 1, c, m, t⟩)] w fun e w' => e = .returned (.bool true) ∧ Below w.heap.size w w' := by
  have hc1 := hc.1
  have hc2 := hc.2
  have HM : Hid (∀ w, Calls Tryz.prog 74 #[.int .i64 m, .int .i64 t] w fun e w' => e = .returned (.bool true) ∧ w' = w) := fun w => by
    have := mayBe_any m t w
    rw [mayB_often h] at this
    exact this
  clear hc h
  go_enter Tryz.func62, Tryz.ntmps62
  go_wp2_with (first
    | (refine box_arg (r := ⟨9, ⟨#[]⟩, A, 1, c, m, t⟩) rfl (.tmp 0) rfl rfl ?_; intro w1 b1 e1 p1 l1 z1; have a1 := p1.c1; have a2 := p1.c2; have a3 := p1.c3; have a4 := p1.c4; have L1 := Lib.hid l1; clear e1 p1 l1 z1; simp only at a1 a2 a3 a4))
  refine (HM.out _).mono ?_
  rintro e w2 ⟨rfl, rfl⟩
  go_wp2_with fail
  go_ret
  exact ⟨rfl, L1.out⟩
set_option maxHeartbeats 4000000 in
theorem repeated_ever {p : Piece} {M : Nat} (hM : M ≤ 100) (IH : PSize p) {w : World} {r : Raw} (h : PLow w r (.mk 9 ⟨#[]⟩ [p] M (-1))) : Calls Tryz.prog 43 #[.agg (rawA r)] w (SumTo w (size (.mk 9 ⟨#[]⟩ [p] M (-1)))) := by
  rw [size_rep]
  obtain ⟨A, c, raws, rfl, k1⟩ := h.parts
  have hr : 1 ≤ c ∧ c ≤ 9223372036854775807 := k1.room
  obtain ⟨g1, o1, rfl, C1⟩ := k1.at_ (Nat.lt_succ_self 0)
  obtain ⟨hr1, q1⟩ := k1.kid (i := 0) (Nat.lt_succ_self 0)
  have HG := Lib.hid (k1.2.1 _ rfl (Nat.lt_of_le_of_lt (Nat.zero_le _) hr1))
  have E1 := C1 0 hr1
  obtain ⟨rk, hrk⟩ : ∃ rk, raws[0] = rk := ⟨_, rfl⟩
  rw [hrk] at E1 q1
  have Q1 : Hid (PLow w rk p) := q1
  rw [show o1 + 0 * 5 = o1 by omega] at E1
  have E1 := Lib.hid E1
  have HI := Lib.hid (fun (w : World) (h : PLow w rk p) => IH w rk h)
  have HO := Lib.hid (fun w => isRepeat_any (m := (M : Int)) (t := (-1)) ⟨by omega, by omega⟩ (A := some ⟨g1, o1, none⟩) hr w)
  have hS := size_le p
  obtain ⟨K, hK⟩ : ∃ K, size p = K := ⟨_, rfl⟩
  have HK := Lib.hid hK
  rw [hK] at hS ⊢
  have hMS := mul_small (a := M) (b := K) (by omega) (by omega)
  obtain ⟨P, hP⟩ : ∃ P, M * K = P := ⟨_, rfl⟩
  rw [hP] at hMS
  have hw1 : Hid (wrap64 ((M : Int) * (K : Int)) = (P : Int)) := wrap_nat (by rw [← Int.natCast_mul, hP]) (Nat.le_trans hMS (by decide))
  replace hP := Lib.hid hP
  obtain ⟨P2, hP2⟩ : ∃ P2, P + K = P2 := ⟨_, rfl⟩
  have hw2 : Hid (wrap64 ((P : Int) + (K : Int)) = (P2 : Int)) := wrap_nat (by rw [← hP2, Int.natCast_add]) (by omega)
  obtain ⟨N, hN⟩ : ∃ N, P2 + 2 = N := ⟨_, rfl⟩
  have hw3 : Hid (wrap64 ((P2 : Int) + 2) = (N : Int)) := wrap_nat (by rw [← hN, Int.natCast_add]; rfl) (by omega)
  have HNB : Hid (N ≤ 4000000) := by unfold Hid; omega
  have HE : Hid (min 4001 (if (-1 : Int) = -1 then M * K + K + 2 else M * K + (-1 - (M : Int)).toNat * (K + 1)) = min 4001 N) := by
    unfold Hid
    rw [if_pos rfl, hP.out, hP2, hN]
  rw [HE.out]
  have HWL := hw3
  have HFIN : Hid (min 4001 N = min 4001 (min 4001 N)) := by unfold Hid; omega
  have hc1 := hr.1
  have hc2 := hr.2
  clear h k1 C1 q1 hrk hr1 IH hK hS hMS hr HE hM hN hP2
  go_enter Tryz.func43, Tryz.ntmps43
  go_wp2_with (first
    | (refine box_arg (r := ⟨9, ⟨#[]⟩, some ⟨g1, o1, none⟩, 1, c, (M : Int), (-1)⟩) rfl (.tmp 0) rfl rfl ?_; intro w1 b1 e1 p1 l1 z1; have P1 := Lib.hid p1; have L1 := Lib.hid l1; clear e1 p1 l1 z1)
    | (refine load_piece (r := ⟨9, ⟨#[]⟩, some ⟨g1, o1, none⟩, 1, c, (M : Int), (-1)⟩) rfl (.tmp 1) rfl rfl P1.out ?_))
  refine (HO.out _).mono ?_
  rintro e w2 ⟨rfl, l2⟩
  have PB2 := Lib.hid (P1.out.below l2)
  have L2 := Lib.hid (L1.out.trans (l2.mono L1.out.size))
  have E2 : Hid (∀ j, j < 5 → w2.cell? ⟨g1, o1 + j, none⟩ = (rawC rk)[j]?) := fun j hj => (cell_block (L2.out.block g1 HG.out)).trans (E1.out j hj)
  have Q2 := Lib.hid (Q1.out.below L2.out)
  have a2 := PB2.out.c2
  simp only at a2
  clear l2
  go_wp2_with (first | (refine load_at rfl (.tmp 10) rfl rfl (r := rk) E2.out ?_))
  refine (HI.out _ Q2.out).mono ?_
  rintro e w3 ⟨rfl, l3⟩
  rw [HK.out]
  have PB3 := Lib.hid (PB2.out.below l3)
  have L3 := Lib.hid (L2.out.trans (l3.mono L2.out.size))
  have a3 := PB3.out.c3
  have a4 := PB3.out.c4
  simp only at a3 a4
  replace hw1 := hw1.out
  replace hw2 := hw2.out
  replace hw3 := hw3.out
  clear l3
  go_wp2_with fail
  go_ret
  exact ⟨N, by first | rfl | exact congrArg (fun x => Ending.returned (Value.int .i64 x)) HWL.out, HFIN.out, HNB.out, L3.out⟩
set_option maxHeartbeats 4000000 in
theorem repeated_upto {p : Piece} {M T : Nat} (hM : M ≤ 100) (hT : M ≤ T ∧ T ≤ 100) (IH : PSize p) {w : World} {r : Raw} (h : PLow w r (.mk 9 ⟨#[]⟩ [p] M (T : Int))) : Calls Tryz.prog 43 #[.agg (rawA r)] w (SumTo w (size (.mk 9 ⟨#[]⟩ [p] M (T : Int)))) := by
  rw [size_rep]
  obtain ⟨A, c, raws, rfl, k1⟩ := h.parts
  have hr : 1 ≤ c ∧ c ≤ 9223372036854775807 := k1.room
  obtain ⟨g1, o1, rfl, C1⟩ := k1.at_ (Nat.lt_succ_self 0)
  obtain ⟨hr1, q1⟩ := k1.kid (i := 0) (Nat.lt_succ_self 0)
  have HG := Lib.hid (k1.2.1 _ rfl (Nat.lt_of_le_of_lt (Nat.zero_le _) hr1))
  have E1 := C1 0 hr1
  obtain ⟨rk, hrk⟩ : ∃ rk, raws[0] = rk := ⟨_, rfl⟩
  rw [hrk] at E1 q1
  have Q1 : Hid (PLow w rk p) := q1
  rw [show o1 + 0 * 5 = o1 by omega] at E1
  have E1 := Lib.hid E1
  have HI := Lib.hid (fun (w : World) (h : PLow w rk p) => IH w rk h)
  have HO := Lib.hid (fun w => isRepeat_any (m := (M : Int)) (t := (T : Int)) ⟨by omega, by omega⟩ (A := some ⟨g1, o1, none⟩) hr w)
  have hS := size_le p
  obtain ⟨K, hK⟩ : ∃ K, size p = K := ⟨_, rfl⟩
  have HK := Lib.hid hK
  rw [hK] at hS ⊢
  have hMS := mul_small (a := M) (b := K) (by omega) (by omega)
  obtain ⟨P, hP⟩ : ∃ P, M * K = P := ⟨_, rfl⟩
  rw [hP] at hMS
  have hw1 : Hid (wrap64 ((M : Int) * (K : Int)) = (P : Int)) := wrap_nat (by rw [← Int.natCast_mul, hP]) (Nat.le_trans hMS (by decide))
  replace hP := Lib.hid hP
  obtain ⟨D, hD⟩ : ∃ D, T - M = D := ⟨_, rfl⟩
  have hw2 : Hid (wrap64 ((T : Int) - (M : Int)) = (D : Int)) := wrap_nat (by omega) (by omega)
  obtain ⟨K2, hK2⟩ : ∃ K2, K + 1 = K2 := ⟨_, rfl⟩
  have hw3 : Hid (wrap64 ((K : Int) + 1) = (K2 : Int)) := wrap_nat (by omega) (by omega)
  have hDS := mul_small (a := D) (b := K2) (by omega) (by omega)
  obtain ⟨G, hG⟩ : ∃ G, D * K2 = G := ⟨_, rfl⟩
  rw [hG] at hDS
  have hw4 : Hid (wrap64 ((D : Int) * (K2 : Int)) = (G : Int)) := wrap_nat (by rw [← Int.natCast_mul, hG]) (Nat.le_trans hDS (by decide))
  replace hG := Lib.hid hG
  obtain ⟨N, hN⟩ : ∃ N, P + G = N := ⟨_, rfl⟩
  have hw5 : Hid (wrap64 ((P : Int) + (G : Int)) = (N : Int)) := wrap_nat (by rw [← hN, Int.natCast_add]) (by omega)
  have HNB : Hid (N ≤ 4000000) := by unfold Hid; omega
  have HE : Hid (min 4001 (if (T : Int) = -1 then M * K + K + 2 else M * K + ((T : Int) - (M : Int)).toNat * (K + 1)) = min 4001 N) := by
    unfold Hid
    rw [if_neg (by omega), show ((T : Int) - (M : Int)).toNat = D by omega, hP.out, hK2, hG.out, hN]
  have x0 : Hid (((T : Int) == -1) = false) := by unfold Hid; simp
  rw [HE.out]
  have HWL := hw5
  have HFIN : Hid (min 4001 N = min 4001 (min 4001 N)) := by unfold Hid; omega
  have hc1 := hr.1
  have hc2 := hr.2
  clear h k1 C1 q1 hrk hr1 IH hK hS hMS hr HE hM hN hT hD hK2 hDS
  go_enter Tryz.func43, Tryz.ntmps43
  go_wp2_with (first
    | (refine box_arg (r := ⟨9, ⟨#[]⟩, some ⟨g1, o1, none⟩, 1, c, (M : Int), (T : Int)⟩) rfl (.tmp 0) rfl rfl ?_; intro w1 b1 e1 p1 l1 z1; have P1 := Lib.hid p1; have L1 := Lib.hid l1; clear e1 p1 l1 z1)
    | (refine load_piece (r := ⟨9, ⟨#[]⟩, some ⟨g1, o1, none⟩, 1, c, (M : Int), (T : Int)⟩) rfl (.tmp 1) rfl rfl P1.out ?_))
  refine (HO.out _).mono ?_
  rintro e w2 ⟨rfl, l2⟩
  have PB2 := Lib.hid (P1.out.below l2)
  have L2 := Lib.hid (L1.out.trans (l2.mono L1.out.size))
  have E2 : Hid (∀ j, j < 5 → w2.cell? ⟨g1, o1 + j, none⟩ = (rawC rk)[j]?) := fun j hj => (cell_block (L2.out.block g1 HG.out)).trans (E1.out j hj)
  have Q2 := Lib.hid (Q1.out.below L2.out)
  have a2 := PB2.out.c2
  simp only at a2
  clear l2
  go_wp2_with (first | (refine load_at rfl (.tmp 10) rfl rfl (r := rk) E2.out ?_))
  refine (HI.out _ Q2.out).mono ?_
  rintro e w3 ⟨rfl, l3⟩
  rw [HK.out]
  have PB3 := Lib.hid (PB2.out.below l3)
  have L3 := Lib.hid (L2.out.trans (l3.mono L2.out.size))
  have a3 := PB3.out.c3
  have a4 := PB3.out.c4
  simp only at a3 a4
  replace hw1 := hw1.out
  replace hw2 := hw2.out
  replace hw3 := hw3.out
  replace hw4 := hw4.out
  replace hw5 := hw5.out
  replace x0 := x0.out
  clear l3
  go_wp2_with fail
  go_ret
  exact ⟨N, by first | rfl | exact congrArg (fun x => Ending.returned (Value.int .i64 x)) HWL.out, HFIN.out, HNB.out, L3.out⟩
end Go.Proofs.YtmbibaccpeldoaaGreatDoor.W14
