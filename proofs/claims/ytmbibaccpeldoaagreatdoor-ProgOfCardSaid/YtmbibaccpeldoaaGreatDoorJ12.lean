/-
  Texts joined, in build order, each with its own comment and its own conditions: W15Seq, W15Patch.
-/
import Derived.Test.YtmbibaccpeldoaaGreatDoorJ11
import Derived.Test.YtmbibaccpeldoaaGreatDoorJ07
import Derived.Deep.LoopGhost
/-
  Layer 15 (prog), walk of the layer's seq: kids one behind the other; kids below a block. The conditions stand in the statements.
-/
namespace Go.Proofs.YtmbibaccpeldoaaGreatDoor.M15
set_option maxRecDepth 100000
open Go Go.Proofs.YtmbibaccpeldoaaGreatDoor.M14
theorem seqs_snoc {ks : List Piece} : ∀ (l : List Piece) (p : Piece) (a : Nat), (∀ q, q ∈ l → q ∈ ks) → (∀ q, q ∈ ks → ∀ a, (steps q a).length = size q) → seqs (l ++ [p]) a = seqs l a ++ steps p (a + sizes l)
  | [], p, a, _, _ => by simp [seqs, sizes]
  | q :: l, p, a, hm, hs => by
    rw [List.cons_append, seqs, seqs, seqs_snoc l p (a + size q) (fun r hr => hm r (by simp [hr])) hs, List.append_assoc]
    rw [show sizes (q :: l) = size q + sizes l by simp only [sizes], Nat.add_assoc]
theorem sizes_take_le (ks : List Piece) (i : Nat) : sizes (ks.take i) ≤ sizes ks := by
  have := sizes_append (ks.take i) (ks.drop i)
  rw [List.take_append_drop] at this
  omega
theorem sizes_next {ks : List Piece} {i : Nat} (hi : i < ks.length) : sizes (ks.take (i + 1)) = sizes (ks.take i) + size ks[i] := by
  rw [List.take_succ_eq_append_getElem hi, sizes_append]
  simp only [sizes, Nat.add_zero]
theorem seqs_next {ks : List Piece} (hs : ∀ q, q ∈ ks → ∀ a, (steps q a).length = size q) {i : Nat} (hi : i < ks.length) (a : Nat) : seqs (ks.take (i + 1)) a = seqs (ks.take i) a ++ steps ks[i] (a + sizes (ks.take i)) := by
  rw [List.take_succ_eq_append_getElem hi]
  exact seqs_snoc _ _ _ (fun q hq => List.mem_of_mem_take hq) hs
theorem seqs_take_len {ks : List Piece} (hs : ∀ q, q ∈ ks → ∀ a, (steps q a).length = size q) (i a : Nat) : (seqs (ks.take i) a).length = sizes (ks.take i) := seqs_len (fun q hq => hs q (List.mem_of_mem_take hq)) a
end Go.Proofs.YtmbibaccpeldoaaGreatDoor.M15
namespace Go.Proofs.YtmbibaccpeldoaaGreatDoor.W15
open Go Go.RowKit Go.Proofs.YtmbibaccpeldoaaGreatDoor.Strs Go.Proofs.YtmbibaccpeldoaaGreatDoor.Recs Go.Proofs.YtmbibaccpeldoaaGreatDoor.M15
open Go.Proofs.YtmbibaccpeldoaaGreatDoor.M14 (Piece size sizes)
open Go.Proofs.YtmbibaccpeldoaaGreatDoor.W14 (Raw Raws rawA rawC PAt PAll PBox below_new cell_block own_same own_form box_arg load_piece run_load_op load_at alloc_piece store_piece two_new raws_keep)
open Go.Proofs.YtmbibaccpeldoaaGreatDoor.Row256 (Beside)
open Go.Proofs.YtmbibaccpeldoaaGreatDoor.Kit (below_draws on)

/-- a piece's kids in memory, all below block b -/
def KidsU (b : Nat) (w : World) (A : Option Addr) (c : Nat) (raws : List Raw) (ks : List Piece) : Prop :=
  (∃ B, Raws B w (.slice A ks.length c) raws) ∧ (∀ ad, A = some ad → 0 < raws.length → ad.block < b) ∧ PAll (fun k => k < b) w raws ks
section
variable {w w' : World} {b : Nat} {A : Option Addr} {c : Nat} {raws : List Raw} {ks : List Piece}
theorem parts_under {r : Raw} {k : Int} {t : ByteArray} {l tp : Int} (h : PAt (fun k => k < b) w r (.mk k t ks l tp)) : ∃ A c raws, r = ⟨k, t, A, ks.length, c, l, tp⟩ ∧ KidsU b w A c raws ks := by
  cases h with
  | mk _ _ A n c _ _ raws _ B h hX hl hk =>
    have hn : n = ks.length := by
      obtain ⟨A', c', e, -⟩ := h
      injection e with e1 e2 e3
      omega
    subst hn
    exact ⟨A, c, raws, rfl, ⟨B, h⟩, hX, hl, hk⟩
theorem KidsU.keep (h : KidsU b w A c raws ks) (hk : ∀ k, k < b → w'.heap[k]? = w.heap[k]?) : KidsU b w' A c raws ks := by
  obtain ⟨⟨B, h1⟩, h2, h3⟩ := h
  exact ⟨⟨B, raws_keep h1 fun ad e hn p hp => cell_block (hk _ (by rw [hp]; exact h2 ad e hn))⟩, h2, h3.keep (fun _ q => q) fun _ q => cell_block (hk _ q)⟩
theorem KidsU.kids (h : KidsU b w A c raws ks) (hb : b ≤ w.heap.size) : W14.Kids w A c raws ks :=
  ⟨h.1, fun ad e hn => Nat.lt_of_lt_of_le (h.2.1 ad e hn) hb, h.2.2.keep (fun _ q => Nat.lt_of_lt_of_le q hb) fun _ _ => rfl⟩
theorem KidsU.kid (h : KidsU b w A c raws ks) {i : Nat} (hi : i < ks.length) : ∃ hr : i < raws.length, PAt (fun k => k < b) w raws[i] ks[i] := by
  obtain ⟨-, -, h3, h4⟩ := h
  exact ⟨by omega, h4 i (by omega) hi⟩
theorem KidsU.grow {v v' : Value} {L : List Inst} (h : KidsU b w A c raws ks) (hl : Lay w b v L) (hg : Grow b v v' w w') : KidsU b w' A c raws ks := h.keep fun _ q => hg.keeps hl q
theorem KidsU.below (h : KidsU b w A c raws ks) (hb : b < w.heap.size) (hg : Below w.heap.size w w') : KidsU b w' A c raws ks := h.keep fun _ q => hg.block _ (Nat.lt_trans q hb)
end
/-- lay lays a piece's steps -/
def LayOk (p : Piece) : Prop := ∀ (w : World) (b : Nat) (v : Value) (L : List Inst) (r : Raw), Lay w b v L → PAt (fun k => k < b) w r p → L.length + size p ≤ 4000 →
  Calls Tryz.prog 18 #[.pointer (some ⟨b, 0, none⟩), .agg (rawA r)] w (Laid b v w (L ++ steps p L.length))
set_option maxHeartbeats 4000000 in
theorem seq_any {ks : List Piece} (IH : ∀ i (hi : i < ks.length), LayOk ks[i]) (hs : ∀ q, q ∈ ks → ∀ a, (steps q a).length = size q) {w : World} {b : Nat} {v : Value} {L : List Inst} {k : Int} {t : ByteArray} {A : Option Addr} {c : Nat} {m tp : Int} {raws : List Raw} (h : Lay w b v L) (k1 : KidsU b w A c raws ks) (hl : L.length + sizes ks ≤ 4000) :
    Calls Tryz.prog 35 #[.pointer (some ⟨b, 0, none⟩), .agg (rawA ⟨k, t, A, ks.length, c, m, tp⟩)] w (Laid b v w (L ++ seqs ks L.length)) := by
  have H := Lib.hid h
  have HI := Lib.hid IH
  have HS := Lib.hid hs
  have K1 := Lib.hid k1
  have HR := Lib.hid (k1.kids (Nat.le_of_lt h.box.lt)).room
  have HL := Lib.hid hl
  have hr1 := HR.out.1
  have hr2 := HR.out.2
  clear h IH hs k1 hl
  go_enter Tryz.func35, Tryz.ntmps35
  go_wp2_with (first
    | (refine box_arg (r := ⟨k, t, A, ks.length, c, m, tp⟩) rfl (.tmp 1) rfl rfl ?_; intro w1 b1 e1 p1 l1 z1; have a2 := p1.c2; have L1 := Lib.hid l1; clear e1 p1 l1 z1; simp only at a2))
  have H1 := Lib.hid (H.out.below L1.out)
  have K2 := Lib.hid (K1.out.below H.out.box.lt L1.out)
  clear a2 hr1 hr2
  go_loopg [9] ks.length (fun gk s9 wr => ∃ (i : Nat) (v1 : Value), s9 = .int .i64 i ∧ Hid (i + gk = ks.length) ∧ Hid (Lay wr b v1 (L ++ seqs (ks.take i) L.length)) ∧ Hid (KidsU b wr A c raws ks) ∧ Hid (Grow b v v1 w wr))
  case atStart => exact ⟨0, v, rfl, by unfold Hid; omega, by unfold Hid; simp only [List.take_zero, seqs, List.append_nil]; exact H1.out, K2, Grow.of L1.out⟩
  case round =>
    obtain ⟨i, v1, rfl, hig, HL1, KK, GG⟩ := hrel
    have hn1 := HR.out.1
    have hn2 := HR.out.2
    by_cases hi : i < ks.length
    · have ti : (i : Int) < (ks.length : Int) := by omega
      have hlt := HL1.out.box.lt
      obtain ⟨g1, o1, rfl, C1⟩ := (KK.out.kids (Nat.le_of_lt hlt)).at_ (Nat.lt_of_le_of_lt (Nat.zero_le _) hi)
      obtain ⟨hr1, q1⟩ := KK.out.kid hi
      have E1 := Lib.hid (C1 i hr1)
      have Q1 := Lib.hid q1
      have HI2 := Lib.hid hi
      obtain ⟨rk, hrk⟩ : ∃ rk, raws[i]'hr1 = rk := ⟨_, rfl⟩
      rw [hrk] at E1 Q1
      have HC : Hid (∀ (w : World) (v : Value), Lay w b v (L ++ seqs (ks.take i) L.length) → PAt (fun k => k < b) w rk ks[i] → Calls Tryz.prog 18 #[.pointer (some ⟨b, 0, none⟩), .agg (rawA rk)] w (Laid b v w (L ++ seqs (ks.take (i + 1)) L.length))) := by
        intro w v h1 h2
        have hz : (L ++ seqs (ks.take i) L.length).length = L.length + sizes (ks.take i) := by rw [List.length_append, seqs_take_len HS.out]
        have := HI.out i hi w b v _ rk h1 h2 (by have h3 := sizes_next hi; have h4 := sizes_take_le ks (i + 1); have := HL.out; omega)
        rw [hz] at this
        rw [seqs_next HS.out hi, ← List.append_assoc]
        exact this
      have hwi : Hid (wrap64 ((i : Int) + 1) = ((i + 1 : Nat) : Int)) := by unfold Hid wrap64; omega
      have HT := Lib.hid hlt
      clear C1 q1 hrk hlt
      go_wp2_with (first
        | (refine load_at rfl (.tmp 11) rfl rfl (r := rk) E1.out ?_)
        | (refine alloc_piece rfl rfl ?_; intro w3 b3 e3 p3 l3 z3)
        | (refine store_piece (r := rk) rfl (.tmp 5) (.tmp 12) rfl rfl rfl p3 ?_; intro w4 p4 l4 z4; have L4 := Lib.hid (two_new l3 l4 e3); have P4 := Lib.hid p4; clear e3 p3 l3 z3 p4 l4 z4)
        | (refine load_piece (r := rk) rfl (.tmp 5) rfl rfl P4.out ?_))
      have H4 := Lib.hid (HL1.out.below L4.out)
      have K4 := Lib.hid (KK.out.below HT.out L4.out)
      refine (HC.out _ _ H4.out (below_piece L4.out HT.out Q1.out)).mono ?_
      rintro e w5 ⟨rfl, v2, h5, g5⟩
      have H5 := Lib.hid h5
      have K5 := Lib.hid (K4.out.grow H4.out g5)
      have G5 := Lib.hid (GG.out.trans ((Grow.of L4.out).trans g5))
      clear h5 g5
      cases gk with
      | zero => exact absurd hig.out (by have := HI2.out; omega)
      | succ g =>
        go_wp2_with fail
        go_roundg g
        case measure => omega
        case rel => exact ⟨i + 1, v2, by first | rfl | exact congrArg (Value.int .i64) hwi.out, by have := hig.out; unfold Hid; omega, H5, K5, G5⟩
    · have ti : ¬ (i : Int) < (ks.length : Int) := by omega
      have hie : i = ks.length := by have := hig.out; omega
      have HL2 : Hid (Lay wr b v1 (L ++ seqs ks L.length)) := by have := HL1.out; rw [hie, List.take_length] at this; exact this
      clear hie
      go_wp2_with fail
      go_end0
      exact ⟨rfl, v1, HL2.out, GG.out⟩
end Go.Proofs.YtmbibaccpeldoaaGreatDoor.W15
/-
  Layer 15 (prog): alternatives in plain mathematics (where the jumps are that are set at the end); a field of a step that lies in the layer is set; numbers kept beside the layer. The conditions stand in the statements.
-/
namespace Go.Proofs.YtmbibaccpeldoaaGreatDoor.M15
open Go Go.Proofs.YtmbibaccpeldoaaGreatDoor.M14
/-- the kids of an alternative but the last one: their jumps go to j -/
def pre : List Piece → Nat → Nat → List Inst
  | [], _, _ => []
  | p :: l, a, j => split (a + 1) (a + size p + 2) :: (steps p (a + 1) ++ jump j :: pre l (a + size p + 2) j)
/-- where the jumps are -/
def spots : List Piece → Nat → List Nat
  | [], _ => []
  | p :: l, a => (a + size p + 1) :: spots l (a + size p + 2)
def plen (l : List Piece) : Nat := sizes l + 2 * l.length
theorem plen_cons (p : Piece) (l : List Piece) : plen (p :: l) = size p + 2 + plen l := by
  unfold plen
  rw [show sizes (p :: l) = size p + sizes l by simp only [sizes], List.length_cons]; omega
theorem pre_len {ks : List Piece} (hs : ∀ q, q ∈ ks → ∀ a, (steps q a).length = size q) (j : Nat) : ∀ (l : List Piece) (a : Nat), (∀ q, q ∈ l → q ∈ ks) → (pre l a j).length = plen l
  | [], a, _ => by simp [pre, plen, sizes]
  | p :: l, a, hm => by
    rw [pre, List.length_cons, List.length_append, List.length_cons, hs p (hm p (by simp)), pre_len hs j l _ (fun q hq => hm q (by simp [hq])), plen_cons]; omega
theorem pre_append (j : Nat) : ∀ (l m : List Piece) (a : Nat), pre (l ++ m) a j = pre l a j ++ pre m (a + plen l) j
  | [], m, a => by simp [pre, plen, sizes]
  | p :: l, m, a => by
    rw [List.cons_append, pre, pre, pre_append j l m, plen_cons, show a + size p + 2 + plen l = a + (size p + 2 + plen l) by omega]
    simp only [List.cons_append, List.append_assoc]
theorem spots_len : ∀ (l : List Piece) (a : Nat), (spots l a).length = l.length
  | [], _ => rfl
  | p :: l, a => by rw [spots, List.length_cons, List.length_cons, spots_len l]
theorem spots_append : ∀ (l m : List Piece) (a : Nat), spots (l ++ m) a = spots l a ++ spots m (a + plen l)
  | [], m, a => by simp [spots, plen, sizes]
  | p :: l, m, a => by
    rw [List.cons_append, spots, spots, spots_append l m, plen_cons, show a + size p + 2 + plen l = a + (size p + 2 + plen l) by omega]; rfl
theorem alts_pre (q : Piece) : ∀ (l : List Piece) (a e : Nat), alts (l ++ [q]) a e = pre l a e ++ steps q (a + plen l)
  | [], a, e => by rw [List.nil_append, alts_1]; simp [pre, plen, sizes]
  | [p], a, e => by
    rw [List.cons_append, List.nil_append, alts_2, alts_1, plen_cons]
    simp only [pre, List.cons_append, List.append_assoc, List.nil_append]
    rw [show plen [] = 0 from rfl, show a + size p + 2 = a + (size p + 2 + 0) by omega]
  | p :: r :: l, a, e => by
    have := alts_pre q (r :: l) (a + size p + 2) e
    rw [List.cons_append] at this
    rw [List.cons_append, List.cons_append, alts_2, this, plen_cons p, show a + size p + 2 + plen (r :: l) = a + (size p + 2 + plen (r :: l)) by omega]
    show _ = (split (a + 1) (a + size p + 2) :: (steps p (a + 1) ++ jump e :: pre (r :: l) (a + size p + 2) e)) ++ _
    simp only [List.cons_append, List.append_assoc]
theorem take_one {ks : List Piece} {i n : Nat} (hi : i < n) (hn : n ≤ ks.length) : ∃ q, q ∈ ks ∧ (∃ h : i < ks.length, ks[i] = q) ∧ (ks.take n).take (i + 1) = (ks.take n).take i ++ [q] ∧ (ks.take n).drop i = q :: (ks.take n).drop (i + 1) := by
  have h1 : i < (ks.take n).length := by rw [List.length_take]; omega
  refine ⟨(ks.take n)[i], List.mem_of_mem_take (List.getElem_mem h1), ⟨by omega, (List.getElem_take).symm⟩, List.take_succ_eq_append_getElem h1, List.drop_eq_getElem_cons h1⟩
end Go.Proofs.YtmbibaccpeldoaaGreatDoor.M15
namespace Go.Proofs.YtmbibaccpeldoaaGreatDoor.W15
open Go Go.RowKit Go.Proofs.YtmbibaccpeldoaaGreatDoor.Strs Go.Proofs.YtmbibaccpeldoaaGreatDoor.Recs Go.Proofs.YtmbibaccpeldoaaGreatDoor.M15
open Go.Proofs.YtmbibaccpeldoaaGreatDoor.M14 (Piece size sizes)
open Go.Proofs.YtmbibaccpeldoaaGreatDoor.W14 (cell_block own_form)

theorem own_block_same {base : Nat} {e : TypeId} {size n : Nat} {v : Value} {xs : List Value} {w w' : World} (h : w.ownsRow base e size v n xs) (hk : ∀ k, v.ownBlock = some k → w'.heap[k]? = w.heap[k]?) : w'.ownsRow base e size v n xs := by
  refine ⟨h.1, ?_⟩
  rcases h.2 with h0 | ⟨g, cap, cur, e1, hb, hh, rest⟩
  · exact Or.inl h0
  · subst e1
    exact Or.inr ⟨g, cap, cur, rfl, hb, (hk g rfl).trans hh, rest⟩
theorem own_type {base : Nat} {e : TypeId} {size n : Nat} {v : Value} {xs : List Value} {w : World} (h : w.ownsRow base e size v n xs) {k : Nat} (hk : v.ownBlock = some k) : ∃ cur, w.heap[k]? = some (.cells cur e (0, 0)) := by
  rcases h.2 with ⟨rfl, _⟩ | ⟨g, cap, cur, rfl, hb, hh, rest⟩
  · cases hk
  · cases hk
    exact ⟨cur, hh⟩
theorem own_two {base base' : Nat} {e e' : TypeId} {size size' n n' : Nat} {v v' : Value} {xs xs' : List Value} {w : World} (h : w.ownsRow base e size v n xs) (h' : w.ownsRow base' e' size' v' n' xs') (he : e ≠ e') {k : Nat} (hk : v.ownBlock = some k) : v'.ownBlock ≠ some k := by
  intro q
  obtain ⟨c, h1⟩ := own_type h hk
  obtain ⟨c', h2⟩ := own_type h' q
  rw [h1] at h2
  injection h2 with h2
  injection h2 with _ h2
  exact he h2
/-- numbers in a row of the caller's own -/
def Nums (base : Nat) (w : World) (v : Value) (M : List Nat) : Prop := w.ownsRow base 3 1 v M.length (M.flatMap numC)
section
variable {w w' : World} {b base : Nat} {v v' vj vj' : Value} {L : List Inst} {M : List Nat}
theorem Nums.nil (base : Nat) (w : World) : Nums base w (.slice none 0 0) [] := World.ownsRow_nil _ _ _ _
theorem Nums.below (h : Nums base w vj M) (hb : Below w.heap.size w w') : Nums base w' vj M := own_block_same h fun k hk => hb.block k (h.lt k hk).2
theorem Nums.apart (h : Nums base w vj M) (hl : Lay w b v L) {k : Nat} (hk : vj.ownBlock = some k) : v.ownBlock ≠ some k := own_two h hl.own (by decide) hk
theorem Nums.grow (h : Nums base w vj M) (hl : Lay w b v L) (hb : b < base) (hg : Grow b v v' w w') : Nums base w' vj M :=
  own_block_same h fun k hk => hg.block k (h.lt k hk).2 (by have := (h.lt k hk).1; omega) (h.apart hl hk)
theorem Lay.put_nums (hl : Lay w b v L) (h : Nums base w vj M) (hb : b < base) (hp : Put vj vj' w w') : Lay w' b v L := by
  obtain ⟨g1, g2, g3, g4, g5⟩ := hp.grown
  refine ⟨(g5 b hl.box.lt (fun q => by have := (h.lt b q.symm).1; omega)).trans hl.box, own_block_same hl.own fun k hk => g5 k (hl.own_gt k hk).2 (fun q => h.apart hl q.symm hk)⟩
theorem Nums.recs (h : Nums base w vj M) : Recs numC 1 w.heap.size w vj M := Recs.of_own numC_len rfl h
theorem KidsU.put {A : Option Addr} {c : Nat} {raws : List W14.Raw} {ks : List Piece} (hk : KidsU b w A c raws ks) (h : Nums base w vj M) (hb : b < base) (hw : b < w.heap.size) (hp : Put vj vj' w w') : KidsU b w' A c raws ks := by
  obtain ⟨g1, g2, g3, g4, g5⟩ := hp.grown
  exact hk.keep fun k q => g5 k (Nat.lt_trans q hw) (fun q2 => by have := (h.lt k q2.symm).1; omega)
end
/-! a field of a step -/
theorem flat_set (x : Inst) (j : Nat) (u : Value) (y : Inst) (hj : j < 4) (hy : (insC x).set j u = insC y) (X Z : List Inst) : ((X ++ x :: Z).flatMap insC).set (X.length * 4 + j) u = (X ++ y :: Z).flatMap insC := by
  rw [List.flatMap_append, List.flatMap_append, List.flatMap_cons, List.flatMap_cons]
  have hl := flat_len insC_len X
  rw [List.set_append_right _ _ (by omega), hl, show X.length * 4 + j - X.length * 4 = j by omega, List.set_append_left _ _ (by rw [insC_len]; exact hj), hy]
section
variable {w : World} {b g c n : Nat} {X Z : List Inst} {x : Inst}
theorem Lay.set_ {j : Nat} {u : Value} {y : Inst} (hj : j < 4) (hy : (insC x).set j u = insC y) (h : Lay w b (.slice (some ⟨g, 0, none⟩) n c) (X ++ x :: Z)) :
    Lay (w.setCell ⟨g, X.length * 4 + j, none⟩ u) b (.slice (some ⟨g, 0, none⟩) n c) (X ++ y :: Z) ∧ Grow b (.slice (some ⟨g, 0, none⟩) n c) (.slice (some ⟨g, 0, none⟩) n c) w (w.setCell ⟨g, X.length * 4 + j, none⟩ u) := by
  have hgb := (h.own_gt g rfl).1
  obtain ⟨A, c', e, -, -⟩ := h.form
  injection e with e1 e2 e3
  subst e2
  have hs := h.own.stored (X.length * 4 + j) u
  rw [flat_set x j u y hj hy] at hs
  refine ⟨⟨(heap_setCell_other w _ b _ (show b ≠ g by omega)).trans h.box, ?_⟩, ⟨rfl, rfl, rfl, by rw [World.size_setCell]; exact Nat.le_refl _, fun k _ _ e2 => heap_setCell_other w _ k _ (show k ≠ g from fun q => e2 (by rw [q]; rfl)), fun k hk => Or.inl hk⟩⟩
  have hl : (X ++ y :: Z).length = (X ++ x :: Z).length := by simp
  rw [hl]
  exact hs.1
theorem Lay.set2 (h : Lay w b (.slice (some ⟨g, 0, none⟩) n c) (X ++ x :: Z)) (u : Int) :
    Lay (w.setCell ⟨g, X.length * 4 + 2, none⟩ (.int .i64 u)) b (.slice (some ⟨g, 0, none⟩) n c) (X ++ { x with x := u } :: Z) ∧ Grow b (.slice (some ⟨g, 0, none⟩) n c) (.slice (some ⟨g, 0, none⟩) n c) w (w.setCell ⟨g, X.length * 4 + 2, none⟩ (.int .i64 u)) := h.set_ (x := x) (y := { x with x := u }) (by decide) rfl
theorem Lay.set3 (h : Lay w b (.slice (some ⟨g, 0, none⟩) n c) (X ++ x :: Z)) (u : Int) :
    Lay (w.setCell ⟨g, X.length * 4 + 3, none⟩ (.int .i64 u)) b (.slice (some ⟨g, 0, none⟩) n c) (X ++ { x with y := u } :: Z) ∧ Grow b (.slice (some ⟨g, 0, none⟩) n c) (.slice (some ⟨g, 0, none⟩) n c) w (w.setCell ⟨g, X.length * 4 + 3, none⟩ (.int .i64 u)) := h.set_ (x := x) (y := { x with y := u }) (by decide) rfl
/-- what a field of a step is -/
theorem Lay.field {m : Nat} (h : Lay w b (.slice (some ⟨g, 0, none⟩) n c) (X ++ x :: Z)) (hm : X.length = m) : w.cell? ⟨g, m * 4 + 2, none⟩ = some (.int .i64 x.x) ∧ w.cell? ⟨g, m * 4 + 3, none⟩ = some (.int .i64 x.y) ∧ ∀ j, w.frozen? ⟨g, j, none⟩ = false := by
  subst hm
  obtain ⟨A, c', e, -, -⟩ := h.form
  injection e with e1 e2 e3
  subst e2
  have hl : (X ++ x :: Z).length = X.length + Z.length + 1 := by simp; omega
  have hf : ∀ j, j < 4 → ((X ++ x :: Z).flatMap insC)[X.length * 4 + j]? = (insC x)[j]? := by
    intro j hj
    have := flat_at insC_len (X ++ x :: Z) X.length (by omega) j hj
    rw [this]
    simp
  refine ⟨?_, ?_, fun j => h.own.frozenAt j⟩
  · rw [h.own.cellAt _ (by omega), hf 2 (by decide)]; rfl
  · rw [h.own.cellAt _ (by omega), hf 3 (by decide)]; rfl
end
end Go.Proofs.YtmbibaccpeldoaaGreatDoor.W15
