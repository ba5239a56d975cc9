/-
  Texts joined, in build order, each with its own comment and its own conditions: W15Seq, W15Patch, W15RefSeq, W15RefAlt.
-/
import Derived.Test.YtmbibaccpeldoaaGreatDoorJ12
import Derived.Test.YtmbibaccpeldoaaGreatDoorJ07
import Derived.Deep.LoopGhost
import Derived.Test.YtmbibaccpeldoaaGreatDoorJ09
import Derived.Deep.Onto
/-
  Layer 15 (prog), walk of the layer's seq: kids one behind the other; kids below a block. The conditions stand in the statements.
-/
namespace Go.Proofs.YtmbibaccpeldoaaGreatDoor.M15
set_option maxRecDepth 100000
open Go Go.Proofs.YtmbibaccpeldoaaGreatDoor.M14
theorem seqs_snoc {ks : List Piece} : ∀ (l : List Piece) (p : Piece) (a : Nat), (∀ q, q ∈ l → q ∈ ks) → (∀ q, q ∈ ks → ∀ a, (steps q a).length = size q) → seqs (l ++ [p]) a = seqs l a ++ steps p (a + sizes l)
  | [], p, a, _, _ => by simp [seqs, sizes]
  | q :: l, p, a, hm, hs => by
    rw [List.cons_append, seqs, seqs, seqs_snoc l p (a + size q) (fun r hr => hm r (by simp [hr])) hs, List.append_assoc]
    rw [show sizes (q :: l) = size q + sizes l by simp only [sizes], Nat.add_assoc]
theorem sizes_take_le (ks : List Piece) (i : Nat) : sizes (ks.take i) ≤ sizes ks := by
  have := sizes_append (ks.take i) (ks.drop i)
  rw [List.take_append_drop] at this
  omega
theorem sizes_next {ks : List Piece} {i : Nat} (hi : i < ks.length) : sizes (ks.take (i + 1)) = sizes (ks.take i) + size ks[i] := by
  rw [List.take_succ_eq_append_getElem hi, sizes_append]
  simp only [sizes, Nat.add_zero]
theorem seqs_next {ks : List Piece} (hs : ∀ q, q ∈ ks → ∀ a, (steps q a).length = size q) {i : Nat} (hi : i < ks.length) (a : Nat) : seqs (ks.take (i + 1)) a = seqs (ks.take i) a ++ steps ks[i] (a + sizes (ks.take i)) := by
  rw [List.take_succ_eq_append_getElem hi]
  exact seqs_snoc _ _ _ (fun q hq => List.mem_of_mem_take hq) hs
theorem seqs_take_len {ks : List Piece} (hs : ∀ q, q ∈ ks → ∀ a, (steps q a).length = size q) (i a : Nat) : (seqs (ks.take i) a).length = sizes (ks.take i) := seqs_len (fun q hq => hs q (List.mem_of_mem_take hq)) a
end Go.Proofs.YtmbibaccpeldoaaGreatDoor.M15
namespace Go.Proofs.YtmbibaccpeldoaaGreatDoor.W15
open Go Go.RowKit Go.Proofs.YtmbibaccpeldoaaGreatDoor.Strs Go.Proofs.YtmbibaccpeldoaaGreatDoor.Recs Go.Proofs.YtmbibaccpeldoaaGreatDoor.M15
open Go.Proofs.YtmbibaccpeldoaaGreatDoor.M14 (Piece size sizes)
open Go.Proofs.YtmbibaccpeldoaaGreatDoor.W14 (Raw Raws rawA rawC PAt PAll PBox below_new cell_block own_same own_form box_arg load_piece run_load_op load_at alloc_piece store_piece two_new raws_keep)
open Go.Proofs.YtmbibaccpeldoaaGreatDoor.Row256 (Beside)
open Go.Proofs.YtmbibaccpeldoaaGreatDoor.Kit (below_draws on)

/-- a piece's kids in memory, all below block b -/
def KidsU (b : Nat) (w : World) (A : Option Addr) (c : Nat) (raws : List Raw) (ks : List Piece) : Prop :=
  (∃ B, Raws B w (.slice A ks.length c) raws) ∧ (∀ ad, A = some ad → 0 < raws.length → ad.block < b) ∧ PAll (fun k => k < b) w raws ks
section
variable {w w' : World} {b : Nat} {A : Option Addr} {c : Nat} {raws : List Raw} {ks : List Piece}
theorem parts_under {r : Raw} {k : Int} {t : ByteArray} {l tp : Int} (h : PAt (fun k => k < b) w r (.mk k t ks l tp)) : ∃ A c raws, r = ⟨k, t, A, ks.length, c, l, tp⟩ ∧ KidsU b w A c raws ks := by
  cases h with
  | mk _ _ A n c _ _ raws _ B h hX hl hk =>
    have hn : n = ks.length := by
      obtain ⟨A', c', e, -⟩ := h
      injection e with e1 e2 e3
      omega
    subst hn
    exact ⟨A, c, raws, rfl, ⟨B, h⟩, hX, hl, hk⟩
theorem KidsU.keep (h : KidsU b w A c raws ks) (hk : ∀ k, k < b → w'.heap[k]? = w.heap[k]?) : KidsU b w' A c raws ks := by
  obtain ⟨⟨B, h1⟩, h2, h3⟩ := h
  exact ⟨⟨B, raws_keep h1 fun ad e hn p hp => cell_block (hk _ (by rw [hp]; exact h2 ad e hn))⟩, h2, h3.keep (fun _ q => q) fun _ q => cell_block (hk _ q)⟩
theorem KidsU.kids (h : KidsU b w A c raws ks) (hb : b ≤ w.heap.size) : W14.Kids w A c raws ks :=
  ⟨h.1, fun ad e hn => Nat.lt_of_lt_of_le (h.2.1 ad e hn) hb, h.2.2.keep (fun _ q => Nat.lt_of_lt_of_le q hb) fun _ _ => rfl⟩
theorem KidsU.kid (h : KidsU b w A c raws ks) {i : Nat} (hi : i < ks.length) : ∃ hr : i < raws.length, PAt (fun k => k < b) w raws[i] ks[i] := by
  obtain ⟨-, -, h3, h4⟩ := h
  exact ⟨by omega, h4 i (by omega) hi⟩
theorem KidsU.grow {v v' : Value} {L : List Inst} (h : KidsU b w A c raws ks) (hl : Lay w b v L) (hg : Grow b v v' w w') : KidsU b w' A c raws ks := h.keep fun _ q => hg.keeps hl q
theorem KidsU.below (h : KidsU b w A c raws ks) (hb : b < w.heap.size) (hg : Below w.heap.size w w') : KidsU b w' A c raws ks := h.keep fun _ q => hg.block _ (Nat.lt_trans q hb)
end
/-- lay lays a piece's steps -/
def LayOk (p : Piece) : Prop := ∀ (w : World) (b : Nat) (v : Value) (L : List Inst) (r : Raw), Lay w b v L → PAt (fun k => k < b) w r p → L.length + size p ≤ 4000 →
  Calls Tryz.prog 18 #[.pointer (some ⟨b, 0, none⟩), .agg (rawA r)] w (Laid b v w (L ++ steps p L.length))
set_option maxHeartbeats 4000000 in
theorem seq_any {ks : List Piece} (IH : ∀ i (hi : i < ks.length), LayOk ks[i]) (hs : ∀ q, q ∈ ks → ∀ a, (steps q a).length = size q) {w : World} {b : Nat} {v : Value} {L : List Inst} {k : Int} {t : ByteArray} {A : Option Addr} {c : Nat} {m tp : Int} {raws : List Raw} (h : Lay w b v L) (k1 : KidsU b w A c raws ks) (hl : L.length + sizes ks ≤ 4000) :
    Calls Tryz.prog 35 #[.pointer (some ⟨b, 0, none⟩), .agg (rawA ⟨k, t, A, ks.length, c, m, tp⟩)] w (Laid b v w (L ++ seqs ks L.length)) := by
  have H := Lib.hid h
  have HI := Lib.hid IH
  have HS := Lib.hid hs
  have K1 := Lib.hid k1
  have HR := Lib.hid (k1.kids (Nat.le_of_lt h.box.lt)).room
  have HL := Lib.hid hl
  have hr1 := HR.out.1
  have hr2 := HR.out.2
  clear h IH hs k1 hl
  go_enter Tryz.func35, Tryz.ntmps35
  go_wp2_with (first
    | (refine box_arg (r := ⟨k, t, A, ks.length, c, m, tp⟩) rfl (.tmp 1) rfl rfl ?_; intro w1 b1 e1 p1 l1 z1; have a2 := p1.c2; have L1 := Lib.hid l1; clear e1 p1 l1 z1; simp only at a2))
  have H1 := Lib.hid (H.out.below L1.out)
  have K2 := Lib.hid (K1.out.below H.out.box.lt L1.out)
  clear a2 hr1 hr2
  go_loopg [9] ks.length (fun gk s9 wr => ∃ (i : Nat) (v1 : Value), s9 = .int .i64 i ∧ Hid (i + gk = ks.length) ∧ Hid (Lay wr b v1 (L ++ seqs (ks.take i) L.length)) ∧ Hid (KidsU b wr A c raws ks) ∧ Hid (Grow b v v1 w wr))
  case atStart => exact ⟨0, v, rfl, by unfold Hid; omega, by unfold Hid; simp only [List.take_zero, seqs, List.append_nil]; exact H1.out, K2, Grow.of L1.out⟩
  case round =>
    obtain ⟨i, v1, rfl, hig, HL1, KK, GG⟩ := hrel
    have hn1 := HR.out.1
    have hn2 := HR.out.2
    by_cases hi : i < ks.length
    · have ti : (i : Int) < (ks.length : Int) := by omega
      have hlt := HL1.out.box.lt
      obtain ⟨g1, o1, rfl, C1⟩ := (KK.out.kids (Nat.le_of_lt hlt)).at_ (Nat.lt_of_le_of_lt (Nat.zero_le _) hi)
      obtain ⟨hr1, q1⟩ := KK.out.kid hi
      have E1 := Lib.hid (C1 i hr1)
      have Q1 := Lib.hid q1
      have HI2 := Lib.hid hi
      obtain ⟨rk, hrk⟩ : ∃ rk, raws[i]'hr1 = rk := ⟨_, rfl⟩
      rw [hrk] at E1 Q1
      have HC : Hid (∀ (w : World) (v : Value), Lay w b v (L ++ seqs (ks.take i) L.length) → PAt (fun k => k < b) w rk ks[i] → Calls Tryz.prog 18 #[.pointer (some ⟨b, 0, none⟩), .agg (rawA rk)] w (Laid b v w (L ++ seqs (ks.take (i + 1)) L.length))) := by
        intro w v h1 h2
        have hz : (L ++ seqs (ks.take i) L.length).length = L.length + sizes (ks.take i) := by rw [List.length_append, seqs_take_len HS.out]
        have := HI.out i hi w b v _ rk h1 h2 (by have h3 := sizes_next hi; have h4 := sizes_take_le ks (i + 1); have := HL.out; omega)
        rw [hz] at this
        rw [seqs_next HS.out hi, ← List.append_assoc]
        exact this
      have hwi : Hid (wrap64 ((i : Int) + 1) = ((i + 1 : Nat) : Int)) := by unfold Hid wrap64; omega
      have HT := Lib.hid hlt
      clear C1 q1 hrk hlt
      go_wp2_with (first
        | (refine load_at rfl (.tmp 11) rfl rfl (r := rk) E1.out ?_)
        | (refine alloc_piece rfl rfl ?_; intro w3 b3 e3 p3 l3 z3)
        | (refine store_piece (r := rk) rfl (.tmp 5) (.tmp 12) rfl rfl rfl p3 ?_; intro w4 p4 l4 z4; have L4 := Lib.hid (two_new l3 l4 e3); have P4 := Lib.hid p4; clear e3 p3 l3 z3 p4 l4 z4)
        | (refine load_piece (r := rk) rfl (.tmp 5) rfl rfl P4.out ?_))
      have H4 := Lib.hid (HL1.out.below L4.out)
      have K4 := Lib.hid (KK.out.below HT.out L4.out)
      refine (HC.out _ _ H4.out (below_piece L4.out HT.out Q1.out)).mono ?_
      rintro e w5 ⟨rfl, v2, h5, g5⟩
      have H5 := Lib.hid h5
      have K5 := Lib.hid (K4.out.grow H4.out g5)
      have G5 := Lib.hid (GG.out.trans ((Grow.of L4.out).trans g5))
      clear h5 g5
      cases gk with
      | zero => exact absurd hig.out (by have := HI2.out; omega)
      | succ g =>
        go_wp2_with fail
        go_roundg g
        case measure => omega
        case rel => exact ⟨i + 1, v2, by first | rfl | exact congrArg (Value.int .i64) hwi.out, by have := hig.out; unfold Hid; omega, H5, K5, G5⟩
    · have ti : ¬ (i : Int) < (ks.length : Int) := by omega
      have hie : i = ks.length := by have := hig.out; omega
      have HL2 : Hid (Lay wr b v1 (L ++ seqs ks L.length)) := by have := HL1.out; rw [hie, List.take_length] at this; exact this
      clear hie
      go_wp2_with fail
      go_end0
      exact ⟨rfl, v1, HL2.out, GG.out⟩
end Go.Proofs.YtmbibaccpeldoaaGreatDoor.W15
/-
  Layer 15 (prog): alternatives in plain mathematics (where the jumps are that are set at the end); a field of a step that lies in the layer is set; numbers kept beside the layer. The conditions stand in the statements.
-/
namespace Go.Proofs.YtmbibaccpeldoaaGreatDoor.M15
open Go Go.Proofs.YtmbibaccpeldoaaGreatDoor.M14
/-- the kids of an alternative but the last one: their jumps go to j -/
def pre : List Piece → Nat → Nat → List Inst
  | [], _, _ => []
  | p :: l, a, j => split (a + 1) (a + size p + 2) :: (steps p (a + 1) ++ jump j :: pre l (a + size p + 2) j)
/-- where the jumps are -/
def spots : List Piece → Nat → List Nat
  | [], _ => []
  | p :: l, a => (a + size p + 1) :: spots l (a + size p + 2)
def plen (l : List Piece) : Nat := sizes l + 2 * l.length
theorem plen_cons (p : Piece) (l : List Piece) : plen (p :: l) = size p + 2 + plen l := by
  unfold plen
  rw [show sizes (p :: l) = size p + sizes l by simp only [sizes], List.length_cons]; omega
theorem pre_len {ks : List Piece} (hs : ∀ q, q ∈ ks → ∀ a, (steps q a).length = size q) (j : Nat) : ∀ (l : List Piece) (a : Nat), (∀ q, q ∈ l → q ∈ ks) → (pre l a j).length = plen l
  | [], a, _ => by simp [pre, plen, sizes]
  | p :: l, a, hm => by
    rw [pre, List.length_cons, List.length_append, List.length_cons, hs p (hm p (by simp)), pre_len hs j l _ (fun q hq => hm q (by simp [hq])), plen_cons]; omega
theorem pre_append (j : Nat) : ∀ (l m : List Piece) (a : Nat), pre (l ++ m) a j = pre l a j ++ pre m (a + plen l) j
  | [], m, a => by simp [pre, plen, sizes]
  | p :: l, m, a => by
    rw [List.cons_append, pre, pre, pre_append j l m, plen_cons, show a + size p + 2 + plen l = a + (size p + 2 + plen l) by omega]
    simp only [List.cons_append, List.append_assoc]
theorem spots_len : ∀ (l : List Piece) (a : Nat), (spots l a).length = l.length
  | [], _ => rfl
  | p :: l, a => by rw [spots, List.length_cons, List.length_cons, spots_len l]
theorem spots_append : ∀ (l m : List Piece) (a : Nat), spots (l ++ m) a = spots l a ++ spots m (a + plen l)
  | [], m, a => by simp [spots, plen, sizes]
  | p :: l, m, a => by
    rw [List.cons_append, spots, spots, spots_append l m, plen_cons, show a + size p + 2 + plen l = a + (size p + 2 + plen l) by omega]; rfl
theorem alts_pre (q : Piece) : ∀ (l : List Piece) (a e : Nat), alts (l ++ [q]) a e = pre l a e ++ steps q (a + plen l)
  | [], a, e => by rw [List.nil_append, alts_1]; simp [pre, plen, sizes]
  | [p], a, e => by
    rw [List.cons_append, List.nil_append, alts_2, alts_1, plen_cons]
    simp only [pre, List.cons_append, List.append_assoc, List.nil_append]
    rw [show plen [] = 0 from rfl, show a + size p + 2 = a + (size p + 2 + 0) by omega]
  | p :: r :: l, a, e => by
    have := alts_pre q (r :: l) (a + size p + 2) e
    rw [List.cons_append] at this
    rw [List.cons_append, List.cons_append, alts_2, this, plen_cons p, show a + size p + 2 + plen (r :: l) = a + (size p + 2 + plen (r :: l)) by omega]
    show _ = (split (a + 1) (a + size p + 2) :: (steps p (a + 1) ++ jump e :: pre (r :: l) (a + size p + 2) e)) ++ _
    simp only [List.cons_append, List.append_assoc]
theorem take_one {ks : List Piece} {i n : Nat} (hi : i < n) (hn : n ≤ ks.length) : ∃ q, q ∈ ks ∧ (∃ h : i < ks.length, ks[i] = q) ∧ (ks.take n).take (i + 1) = (ks.take n).take i ++ [q] ∧ (ks.take n).drop i = q :: (ks.take n).drop (i + 1) := by
  have h1 : i < (ks.take n).length := by rw [List.length_take]; omega
  refine ⟨(ks.take n)[i], List.mem_of_mem_take (List.getElem_mem h1), ⟨by omega, (List.getElem_take).symm⟩, List.take_succ_eq_append_getElem h1, List.drop_eq_getElem_cons h1⟩
end Go.Proofs.YtmbibaccpeldoaaGreatDoor.M15
namespace Go.Proofs.YtmbibaccpeldoaaGreatDoor.W15
open Go Go.RowKit Go.Proofs.YtmbibaccpeldoaaGreatDoor.Strs Go.Proofs.YtmbibaccpeldoaaGreatDoor.Recs Go.Proofs.YtmbibaccpeldoaaGreatDoor.M15
open Go.Proofs.YtmbibaccpeldoaaGreatDoor.M14 (Piece size sizes)
open Go.Proofs.YtmbibaccpeldoaaGreatDoor.W14 (cell_block own_form)

theorem own_block_same {base : Nat} {e : TypeId} {size n : Nat} {v : Value} {xs : List Value} {w w' : World} (h : w.ownsRow base e size v n xs) (hk : ∀ k, v.ownBlock = some k → w'.heap[k]? = w.heap[k]?) : w'.ownsRow base e size v n xs := by
  refine ⟨h.1, ?_⟩
  rcases h.2 with h0 | ⟨g, cap, cur, e1, hb, hh, rest⟩
  · exact Or.inl h0
  · subst e1
    exact Or.inr ⟨g, cap, cur, rfl, hb, (hk g rfl).trans hh, rest⟩
theorem own_type {base : Nat} {e : TypeId} {size n : Nat} {v : Value} {xs : List Value} {w : World} (h : w.ownsRow base e size v n xs) {k : Nat} (hk : v.ownBlock = some k) : ∃ cur, w.heap[k]? = some (.cells cur e (0, 0)) := by
  rcases h.2 with ⟨rfl, _⟩ | ⟨g, cap, cur, rfl, hb, hh, rest⟩
  · cases hk
  · cases hk
    exact ⟨cur, hh⟩
theorem own_two {base base' : Nat} {e e' : TypeId} {size size' n n' : Nat} {v v' : Value} {xs xs' : List Value} {w : World} (h : w.ownsRow base e size v n xs) (h' : w.ownsRow base' e' size' v' n' xs') (he : e ≠ e') {k : Nat} (hk : v.ownBlock = some k) : v'.ownBlock ≠ some k := by
  intro q
  obtain ⟨c, h1⟩ := own_type h hk
  obtain ⟨c', h2⟩ := own_type h' q
  rw [h1] at h2
  injection h2 with h2
  injection h2 with _ h2
  exact he h2
/-- numbers in a row of the caller's own -/
def Nums (base : Nat) (w : World) (v : Value) (M : List Nat) : Prop := w.ownsRow base 3 1 v M.length (M.flatMap numC)
section
variable {w w' : World} {b base : Nat} {v v' vj vj' : Value} {L : List Inst} {M : List Nat}
theorem Nums.nil (base : Nat) (w : World) : Nums base w (.slice none 0 0) [] := World.ownsRow_nil _ _ _ _
theorem Nums.below (h : Nums base w vj M) (hb : Below w.heap.size w w') : Nums base w' vj M := own_block_same h fun k hk => hb.block k (h.lt k hk).2
theorem Nums.apart (h : Nums base w vj M) (hl : Lay w b v L) {k : Nat} (hk : vj.ownBlock = some k) : v.ownBlock ≠ some k := own_two h hl.own (by decide) hk
theorem Nums.grow (h : Nums base w vj M) (hl : Lay w b v L) (hb : b < base) (hg : Grow b v v' w w') : Nums base w' vj M :=
  own_block_same h fun k hk => hg.block k (h.lt k hk).2 (by have := (h.lt k hk).1; omega) (h.apart hl hk)
theorem Lay.put_nums (hl : Lay w b v L) (h : Nums base w vj M) (hb : b < base) (hp : Put vj vj' w w') : Lay w' b v L := by
  obtain ⟨g1, g2, g3, g4, g5⟩ := hp.grown
  refine ⟨(g5 b hl.box.lt (fun q => by have := (h.lt b q.symm).1; omega)).trans hl.box, own_block_same hl.own fun k hk => g5 k (hl.own_gt k hk).2 (fun q => h.apart hl q.symm hk)⟩
theorem Nums.recs (h : Nums base w vj M) : Recs numC 1 w.heap.size w vj M := Recs.of_own numC_len rfl h
theorem KidsU.put {A : Option Addr} {c : Nat} {raws : List W14.Raw} {ks : List Piece} (hk : KidsU b w A c raws ks) (h : Nums base w vj M) (hb : b < base) (hw : b < w.heap.size) (hp : Put vj vj' w w') : KidsU b w' A c raws ks := by
  obtain ⟨g1, g2, g3, g4, g5⟩ := hp.grown
  exact hk.keep fun k q => g5 k (Nat.lt_trans q hw) (fun q2 => by have := (h.lt k q2.symm).1; omega)
end
/-! a field of a step -/
theorem flat_set (x : Inst) (j : Nat) (u : Value) (y : Inst) (hj : j < 4) (hy : (insC x).set j u = insC y) (X Z : List Inst) : ((X ++ x :: Z).flatMap insC).set (X.length * 4 + j) u = (X ++ y :: Z).flatMap insC := by
  rw [List.flatMap_append, List.flatMap_append, List.flatMap_cons, List.flatMap_cons]
  have hl := flat_len insC_len X
  rw [List.set_append_right _ _ (by omega), hl, show X.length * 4 + j - X.length * 4 = j by omega, List.set_append_left _ _ (by rw [insC_len]; exact hj), hy]
section
variable {w : World} {b g c n : Nat} {X Z : List Inst} {x : Inst}
theorem Lay.set_ {j : Nat} {u : Value} {y : Inst} (hj : j < 4) (hy : (insC x).set j u = insC y) (h : Lay w b (.slice (some ⟨g, 0, none⟩) n c) (X ++ x :: Z)) :
    Lay (w.setCell ⟨g, X.length * 4 + j, none⟩ u) b (.slice (some ⟨g, 0, none⟩) n c) (X ++ y :: Z) ∧ Grow b (.slice (some ⟨g, 0, none⟩) n c) (.slice (some ⟨g, 0, none⟩) n c) w (w.setCell ⟨g, X.length * 4 + j, none⟩ u) := by
  have hgb := (h.own_gt g rfl).1
  obtain ⟨A, c', e, -, -⟩ := h.form
  injection e with e1 e2 e3
  subst e2
  have hs := h.own.stored (X.length * 4 + j) u
  rw [flat_set x j u y hj hy] at hs
  refine ⟨⟨(heap_setCell_other w _ b _ (show b ≠ g by omega)).trans h.box, ?_⟩, ⟨rfl, rfl, rfl, by rw [World.size_setCell]; exact Nat.le_refl _, fun k _ _ e2 => heap_setCell_other w _ k _ (show k ≠ g from fun q => e2 (by rw [q]; rfl)), fun k hk => Or.inl hk⟩⟩
  have hl : (X ++ y :: Z).length = (X ++ x :: Z).length := by simp
  rw [hl]
  exact hs.1
theorem Lay.set2 (h : Lay w b (.slice (some ⟨g, 0, none⟩) n c) (X ++ x :: Z)) (u : Int) :
    Lay (w.setCell ⟨g, X.length * 4 + 2, none⟩ (.int .i64 u)) b (.slice (some ⟨g, 0, none⟩) n c) (X ++ { x with x := u } :: Z) ∧ Grow b (.slice (some ⟨g, 0, none⟩) n c) (.slice (some ⟨g, 0, none⟩) n c) w (w.setCell ⟨g, X.length * 4 + 2, none⟩ (.int .i64 u)) := h.set_ (x := x) (y := { x with x := u }) (by decide) rfl
theorem Lay.set3 (h : Lay w b (.slice (some ⟨g, 0, none⟩) n c) (X ++ x :: Z)) (u : Int) :
    Lay (w.setCell ⟨g, X.length * 4 + 3, none⟩ (.int .i64 u)) b (.slice (some ⟨g, 0, none⟩) n c) (X ++ { x with y := u } :: Z) ∧ Grow b (.slice (some ⟨g, 0, none⟩) n c) (.slice (some ⟨g, 0, none⟩) n c) w (w.setCell ⟨g, X.length * 4 + 3, none⟩ (.int .i64 u)) := h.set_ (x := x) (y := { x with y := u }) (by decide) rfl
/-- what a field of a step is -/
theorem Lay.field {m : Nat} (h : Lay w b (.slice (some ⟨g, 0, none⟩) n c) (X ++ x :: Z)) (hm : X.length = m) : w.cell? ⟨g, m * 4 + 2, none⟩ = some (.int .i64 x.x) ∧ w.cell? ⟨g, m * 4 + 3, none⟩ = some (.int .i64 x.y) ∧ ∀ j, w.frozen? ⟨g, j, none⟩ = false := by
  subst hm
  obtain ⟨A, c', e, -, -⟩ := h.form
  injection e with e1 e2 e3
  subst e2
  have hl : (X ++ x :: Z).length = X.length + Z.length + 1 := by simp; omega
  have hf : ∀ j, j < 4 → ((X ++ x :: Z).flatMap insC)[X.length * 4 + j]? = (insC x)[j]? := by
    intro j hj
    have := flat_at insC_len (X ++ x :: Z) X.length (by omega) j hj
    rw [this]
    simp
  refine ⟨?_, ?_, fun j => h.own.frozenAt j⟩
  · rw [h.own.cellAt _ (by omega), hf 2 (by decide)]; rfl
  · rw [h.own.cellAt _ (by omega), hf 3 (by decide)]; rfl
end
end Go.Proofs.YtmbibaccpeldoaaGreatDoor.W15
/-
  Layer 15 (prog), walk of the document's Steps: what is kept as steps are put together; a piece of one step, kids one behind the other. The conditions stand in the statements.
-/
namespace Go.Proofs.YtmbibaccpeldoaaGreatDoor.W15
set_option maxRecDepth 100000
open Go Go.RowKit Go.Proofs.YtmbibaccpeldoaaGreatDoor.Strs Go.Proofs.YtmbibaccpeldoaaGreatDoor.Recs Go.Proofs.YtmbibaccpeldoaaGreatDoor.M15
open Go.Proofs.YtmbibaccpeldoaaGreatDoor.M14 (Piece size sizes)
open Go.Proofs.YtmbibaccpeldoaaGreatDoor.W14 (Raw Raws rawA rawC PAt PAll PBox PLow box_arg load_piece load_at cell_block)
open Go.Proofs.YtmbibaccpeldoaaGreatDoor.Kit (below_draws on)

/-- steps come out, in a row of the call's own -/
def Gets (w : World) (P : List Inst) (e : Ending) (w' : World) : Prop := ∃ v, e = .returned v ∧ w'.ownsRow w.heap.size 40 4 v P.length (P.flatMap insC) ∧ Below w.heap.size w w'
/-- the document's Steps of a piece -/
def RSt (p : Piece) : Prop := ∀ (w : World) (r : Raw) (a : Nat), PLow w r p → size p ≤ 4000 → a + size p ≤ 8000 → Calls Tryz.prog 20 #[.agg (rawA r), .int .i64 a] w (Gets w (steps p a))
/-- what stands while steps are put together -/
structure St (w0 w : World) (b1 : Nat) (r : Raw) (vo : Value) (L : List Inst) : Prop where
  own : w.ownsRow w0.heap.size 40 4 vo L.length (L.flatMap insC)
  box : PBox w b1 r
  low : Below w0.heap.size w0 w
section
variable {w0 w w' : World} {b1 : Nat} {r : Raw} {vo v' : Value} {L M : List Inst}
theorem St.below (h : St w0 w b1 r vo L) (hb : Below w.heap.size w w') : St w0 w' b1 r vo L :=
  ⟨own_block_same h.own fun k hk => hb.block k (h.own.lt k hk).2, h.box.below hb, h.low.trans (hb.mono h.low.size)⟩
theorem pbox_put {base c : Nat} (hp : PBox w c r) (h : w.ownsRow base 40 4 vo L.length (L.flatMap insC)) (hg : Put vo v' w w') : PBox w' c r := by
  obtain ⟨-, -, -, -, g5⟩ := hg.grown
  refine (g5 c hp.lt fun q => ?_).trans hp
  obtain ⟨cur, h1⟩ := own_type h q.symm
  have h2 : w.heap[c]? = _ := hp
  rw [h1] at h2
  injection h2 with h2
  injection h2 with _ h2
  exact absurd h2 (by decide)
theorem St.put (h : St w0 w b1 r vo L) (ho : w'.ownsRow w0.heap.size 40 4 v' (L ++ M).length ((L ++ M).flatMap insC)) (hp : Put vo v' w w') : St w0 w' b1 r v' (L ++ M) := by
  have g := hp.grown
  refine ⟨ho, pbox_put h.box h.own hp, h.low.trans ⟨g.os, g.tape, g.output, g.size, fun k hk => g.block k (Nat.lt_of_lt_of_le hk h.low.size) fun q => ?_⟩⟩
  have := (h.own.lt k q.symm).1
  omega
theorem St.form (h : St w0 w b1 r vo L) : ∃ A c, vo = .slice A L.length c ∧ L.length ≤ c ∧ c ≤ 9223372036854775807 := by
  obtain ⟨A, c, e, h1, h2⟩ := (Recs.of_own insC_len rfl h.own).form
  unfold maxLen at h2
  exact ⟨A, c, e, h1, h2⟩
theorem St.gets (h : St w0 w b1 r vo L) : Gets w0 L (.returned vo) w := ⟨vo, rfl, h.own, h.low⟩
theorem St.start (hb : PBox w b1 r) (hl : Below w0.heap.size w0 w) : St w0 w b1 r (.slice none 0 0) [] := ⟨World.ownsRow_nil _ _ _ _, hb, hl⟩
end
theorem kids_now {w0 w : World} {A : Option Addr} {c : Nat} {raws : List Raw} {ks : List Piece} (h : W14.Kids w0 A c raws ks) (hl : Below w0.heap.size w0 w) : W14.Kids w A c raws ks := h.below hl
theorem size_of {p : Piece} (h : M15.Good p) (w : World) (r : Raw) (hl : PLow w r p) : Calls Tryz.prog 12 #[.agg (rawA r)] w fun e w' => e = .returned (.int .i64 (size p)) ∧ Below w.heap.size w w' :=
  (rgsize_any p w r hl).mono fun e w' q => by
    have := q.1
    rw [gsize_eq h] at this
    exact ⟨this, q.2⟩
set_option maxHeartbeats 4000000 in
theorem rst_leaf {k : Int} (hk : 1 ≤ k ∧ k ≤ 6) (t : ByteArray) : RSt (M14.leaf k t) := by
  intro w r a h _ ha
  rw [steps_leaf hk]
  unfold M14.leaf at h
  obtain ⟨A, c, raws, rfl, k1⟩ := h.parts
  have hw : wrap64 ((a : Int) + 1) = ((a + 1 : Nat) : Int) := by unfold wrap64; omega
  obtain ⟨n, hn⟩ : ∃ n, a + 1 = n := ⟨_, rfl⟩
  unfold one
  rw [hn] at hw ⊢
  clear h k1 ha hn
  simp only [List.length_nil]
  have : k = 1 ∨ k = 2 ∨ k = 3 ∨ k = 4 ∨ k = 5 ∨ k = 6 := by omega
  clear hk
  rcases this with rfl | rfl | rfl | rfl | rfl | rfl
  · rw [if_pos rfl]
    go_enter Tryz.func20, Tryz.ntmps20
    go_wp2_with (first
      | (refine box_arg (r := ⟨1, t, A, 0, c, 0, 0⟩) rfl (.tmp 0) rfl rfl ?_; intro w1 b1 e1 p1 l1 z1; have P1 := Lib.hid p1; have a0 := p1.c0; have L1 := Lib.hid l1; clear e1 p1 l1 z1; simp only at a0))
    go_ret
    exact (St.start P1.out L1.out).gets
  · have hone : (if (2 : Int) = 1 then ([] : List Inst) else [(⟨2 - 1, if (2 : Int) = 2 ∨ (2 : Int) = 4 then t else no, (n : Nat), 0⟩ : Inst)]) = [⟨1, t, (n : Nat), 0⟩] := rfl
    rw [hone]
    clear hone
    go_enter Tryz.func20, Tryz.ntmps20
    go_wp2_with (first
      | (refine box_arg (r := ⟨2, t, A, 0, c, 0, 0⟩) rfl (.tmp 0) rfl rfl ?_; intro w1 b1 e1 p1 l1 z1; have a0 := p1.c0; have a1 := p1.c1; have L1 := Lib.hid l1; clear e1 p1 l1 z1; simp only at a0 a1)
      | (refine slice_ins (r := ⟨1, t, (n : Nat), 0⟩) rfl (.tmp 23) rfl rfl ?_; intro w2 b2 e2 p2 l2 z2 o2; have L2 := Lib.hid l2; have O2 := Lib.hid o2; clear e2 p2 l2 z2 o2))
    go_ret
    exact ⟨_, rfl, O2.out.mono L1.out.size, on L1.out L2.out⟩
  · have hone : (if (3 : Int) = 1 then ([] : List Inst) else [(⟨3 - 1, if (3 : Int) = 2 ∨ (3 : Int) = 4 then t else no, (n : Nat), 0⟩ : Inst)]) = [⟨2, ⟨#[]⟩, (n : Nat), 0⟩] := rfl
    rw [hone]
    clear hone
    go_enter Tryz.func20, Tryz.ntmps20
    go_wp2_with (first
      | (refine box_arg (r := ⟨3, t, A, 0, c, 0, 0⟩) rfl (.tmp 0) rfl rfl ?_; intro w1 b1 e1 p1 l1 z1; have a0 := p1.c0; have a1 := p1.c1; have L1 := Lib.hid l1; clear e1 p1 l1 z1; simp only at a0 a1)
      | (refine slice_ins (r := ⟨2, ⟨#[]⟩, (n : Nat), 0⟩) rfl (.tmp 29) rfl rfl ?_; intro w2 b2 e2 p2 l2 z2 o2; have L2 := Lib.hid l2; have O2 := Lib.hid o2; clear e2 p2 l2 z2 o2))
    go_ret
    exact ⟨_, rfl, O2.out.mono L1.out.size, on L1.out L2.out⟩
  · have hone : (if (4 : Int) = 1 then ([] : List Inst) else [(⟨4 - 1, if (4 : Int) = 2 ∨ (4 : Int) = 4 then t else no, (n : Nat), 0⟩ : Inst)]) = [⟨3, t, (n : Nat), 0⟩] := rfl
    rw [hone]
    clear hone
    go_enter Tryz.func20, Tryz.ntmps20
    go_wp2_with (first
      | (refine box_arg (r := ⟨4, t, A, 0, c, 0, 0⟩) rfl (.tmp 0) rfl rfl ?_; intro w1 b1 e1 p1 l1 z1; have a0 := p1.c0; have a1 := p1.c1; have L1 := Lib.hid l1; clear e1 p1 l1 z1; simp only at a0 a1)
      | (refine slice_ins (r := ⟨3, t, (n : Nat), 0⟩) rfl (.tmp 37) rfl rfl ?_; intro w2 b2 e2 p2 l2 z2 o2; have L2 := Lib.hid l2; have O2 := Lib.hid o2; clear e2 p2 l2 z2 o2))
    go_ret
    exact ⟨_, rfl, O2.out.mono L1.out.size, on L1.out L2.out⟩
  · have hone : (if (5 : Int) = 1 then ([] : List Inst) else [(⟨5 - 1, if (5 : Int) = 2 ∨ (5 : Int) = 4 then t else no, (n : Nat), 0⟩ : Inst)]) = [⟨4, ⟨#[]⟩, (n : Nat), 0⟩] := rfl
    rw [hone]
    clear hone
    go_enter Tryz.func20, Tryz.ntmps20
    go_wp2_with (first
      | (refine box_arg (r := ⟨5, t, A, 0, c, 0, 0⟩) rfl (.tmp 0) rfl rfl ?_; intro w1 b1 e1 p1 l1 z1; have a0 := p1.c0; have a1 := p1.c1; have L1 := Lib.hid l1; clear e1 p1 l1 z1; simp only at a0 a1)
      | (refine slice_ins (r := ⟨4, ⟨#[]⟩, (n : Nat), 0⟩) rfl (.tmp 43) rfl rfl ?_; intro w2 b2 e2 p2 l2 z2 o2; have L2 := Lib.hid l2; have O2 := Lib.hid o2; clear e2 p2 l2 z2 o2))
    go_ret
    exact ⟨_, rfl, O2.out.mono L1.out.size, on L1.out L2.out⟩
  · have hone : (if (6 : Int) = 1 then ([] : List Inst) else [(⟨6 - 1, if (6 : Int) = 2 ∨ (6 : Int) = 4 then t else no, (n : Nat), 0⟩ : Inst)]) = [⟨5, ⟨#[]⟩, (n : Nat), 0⟩] := rfl
    rw [hone]
    clear hone
    go_enter Tryz.func20, Tryz.ntmps20
    go_wp2_with (first
      | (refine box_arg (r := ⟨6, t, A, 0, c, 0, 0⟩) rfl (.tmp 0) rfl rfl ?_; intro w1 b1 e1 p1 l1 z1; have a0 := p1.c0; have a1 := p1.c1; have L1 := Lib.hid l1; clear e1 p1 l1 z1; simp only at a0 a1)
      | (refine slice_ins (r := ⟨5, ⟨#[]⟩, (n : Nat), 0⟩) rfl (.tmp 49) rfl rfl ?_; intro w2 b2 e2 p2 l2 z2 o2; have L2 := Lib.hid l2; have O2 := Lib.hid o2; clear e2 p2 l2 z2 o2))
    go_ret
    exact ⟨_, rfl, O2.out.mono L1.out.size, on L1.out L2.out⟩
set_option maxHeartbeats 4000000 in
theorem rst_seq {t : ByteArray} {ks : List Piece} {m tp : Int} (IH : ∀ i (hi : i < ks.length), RSt ks[i]) (hs : ∀ q, q ∈ ks → ∀ a, (steps q a).length = size q) {w : World} {r : Raw} {a : Nat} (h : PLow w r (.mk 7 t ks m tp)) (hz : sizes ks ≤ 4000) (ha : a + sizes ks ≤ 8000) :
    Calls Tryz.prog 20 #[.agg (rawA r), .int .i64 a] w (Gets w (seqs ks a)) := by
  obtain ⟨A, c, raws, rfl, k1⟩ := h.parts
  have HI := Lib.hid IH
  have HS := Lib.hid hs
  have HZ := Lib.hid hz
  have HA := Lib.hid ha
  have HR := Lib.hid k1.room
  have K0 := Lib.hid k1
  clear h k1 IH hs hz ha
  go_enter Tryz.func20, Tryz.ntmps20
  go_wp2_with (first
    | (refine box_arg (r := ⟨7, t, A, ks.length, c, m, tp⟩) rfl (.tmp 0) rfl rfl ?_; intro w1 b1 e1 p1 l1 z1; have a0 := p1.c0; have P1 := Lib.hid p1; have L1 := Lib.hid l1; clear e1 p1 l1 z1; simp only at a0))
  clear a0
  go_loopg [5, 6] ks.length (fun gk s5 s6 wr => ∃ (i : Nat) (vo : Value), s5 = vo ∧ s6 = .int .i64 i ∧ Hid (i + gk = ks.length) ∧ Hid (St w wr b1 ⟨7, t, A, ks.length, c, m, tp⟩ vo (seqs (ks.take i) a)))
  case atStart => exact ⟨0, .slice none 0 0, rfl, rfl, by unfold Hid; omega, by unfold Hid; simp only [List.take_zero, seqs]; exact .start P1.out L1.out⟩
  case round =>
    obtain ⟨i, vo, rfl, rfl, hig, SS⟩ := hrel
    have a2 := SS.out.box.c2
    simp only at a2
    have hn1 := HR.out.1
    have hn2 := HR.out.2
    by_cases hi : i < ks.length
    · have ti : (i : Int) < (ks.length : Int) := by omega
      have KK := kids_now K0.out SS.out.low
      obtain ⟨g1, o1, rfl, C1⟩ := KK.at_ (Nat.lt_of_le_of_lt (Nat.zero_le _) hi)
      obtain ⟨hr1, q1⟩ := KK.kid hi
      have E1 := Lib.hid (C1 i hr1)
      obtain ⟨rk, hrk⟩ : ∃ rk, raws[i]'hr1 = rk := ⟨_, rfl⟩
      rw [hrk] at E1 q1
      have hlen0 := seqs_take_len HS.out i a
      have hln := HS.out _ (List.getElem_mem hi)
      have hnx := sizes_next hi
      have hle := sizes_take_le ks (i + 1)
      have hz := HZ.out
      have hb := HA.out
      have HXX := fun S => seqs_next HS.out hi (a := S)
      have hIH := HI.out i hi wr rk
      obtain ⟨p, hp⟩ : ∃ p, ks[i]'hi = p := ⟨_, rfl⟩
      rw [hp] at hln hnx hIH HXX
      obtain ⟨N, hN⟩ : ∃ N, sizes (ks.take i) = N := ⟨_, rfl⟩
      rw [hN] at hlen0 hnx HXX
      obtain ⟨N2, hN2⟩ : ∃ N2, sizes (ks.take (i + 1)) = N2 := ⟨_, rfl⟩
      rw [hN2] at hnx hle
      obtain ⟨Z, hZ⟩ : ∃ Z, sizes ks = Z := ⟨_, rfl⟩
      rw [hZ] at hle hz hb
      obtain ⟨s, hs⟩ : ∃ s, size p = s := ⟨_, rfl⟩
      rw [hs] at hnx hln
      obtain ⟨S, hSa⟩ : ∃ S, a + N = S := ⟨_, rfl⟩
      have hIH2 := hIH S (hp ▸ q1)
      rw [hs] at hIH2
      clear hN hN2 hZ hs
      have hw : wrap64 ((a : Int) + (N : Int)) = (S : Int) := by clear hlen0 hln hIH hIH2 HXX; unfold wrap64; omega
      have HC := Lib.hid (hIH2 (by clear hlen0 hln hIH hIH2 HXX hw; omega) (by clear hlen0 hln hIH hIH2 HXX hw; omega))
      have HX : Hid (seqs (ks.take (i + 1)) a = seqs (ks.take i) a ++ steps p S) := by unfold Hid; rw [HXX a, hSa]
      have HL : Hid ((seqs (ks.take i) a).length + (steps p S).length ≤ 1000000) := by unfold Hid; rw [hlen0, hln S]; clear hlen0 hln hIH hIH2 HXX hw HC HX; omega
      obtain ⟨Ao, co, rfl, hco1, hco2⟩ := SS.out.form
      rw [hlen0] at hco1 SS ⊢
      have hwi : Hid (wrap64 ((i : Int) + 1) = ((i + 1 : Nat) : Int)) := by unfold Hid wrap64; omega
      have HI2 := Lib.hid hi
      have HCO := Lib.hid (show N ≤ co ∧ co ≤ 9223372036854775807 from ⟨hco1, hco2⟩)
      clear C1 q1 hrk hlen0 hln hnx hle hSa KK hz hb HXX hIH hIH2 hp hco1 hco2
      have hc3 := HCO.out.1
      have hc4 := HCO.out.2
      clear hi
      go_wp2_with (first | (refine load_at rfl (.tmp 64) rfl rfl (r := rk) E1.out ?_))
      refine HC.out.mono ?_
      rintro e w2 ⟨vs, rfl, o2, l2⟩
      have S2 := Lib.hid (SS.out.below l2)
      have R2 := Lib.hid (Recs.of_own insC_len rfl o2)
      clear o2 l2 a2 hw
      go_wp2_with (first
        | (refine append_ins rfl (.tmp 60) (.tmp 70) rfl rfl rfl S2.out.own R2.out HL.out S2.out.low.size ?_; intro v3 w3 o3 p3; have S3 := Lib.hid (S2.out.put o3 p3); clear o3 p3))
      rw [← HX.out] at S3
      cases gk with
      | zero => exact absurd hig.out (by have := HI2.out; omega)
      | succ g =>
        go_wp2_with fail
        go_roundg g
        case measure => omega
        case rel => exact ⟨i + 1, v3, rfl, by first | rfl | exact congrArg (Value.int .i64) hwi.out, by have := hig.out; unfold Hid; omega, S3⟩
    · have ti : ¬ (i : Int) < (ks.length : Int) := by omega
      have hie : i = ks.length := by have := hig.out; omega
      have S2 := SS.out
      rw [hie, List.take_length] at S2
      have SF := Lib.hid S2
      clear hie hi S2
      go_wp2_with fail
      go_ret
      exact SF.out.gets
end Go.Proofs.YtmbibaccpeldoaaGreatDoor.W15
/-
  Layer 15 (prog), walk of the document's Steps of an alternative. The conditions stand in the statements.
-/
namespace Go.Proofs.YtmbibaccpeldoaaGreatDoor.W15
set_option maxRecDepth 100000
open Go Go.RowKit Go.Proofs.YtmbibaccpeldoaaGreatDoor.Strs Go.Proofs.YtmbibaccpeldoaaGreatDoor.Recs Go.Proofs.YtmbibaccpeldoaaGreatDoor.M15
open Go.Proofs.YtmbibaccpeldoaaGreatDoor.M14 (Piece size sizes)
open Go.Proofs.YtmbibaccpeldoaaGreatDoor.W14 (Raw Raws rawA rawC PAt PAll PBox PLow box_arg load_piece load_at cell_block)
open Go.Proofs.YtmbibaccpeldoaaGreatDoor.Kit (below_draws on)

theorem wrap_sum {a b c : Nat} (h : a + b = c) (hc : c ≤ 100000) : wrap64 ((a : Int) + (b : Int)) = (c : Int) := by unfold wrap64; omega
theorem wrap_two {a c : Nat} (h : a + 2 = c) (hc : c ≤ 100000) : wrap64 ((a : Int) + 2) = (c : Int) := by unfold wrap64; omega
theorem wrap_one {a c : Nat} (h : a + 1 = c) (hc : c ≤ 9223372036854775807) : wrap64 ((a : Int) + 1) = (c : Int) := by unfold wrap64; omega
/-- a kid at the beginning: its cells, its reading later on -/
theorem kid_at {w0 : World} {A : Option Addr} {c : Nat} {raws : List Raw} {ks : List Piece} (K0 : W14.Kids w0 A c raws ks) {i : Nat} (hi : i < ks.length) {p : Piece} (hp : ks[i] = p) : ∃ g1 o1 rk, A = some ⟨g1, o1, none⟩ ∧ g1 < w0.heap.size ∧ PLow w0 rk p ∧ ∀ j, j < 5 → w0.cell? ⟨g1, o1 + i * 5 + j, none⟩ = (rawC rk)[j]? := by
  obtain ⟨g1, o1, hA, C1⟩ := K0.at_ (Nat.lt_of_le_of_lt (Nat.zero_le _) hi)
  obtain ⟨hr1, q1⟩ := K0.kid hi
  refine ⟨g1, o1, raws[i], hA, K0.2.1 _ hA (Nat.lt_of_le_of_lt (Nat.zero_le _) hr1), ?_, C1 i hr1⟩
  rw [← hp]; exact q1
theorem cells_on {w0 w : World} {g1 o : Nat} {rk : Raw} (h : ∀ j, j < 5 → w0.cell? ⟨g1, o + j, none⟩ = (rawC rk)[j]?) (hg : g1 < w0.heap.size) (hl : Below w0.heap.size w0 w) : ∀ j, j < 5 → w.cell? ⟨g1, o + j, none⟩ = (rawC rk)[j]? := fun j hj => (cell_block (hl.block g1 hg)).trans (h j hj)
set_option maxHeartbeats 8000000 in
theorem rst_alt {ks : List Piece} (hg : M15.Good (.mk 8 no ks 0 0)) (hgk : ∀ p, p ∈ ks → M15.Good p) (IH : ∀ i (hi : i < ks.length), RSt ks[i]) (hs : ∀ q, q ∈ ks → ∀ a, (steps q a).length = size q) {w : World} {r : Raw} {a n E Sz : Nat} (h : PLow w r (.mk 8 no ks 0 0)) (hn : ks.length = n + 1) (hS : size (.mk 8 no ks 0 0) = Sz) (hSz : sizes ks + 2 * n = Sz) (hz : Sz ≤ 4000) (hE : a + Sz = E) (ha : E ≤ 8000) :
    Calls Tryz.prog 20 #[.agg (rawA r), .int .i64 a] w (Gets w (alts ks a E)) := by
  have HSZC := Lib.hid (fun w r hl => size_of hg w r hl)
  rw [hS] at HSZC
  have HLOW := Lib.hid h
  obtain ⟨A, c, raws, rfl, k1⟩ := h.parts
  have HI := Lib.hid IH
  have HS := Lib.hid hs
  have HGK := Lib.hid hgk
  have HR := Lib.hid k1.room
  have K0 := Lib.hid k1
  have HN := Lib.hid hn
  have HSU := Lib.hid hSz
  have HSUM := Lib.hid (show True ∧ Sz ≤ 4000 ∧ a + Sz = E ∧ E ≤ 8000 from ⟨trivial, hz, hE, ha⟩)
  have hwE := wrap_sum hE (by clear hSz; omega)
  obtain ⟨nk, hnk⟩ : ∃ nk, ks.length = nk := ⟨_, rfl⟩
  have HNK := Lib.hid hnk
  rw [hnk] at HR HLOW ⊢
  have HNN := Lib.hid (show nk = n + 1 by omega)
  clear h k1 IH hs hgk hg hS hSz hz hE ha hn hnk
  go_enter Tryz.func20, Tryz.ntmps20
  go_wp2_with (first
    | (refine box_arg (r := ⟨8, no, A, nk, c, 0, 0⟩) rfl (.tmp 0) rfl rfl ?_; intro w1 b1 e1 p1 l1 z1; have a0 := p1.c0; have P1 := Lib.hid p1; have L1 := Lib.hid l1; clear e1 p1 l1 z1; simp only at a0)
    | (refine load_piece (r := ⟨8, no, A, nk, c, 0, 0⟩) rfl (.tmp 2) rfl rfl P1.out ?_))
  refine (HSZC.out _ _ (HLOW.out.below L1.out)).mono ?_
  rintro e w2 ⟨rfl, l2⟩
  have S0 := Lib.hid ((St.start (w0 := w) P1.out L1.out).below l2)
  clear l2 a0
  go_wp2_with fail
  simp only [hwE]
  clear hwE
  go_loopg [5, 8] nk (fun gk s5 s8 wr => ∃ (i : Nat) (vo : Value) (Li : List Inst), s5 = vo ∧ s8 = .int .i64 i ∧ Hid (i + gk = nk) ∧ Hid ((i ≤ n → Li = pre (ks.take i) a E) ∧ (i = nk → Li = alts ks a E)) ∧ Hid (St w wr b1 ⟨8, no, A, nk, c, 0, 0⟩ vo Li))
  case atStart => exact ⟨0, .slice none 0 0, [], rfl, rfl, by unfold Hid; omega, ⟨fun _ => by simp only [List.take_zero, pre], fun q => by have := HNN.out; omega⟩, S0⟩
  case round =>
    obtain ⟨i, vo, Li, rfl, rfl, hig, HLi, SS⟩ := hrel
    have a2 := SS.out.box.c2
    simp only at a2
    have hn1 := HR.out.1
    have hn2 := HR.out.2
    by_cases hi : i < nk
    · have ti : (i : Int) < (nk : Int) := by omega
      have hik : i < ks.length := by rw [HNK.out]; exact hi
      obtain ⟨p, hp⟩ : ∃ p, ks[i]'hik = p := ⟨_, rfl⟩
      have hpm : p ∈ ks := by rw [← hp]; exact List.getElem_mem hik
      obtain ⟨g1, o1, rk, rfl, hg1, q0, C0⟩ := kid_at K0.out hik hp
      have HG1 := Lib.hid hg1
      have Q0 := Lib.hid q0
      have C0 := Lib.hid C0
      have hin : i ≤ n := by have := HNN.out; omega
      have hLi := HLi.out.1 hin
      obtain ⟨s, hsz⟩ : ∃ s, size p = s := ⟨_, rfl⟩
      obtain ⟨T, hT⟩ : ∃ T, ks.take i = T := ⟨_, rfl⟩
      have hTm : ∀ q, q ∈ T → q ∈ ks := fun q hq => by rw [← hT] at hq; exact List.mem_of_mem_take hq
      have htk : ks.take (i + 1) = T ++ [p] := by rw [List.take_succ_eq_append_getElem hik, hT, hp]
      obtain ⟨N, hN⟩ : ∃ N, plen T = N := ⟨_, rfl⟩
      have hlen : Li.length = N := by rw [hLi, hT, pre_len HS.out E _ _ hTm, hN]
      obtain ⟨hh, hhh⟩ : ∃ hh, a + N = hh := ⟨_, rfl⟩
      have hbd : N + s + 2 * (nk - (i + 1)) ≤ Sz := by
        have h1 := sizes_take_le ks (i + 1)
        rw [htk, M14.sizes_append] at h1
        have h2 : sizes [p] = s := by simp only [sizes, Nat.add_zero]; exact hsz
        have h3 : T.length = i := by rw [← hT, List.length_take]; omega
        have h4 := HSU.out
        have h5 := HNN.out
        rw [h2] at h1
        unfold plen at hN
        rw [h3] at hN
        generalize sizes T = q1 at *
        generalize sizes ks = q2 at *
        clear hLi hlen htk hTm hT
        omega
      have HB := Lib.hid hbd
      have HLN := Lib.hid hlen
      have HPS : Hid (∀ a, (steps p a).length = s) := by unfold Hid; rw [← hsz]; exact HS.out p hpm
      have HSC := Lib.hid (fun w r hl => size_of (HGK.out p hpm) w r hl)
      rw [hsz] at HSC
      have HIP : Hid (∀ (w : World) (a' : Nat), PLow w rk p → a' + s ≤ 8000 → Calls Tryz.prog 20 #[.agg (rawA rk), .int .i64 a'] w (Gets w (steps p a'))) := by
        intro w a' h1 h2
        have h3 := HI.out i hik w rk a'
        rw [hp, hsz] at h3
        exact h3 h1 (by have := HB.out; have := HSUM.out.2.1; clear htk hLi hT; omega) h2
      have HLI : Hid (Li = pre T a E) := by unfold Hid; rw [hLi, hT]
      have HTK := Lib.hid htk
      have HPN := Lib.hid hN
      have HSIZ := Lib.hid hsz
      have HHH := Lib.hid hhh
      have hw1 := wrap_sum hhh (by have := HB.out; have := HSUM.out; clear htk hLi hT; omega)
      obtain ⟨j, hj⟩ : ∃ j, i + 1 = j := ⟨_, rfl⟩
      have hwj := wrap_one hj (by have := HR.out; clear htk hLi hT; omega)
      have HJ := Lib.hid hj
      have HJI : Hid ((i : Int) + 1 = (j : Int)) := by unfold Hid; rw [← hj]; rfl
      have HIK := Lib.hid hik
      obtain ⟨Ao, co, rfl, hco1, hco2⟩ := SS.out.form
      rw [hlen] at hco1 SS ⊢
      have E0 := Lib.hid (cells_on C0.out HG1.out SS.out.low)
      clear hLi hT hTm htk hN hlen hbd hsz hp hpm hg1 q0 hin hhh hj hi hik
      go_wp2_with (first | (refine load_at rfl (.tmp 92) rfl rfl (r := rk) E0.out ?_))
      refine (HSC.out _ _ (Q0.out.below SS.out.low)).mono ?_
      rintro e w3 ⟨rfl, l3⟩
      have S3 := Lib.hid (SS.out.below l3)
      clear l3 a2 hw1
      have a2 := S3.out.box.c2
      simp only at a2
      by_cases hlast : j < nk
      · have tj : (j : Int) < (nk : Int) := by clear hwj; omega
        have tj2 : (i : Int) + 1 < (nk : Int) := by have := HJ.out; clear hwj; omega
        obtain ⟨x1, hx1⟩ : ∃ x1, hh + 1 = x1 := ⟨_, rfl⟩
        obtain ⟨y0, hy0⟩ : ∃ y0, hh + s = y0 := ⟨_, rfl⟩
        obtain ⟨y1, hy1⟩ : ∃ y1, y0 + 2 = y1 := ⟨_, rfl⟩
        have HBB : Hid (hh + s + 2 ≤ 8000) := by unfold Hid; have := HB.out; have := HSUM.out; have := HHH.out; have := HJ.out; clear ti tj hwj; omega
        have HXY := Lib.hid (show x1 = hh + 1 ∧ y1 = hh + s + 2 from ⟨hx1.symm, by clear hwj; omega⟩)
        have HBX := Lib.hid (show x1 ≤ 8000 ∧ y0 ≤ 8000 ∧ y1 ≤ 8000 from by have := HBB.out; clear hwj; exact ⟨by omega, by omega, by omega⟩)
        have hwx := wrap_one hx1 (Nat.le_trans HBX.out.1 (by decide))
        have hwy := wrap_sum hy0 (Nat.le_trans HBX.out.2.1 (by decide))
        have hwz := wrap_two hy1 (Nat.le_trans HBX.out.2.2 (by decide))
        have HIPX := Lib.hid (HIP.out)
        have e3 := Lib.hid (cells_on C0.out HG1.out S3.out.low)
        have HL1 : Hid (Li.length + [(⟨6, ⟨#[]⟩, (x1 : Nat), (y1 : Nat)⟩ : Inst)].length ≤ 1000000) := by unfold Hid; rw [HLN.out]; simp only [List.length_cons, List.length_nil]; have := HB.out; have := HSUM.out; clear hwx hwy hwz hwj; omega
        clear hx1 hy0 hy1 hlast
        go_wp2_with (first
          | (refine slice_ins (r := ⟨6, ⟨#[]⟩, (x1 : Nat), (y1 : Nat)⟩) rfl (.tmp 108) rfl rfl ?_; intro w4 b4 e4 p4 l4 z4 o4; have R4 := Lib.hid p4; have S4 := Lib.hid (S3.out.below l4); clear e4 p4 l4 z4 o4)
          | (refine append_ins rfl (.tmp 101) (.tmp 109) rfl rfl rfl S4.out.own R4.out HL1.out S4.out.low.size ?_; intro v5 w5 o5 p5; have S5 := Lib.hid (S4.out.put o5 p5); clear o5 p5; clear a2; have a2 := S5.out.box.c2; simp only at a2; have e5 := Lib.hid (cells_on C0.out HG1.out S5.out.low))
          | (refine load_at rfl (.tmp 115) rfl rfl (r := rk) e5.out ?_))
        refine (HIPX.out _ x1 (Q0.out.below S5.out.low) (by have := HBB.out; have := HXY.out; clear hwx hwy hwz hwj; omega)).mono ?_
        rintro e w6 ⟨v6, rfl, o6, l6⟩
        have S6 := Lib.hid (S5.out.below l6)
        have R6 := Lib.hid (Recs.of_own insC_len rfl o6)
        have HL2 : Hid ((Li ++ [(⟨6, ⟨#[]⟩, (x1 : Nat), (y1 : Nat)⟩ : Inst)]).length + (steps p x1).length ≤ 1000000) := by unfold Hid; rw [List.length_append, HLN.out, HPS.out]; simp only [List.length_cons, List.length_nil]; have := HB.out; have := HSUM.out; clear hwx hwy hwz hwj; omega
        have HL3 : Hid ((Li ++ [(⟨6, ⟨#[]⟩, (x1 : Nat), (y1 : Nat)⟩ : Inst)] ++ steps p x1).length + [(⟨8, ⟨#[]⟩, (E : Nat), 0⟩ : Inst)].length ≤ 1000000) := by unfold Hid; rw [List.length_append, List.length_append, HLN.out, HPS.out]; simp only [List.length_cons, List.length_nil]; have := HB.out; have := HSUM.out; clear hwx hwy hwz hwj; omega
        clear o6 l6 a2 hwx hwy hwz
        go_wp2_with (first
          | (refine append_ins rfl (.tmp 111) (.tmp 119) rfl rfl rfl S6.out.own R6.out HL2.out S6.out.low.size ?_; intro v7 w7 o7 p7; have S7 := Lib.hid (S6.out.put o7 p7); clear o7 p7)
          | (refine slice_ins (r := ⟨8, ⟨#[]⟩, (E : Nat), 0⟩) rfl (.tmp 123) rfl rfl ?_; intro w8 b8 e8 p8 l8 z8 o8; have R8 := Lib.hid p8; have S8 := Lib.hid (S7.out.below l8); clear e8 p8 l8 z8 o8)
          | (refine append_ins rfl (.tmp 121) (.tmp 124) rfl rfl rfl S8.out.own R8.out HL3.out S8.out.low.size ?_; intro v9 w9 o9 p9; have S9 := Lib.hid (S8.out.put o9 p9); clear o9 p9))
        have HREL : Hid ((j ≤ n → Li ++ [(⟨6, ⟨#[]⟩, (x1 : Nat), (y1 : Nat)⟩ : Inst)] ++ steps p x1 ++ [(⟨8, ⟨#[]⟩, (E : Nat), 0⟩ : Inst)] = pre (ks.take j) a E) ∧ (j = nk → Li ++ [(⟨6, ⟨#[]⟩, (x1 : Nat), (y1 : Nat)⟩ : Inst)] ++ steps p x1 ++ [(⟨8, ⟨#[]⟩, (E : Nat), 0⟩ : Inst)] = alts ks a E)) := by
          refine ⟨fun _ => ?_, fun q => by clear hwj; omega⟩
          rw [← HJ.out, HTK.out, pre_append, HPN.out, HHH.out, HLI.out, HXY.out.1, HXY.out.2]
          simp only [pre, HSIZ.out, List.append_assoc, List.cons_append, List.nil_append]
          rfl
        cases gk with
        | zero => exact absurd hig.out (by have := HIK.out; have := HNK.out; clear hwj; omega)
        | succ g =>
          go_wp2_with fail
          go_roundg g
          case measure => omega
          case rel => exact ⟨j, v9, _, rfl, by first | rfl | exact congrArg (Value.int .i64) hwj | exact congrArg (Value.int .i64) HJI.out, by have := hig.out; have := HJ.out; clear hwj; unfold Hid; omega, HREL, S9⟩
      · have tj : ¬ (j : Int) < (nk : Int) := by clear hwj; omega
        have tj2 : ¬ (i : Int) + 1 < (nk : Int) := by have := HJ.out; clear hwj; omega
        have hjn : j = nk := by have := HIK.out; have := HNK.out; have := HJ.out; clear tj hwj; omega
        have HJN := Lib.hid hjn
        have HHB : Hid (hh + s ≤ 8000) := by unfold Hid; have := HB.out; have := HSUM.out; have := HHH.out; clear hwj ti tj; omega
        have e3 := Lib.hid (cells_on C0.out HG1.out S3.out.low)
        clear hjn hlast
        go_wp2_with (first
          | (refine load_at rfl (.tmp 130) rfl rfl (r := rk) e3.out ?_))
        refine (HIP.out _ hh (Q0.out.below S3.out.low) HHB.out).mono ?_
        rintro e w6 ⟨v6, rfl, o6, l6⟩
        have S6 := Lib.hid (S3.out.below l6)
        have R6 := Lib.hid (Recs.of_own insC_len rfl o6)
        have HL2 : Hid (Li.length + (steps p hh).length ≤ 1000000) := by unfold Hid; rw [HLN.out, HPS.out]; have := HB.out; have := HSUM.out; clear hwj; omega
        clear o6 l6 a2
        go_wp2_with (first
          | (refine append_ins rfl (.tmp 126) (.tmp 133) rfl rfl rfl S6.out.own R6.out HL2.out S6.out.low.size ?_; intro v7 w7 o7 p7; have S7 := Lib.hid (S6.out.put o7 p7); clear o7 p7))
        have HREL : Hid ((j ≤ n → Li ++ steps p hh = pre (ks.take j) a E) ∧ (j = nk → Li ++ steps p hh = alts ks a E)) := by
          refine ⟨fun q => by have := HNN.out; have := HJN.out; clear hwj; omega, fun _ => ?_⟩
          have h1 := alts_pre p (ks.take i) a E
          have h2 : ks = ks.take i ++ [p] := by
            have h3 : ks.take (i + 1) = ks := List.take_of_length_le (by have := HJN.out; have := HJ.out; have := HNK.out; clear hwj; omega)
            have h4 := HTK.out
            rw [h3] at h4
            have h5 : ks.take i = (ks.take (i + 1)).take i := by rw [List.take_take]; congr 1; omega
            have h6 : T.length = i := by
              have := congrArg List.length h4
              rw [List.length_append] at this
              simp only [List.length_cons, List.length_nil] at this
              have := HJN.out; have := HJ.out; have := HNK.out; clear hwj; omega
            rw [h5, h3, h4, List.take_append_of_le_length (by omega), List.take_of_length_le (by omega)]
          rw [← h2] at h1
          have h7 : ks.take i = T := by
            have h8 := HTK.out
            have h9 : (ks.take (i + 1)).take i = ks.take i := by rw [List.take_take]; congr 1; omega
            rw [h8] at h9
            have h6 : T.length = i := by
              have := congrArg List.length h8
              rw [List.length_append, List.length_take] at this
              simp only [List.length_cons, List.length_nil] at this
              have := HIK.out; clear hwj; omega
            rw [← h9, List.take_append_of_le_length (by omega), List.take_of_length_le (by omega)]
          rw [h1, h7, HPN.out, HHH.out, HLI.out]
        cases gk with
        | zero => exact absurd hig.out (by have := HIK.out; have := HNK.out; clear hwj; omega)
        | succ g =>
          go_wp2_with fail
          go_roundg g
          case measure => omega
          case rel => exact ⟨j, v7, _, rfl, by first | rfl | exact congrArg (Value.int .i64) hwj | exact congrArg (Value.int .i64) HJI.out, by have := hig.out; have := HJ.out; clear hwj; unfold Hid; omega, HREL, S7⟩
    · have ti : ¬ (i : Int) < (nk : Int) := by omega
      have hie : i = nk := by have := hig.out; omega
      have hL := HLi.out.2 hie
      subst hL
      clear hie hi
      go_wp2_with fail
      go_ret
      exact SS.out.gets
end Go.Proofs.YtmbibaccpeldoaaGreatDoor.W15
