/-
  Texts joined, in build order, each with its own comment and its own conditions: W15Whole, W14RefSize, W14RefRep, W15GSize, W15RefSeq, W15RefAlt, W16GoOn.
-/
import Derived.Test.YtehdnbidgphecaaGreatDoorJ11
import Derived.Test.YtehdnbidgphecaaGreatDoorJ03
import Derived.Test.YtehdnbidgphecaaGreatDoorJ12
import Derived.Deep.LoopGhost
import Derived.Deep.RegionHeld3
import Derived.Lib.MinMax
import Derived.Test.YtehdnbidgphecaaGreatDoorJ10
import Derived.Deep.Onto
/-
  Layer 15 (prog), walks of layer 14's own often and whole of any piece. The conditions stand in the statements.
-/
namespace Go.Proofs.YtehdnbidgphecaaGreatDoor.W15
set_option maxRecDepth 100000
open Go Go.RowKit Go.Proofs.YtehdnbidgphecaaGreatDoor.Strs Go.Proofs.YtehdnbidgphecaaGreatDoor.Recs Go.Proofs.YtehdnbidgphecaaGreatDoor.M15
open Go.Proofs.YtehdnbidgphecaaGreatDoor.M13 (good has)
open Go.Proofs.YtehdnbidgphecaaGreatDoor.M14 (Piece)
open Go.Proofs.YtehdnbidgphecaaGreatDoor.W14 (Raw rawA rawC PAt PBox PLow box_arg load_piece load_at cell_block)
open Go.Proofs.YtehdnbidgphecaaGreatDoor.Kit (below_draws on)

end Go.Proofs.YtehdnbidgphecaaGreatDoor.W15
/-
  Layer 14 (pattern), walk of the document's Size: of a piece that may be it is the mathematics' size. The conditions stand in the statements.
-/
namespace Go.Proofs.YtehdnbidgphecaaGreatDoor.W14
set_option maxRecDepth 100000
open Go Go.RowKit Go.Proofs.YtehdnbidgphecaaGreatDoor.Strs Go.Proofs.YtehdnbidgphecaaGreatDoor.Recs Go.Proofs.YtehdnbidgphecaaGreatDoor.M14
open Go.Proofs.YtehdnbidgphecaaGreatDoor.Kit (below_draws on)

theorem size_leaf {k : Int} (hk : k = 1 ∨ k = 2 ∨ k = 3 ∨ k = 4 ∨ k = 5 ∨ k = 6) (t : ByteArray) : size (M14.leaf k t) = if k = 1 then 0 else 1 := by
  unfold M14.leaf size
  by_cases h1 : k = 1
  · simp [h1]
  · simp [h1, show 2 ≤ k ∧ k ≤ 6 by omega]
def SizeTo (w : World) (p : Piece) (e : Ending) (w' : World) : Prop := e = .returned (.int .i64 (size p)) ∧ Below w.heap.size w w'
theorem size_rep (p : Piece) (M : Nat) (t : Int) : size (.mk 9 ⟨#[]⟩ [p] M t) = min 4001 (if t = -1 then M * size p + size p + 2 else M * size p + (t - M).toNat * (size p + 1)) := by
  have h1 : sizes [p] = size p := by simp [sizes]
  conv => lhs; unfold size
  rw [if_neg (by decide), if_neg (by decide), if_neg (by decide), if_neg (by decide), h1, Int.toNat_natCast]
theorem mul_small {a b : Nat} (ha : a ≤ 100) (hb : b ≤ 4002) : a * b ≤ 400200 := Nat.le_trans (Nat.mul_le_mul ha hb) (by decide)
/-- what tells how often may tell -/
def Often (m t : Int) : Prop := (0 ≤ m ∧ m ≤ 100) ∧ (t = -1 ∨ m ≤ t ∧ t ≤ 100)
set_option maxHeartbeats 1000000 in
theorem roften_any {m t : Int} (h : Often m t) {A : Option Addr} {c : Nat} (hc : 1 ≤ c ∧ c ≤ 9223372036854775807) (w : World) : Calls Tryz.prog 21 #[.agg (rawA ⟨9, ⟨#[]⟩, A, 1, c, m, t⟩)] w fun e w' => e = .returned (.bool true) ∧ Below w.heap.size w w' := by
  obtain ⟨⟨hm0, hm1⟩, ht⟩ := h
  have hc1 := hc.1
  have hc2 := hc.2
  have x1 : ¬ m < 0 := by omega
  have x2 : ¬ 100 < m := by omega
  have x3 : ¬ 100 < t := by omega
  by_cases q : t = -1
  · subst q
    clear hc x3 hm0 hm1 ht
    go_enter Tryz.func21, Tryz.ntmps21
    go_wp2_with (first
      | (refine box_arg (r := ⟨9, ⟨#[]⟩, A, 1, c, m, -1⟩) rfl (.tmp 0) rfl rfl ?_; intro w1 b1 e1 p1 l1 z1; have a1 := p1.c1; have a2 := p1.c2; have a3 := p1.c3; have a4 := p1.c4; have L1 := Lib.hid l1; clear e1 p1 l1 z1; simp only at a1 a2 a3 a4))
    go_ret
    exact ⟨rfl, L1.out⟩
  · have x4 : (t == -1) = false := by simpa using q
    have x5 : m ≤ t := by omega
    clear hc hm0 hm1 ht q
    go_enter Tryz.func21, Tryz.ntmps21
    go_wp2_with (first
      | (refine box_arg (r := ⟨9, ⟨#[]⟩, A, 1, c, m, t⟩) rfl (.tmp 0) rfl rfl ?_; intro w1 b1 e1 p1 l1 z1; have a1 := p1.c1; have a2 := p1.c2; have a3 := p1.c3; have a4 := p1.c4; have L1 := Lib.hid l1; clear e1 p1 l1 z1; simp only at a1 a2 a3 a4))
    go_ret
    exact ⟨rfl, L1.out⟩
end Go.Proofs.YtehdnbidgphecaaGreatDoor.W14
/-
  Layer 14 (pattern), walk of the document's Size: of what is asked for often, and of any piece that may be. The conditions stand in the statements.
-/
namespace Go.Proofs.YtehdnbidgphecaaGreatDoor.W14
set_option maxRecDepth 100000
open Go Go.RowKit Go.Proofs.YtehdnbidgphecaaGreatDoor.Strs Go.Proofs.YtehdnbidgphecaaGreatDoor.Recs Go.Proofs.YtehdnbidgphecaaGreatDoor.M14
open Go.Proofs.YtehdnbidgphecaaGreatDoor.Kit (below_draws on)

theorem wrap_nat {a : Int} {n : Nat} (h : a = (n : Int)) (hn : n ≤ 4000000) : wrap64 a = (n : Int) := by subst h; unfold wrap64; omega
theorem min_nat (n : Nat) : min (n : Int) 4001 = ((min 4001 n : Nat) : Int) := by omega
end Go.Proofs.YtehdnbidgphecaaGreatDoor.W14
/-
  Layer 15 (prog), walk of layer 14's own Size of any piece. The conditions stand in the statements.
-/
namespace Go.Proofs.YtehdnbidgphecaaGreatDoor.M15
set_option maxRecDepth 100000
open Go Go.Proofs.YtehdnbidgphecaaGreatDoor.M14
end Go.Proofs.YtehdnbidgphecaaGreatDoor.M15
namespace Go.Proofs.YtehdnbidgphecaaGreatDoor.W15
open Go Go.RowKit Go.Proofs.YtehdnbidgphecaaGreatDoor.Strs Go.Proofs.YtehdnbidgphecaaGreatDoor.Recs Go.Proofs.YtehdnbidgphecaaGreatDoor.M15
open Go.Proofs.YtehdnbidgphecaaGreatDoor.M14 (Piece)
open Go.Proofs.YtehdnbidgphecaaGreatDoor.W14 (Raw rawA rawC PAt PBox PLow box_arg load_piece load_at cell_block wrap_nat min_nat mul_small roften_any)
open Go.Proofs.YtehdnbidgphecaaGreatDoor.Kit (below_draws on)
abbrev Kids (w : World) (A : Option Addr) (c : Nat) (raws : List Raw) (ks : List Piece) : Prop := W14.Kids w A c raws ks

end Go.Proofs.YtehdnbidgphecaaGreatDoor.W15
/-
  Layer 15 (prog), walk of the document's Steps: what is kept as steps are put together; a piece of one step, kids one behind the other. The conditions stand in the statements.
-/
namespace Go.Proofs.YtehdnbidgphecaaGreatDoor.W15
set_option maxRecDepth 100000
open Go Go.RowKit Go.Proofs.YtehdnbidgphecaaGreatDoor.Strs Go.Proofs.YtehdnbidgphecaaGreatDoor.Recs Go.Proofs.YtehdnbidgphecaaGreatDoor.M15
open Go.Proofs.YtehdnbidgphecaaGreatDoor.M14 (Piece size sizes)
open Go.Proofs.YtehdnbidgphecaaGreatDoor.W14 (Raw Raws rawA rawC PAt PAll PBox PLow box_arg load_piece load_at cell_block)
open Go.Proofs.YtehdnbidgphecaaGreatDoor.Kit (below_draws on)

/-- what stands while steps are put together -/
structure St (w0 w : World) (b1 : Nat) (r : Raw) (vo : Value) (L : List Inst) : Prop where
  own : w.ownsRow w0.heap.size 62 4 vo L.length (L.flatMap insC)
  box : PBox w b1 r
  low : Below w0.heap.size w0 w
section
variable {w0 w w' : World} {b1 : Nat} {r : Raw} {vo v' : Value} {L M : List Inst}
theorem St.below (h : St w0 w b1 r vo L) (hb : Below w.heap.size w w') : St w0 w' b1 r vo L :=
  ⟨own_block_same h.own fun k hk => hb.block k (h.own.lt k hk).2, h.box.below hb, h.low.trans (hb.mono h.low.size)⟩
theorem pbox_put {base c : Nat} (hp : PBox w c r) (h : w.ownsRow base 62 4 vo L.length (L.flatMap insC)) (hg : Put vo v' w w') : PBox w' c r := by
  obtain ⟨-, -, -, -, g5⟩ := hg.grown
  refine (g5 c hp.lt fun q => ?_).trans hp
  obtain ⟨cur, h1⟩ := own_type h q.symm
  have h2 : w.heap[c]? = _ := hp
  rw [h1] at h2
  injection h2 with h2
  injection h2 with _ h2
  exact absurd h2 (by decide)
theorem St.put (h : St w0 w b1 r vo L) (ho : w'.ownsRow w0.heap.size 62 4 v' (L ++ M).length ((L ++ M).flatMap insC)) (hp : Put vo v' w w') : St w0 w' b1 r v' (L ++ M) := by
  have g := hp.grown
  refine ⟨ho, pbox_put h.box h.own hp, h.low.trans ⟨g.os, g.tape, g.output, g.size, fun k hk => g.block k (Nat.lt_of_lt_of_le hk h.low.size) fun q => ?_⟩⟩
  have := (h.own.lt k q.symm).1
  omega
theorem St.form (h : St w0 w b1 r vo L) : ∃ A c, vo = .slice A L.length c ∧ L.length ≤ c ∧ c ≤ 9223372036854775807 := by
  obtain ⟨A, c, e, h1, h2⟩ := (Recs.of_own insC_len rfl h.own).form
  unfold maxLen at h2
  exact ⟨A, c, e, h1, h2⟩
theorem St.start (hb : PBox w b1 r) (hl : Below w0.heap.size w0 w) : St w0 w b1 r (.slice none 0 0) [] := ⟨World.ownsRow_nil _ _ _ _, hb, hl⟩
end
end Go.Proofs.YtehdnbidgphecaaGreatDoor.W15
/-
  Layer 15 (prog), walk of the document's Steps of an alternative. The conditions stand in the statements.
-/
namespace Go.Proofs.YtehdnbidgphecaaGreatDoor.W15
set_option maxRecDepth 100000
open Go Go.RowKit Go.Proofs.YtehdnbidgphecaaGreatDoor.Strs Go.Proofs.YtehdnbidgphecaaGreatDoor.Recs Go.Proofs.YtehdnbidgphecaaGreatDoor.M15
open Go.Proofs.YtehdnbidgphecaaGreatDoor.M14 (Piece size sizes)
open Go.Proofs.YtehdnbidgphecaaGreatDoor.W14 (Raw Raws rawA rawC PAt PAll PBox PLow box_arg load_piece load_at cell_block)
open Go.Proofs.YtehdnbidgphecaaGreatDoor.Kit (below_draws on)

end Go.Proofs.YtehdnbidgphecaaGreatDoor.W15
/-
  Layer 16 (match), walk of goOn: a step is marked, and all those that it goes on at without a byte. The conditions stand in the statements.
-/
namespace Go.Proofs.YtehdnbidgphecaaGreatDoor.W16
set_option maxRecDepth 100000
open Go Go.RowKit Go.Proofs.YtehdnbidgphecaaGreatDoor.Strs Go.Proofs.YtehdnbidgphecaaGreatDoor.Recs Go.Proofs.YtehdnbidgphecaaGreatDoor.Range
open Go.Proofs.YtehdnbidgphecaaGreatDoor.M15 (Inst rightP okI)
open Go.Proofs.YtehdnbidgphecaaGreatDoor.M16 (Text steps put puts go goOn eps ins)
open Go.Proofs.YtehdnbidgphecaaGreatDoor.W15 (insC insA insC_len Prg IBox zeroI zero_ins ins_size insA_one run_load_ins own_type own_block_same)
open Go.Proofs.YtehdnbidgphecaaGreatDoor.W14 (below_new own_same own_form cell_block two_new)
open Go.Proofs.YtehdnbidgphecaaGreatDoor.Row256 (Beside)
open Go.Proofs.YtehdnbidgphecaaGreatDoor.Kit (below_draws on)

theorem build_mark (a b : Int) (w : World) : (Instr.build 77 #[(0, .int .i64 a), (1, .int .i64 b)]).run Tryz.prog w = .ok (.agg #[.int .i64 a, .int .i64 b]) w := by kernel_rfl
section
variable {o : Oper} {a : Act} {w : World} {Q : Exit → Act → World → Prop} {K : Act → World → Prop}
theorem wp_alloc_ins (ho : o.op = .alloc 62)
    (h : ∀ w' b, w.heap.size = b → IBox w' b zeroI → Below w.heap.size w w' → w'.heap.size = w.heap.size + 1 → K (a.put o.dst (.pointer (some ⟨b, 0, none⟩))) w') : o.wp Tryz.prog a w K Q := by
  unfold Oper.wp execOp
  simp only [ho, Instr.alloc, newVar, newRow, zero_ins, Sem.run_bind, Sem.run_pure, Result.andThen_ok]
  exact h _ _ rfl (heap_alloc_new w _) (below_new w _) (World.size_alloc w _)
theorem wp_store_ins (x y : Operand) (ho : o.op = .store 62 x y) {b : Nat} {r old : Inst} (hx : a.eval x = .pointer (some ⟨b, 0, none⟩)) (hy : a.eval y = .agg (insA r)) (hr : IBox w b old)
    (h : ∀ w', IBox w' b r → Beside b w w' → w'.heap.size = w.heap.size → K (a.put o.dst undef) w') : o.wp Tryz.prog a w K Q :=
  wp_store_row 62 x y ho b (insA r) hx hy 62 (insA old) hr (ins_size r) rfl (insA_one r)
    (h _ (setRow_heap w b _ _ _ _ hr) ⟨rfl, rfl, rfl, by rw [setRow_size]; exact Nat.le_refl _, fun k _ e => setRow_other w b k _ e⟩ (setRow_size _ _ _))
end
/-- what a region of goOn reads -/
theorem seen_below {w w' : World} {b4 r gm gl : Nat} {a4 ar am al : Nat} {v1 v2 v3 : Value} {x : Inst} (h : w.cell? ⟨b4, a4, none⟩ = some v1 ∧ w.cell? ⟨r, ar, none⟩ = some v2 ∧ w.cell? ⟨gm, am, none⟩ = some v3 ∧ (∀ j, j < 4 → w.cell? ⟨gl, al + j, none⟩ = (insC x)[j]?)) (hb : Below w.heap.size w w') :
    w'.cell? ⟨b4, a4, none⟩ = some v1 ∧ w'.cell? ⟨r, ar, none⟩ = some v2 ∧ w'.cell? ⟨gm, am, none⟩ = some v3 ∧ (∀ j, j < 4 → w'.cell? ⟨gl, al + j, none⟩ = (insC x)[j]?) := by
  obtain ⟨h1, h2, h3, h4⟩ := h
  refine ⟨(hb.cell (World.block_lt_of_cell? w _ h1)).trans h1, (hb.cell (World.block_lt_of_cell? w _ h2)).trans h2, (hb.cell (World.block_lt_of_cell? w _ h3)).trans h3, fun j hj => ?_⟩
  have h5 := h4 j hj
  have h6 : ∃ u, (insC x)[j]? = some u := ⟨_, List.getElem?_eq_getElem (by rw [insC_len]; exact hj)⟩
  obtain ⟨u, hu⟩ := h6
  rw [hu] at h5 ⊢
  exact (hb.cell (World.block_lt_of_cell? w _ h5)).trans h5
/-- the box of a program and a text -/
def RBox (w : World) (b : Nat) (lv : Value) (s : ByteArray) : Prop := w.heap[b]? = some (.cells #[lv, .string s] 69 (0, 0))
section
variable {w w' : World} {b : Nat} {lv : Value} {s : ByteArray}
theorem RBox.lt (h : RBox w b lv s) : b < w.heap.size := (Array.getElem?_eq_some_iff.1 h).1
theorem RBox.same (h : RBox w b lv s) (hk : w'.heap[b]? = w.heap[b]?) : RBox w' b lv s := hk.trans h
theorem RBox.below (h : RBox w b lv s) (k : Below w.heap.size w w') : RBox w' b lv s := h.same (k.block b h.lt)
theorem RBox.c0 (h : RBox w b lv s) : w.cell? ⟨b, 0, none⟩ = some lv := cell_of_row w b 0 _ _ _ h
theorem RBox.c1 (h : RBox w b lv s) : w.cell? ⟨b, 1, none⟩ = some (.string s) := cell_of_row w b 1 _ _ _ h
end
section
variable {ops : Array Oper} {rest : List Oper} {o : Oper} {a : Act} {w : World} {Q : Exit → Act → World → Prop}
theorem box_run (hgd : o.guard = none) (x : Operand) (ho : o.op = .box 69 x) {lv : Value} {s : ByteArray} (hx : a.eval x = .agg #[lv, .string s])
    (h : ∀ w' b, w.heap.size = b → RBox w' b lv s → Below w.heap.size w w' → w'.heap.size = w.heap.size + 1 → wpList Tryz.prog ops Q rest (a.put o.dst (.pointer (some ⟨b, 0, none⟩))) w') : wpList Tryz.prog ops Q (o :: rest) a w :=
  wpList_plain hgd fun _ hK => by
    unfold Oper.wp execOp
    simp only [ho, hx, Instr.box, newVar, newRow, Sem.run_bind, Sem.run_pure]
    exact hK _ _ (h _ _ rfl (heap_alloc_new w _) (below_new w _) (World.size_alloc w _))
end
/-- marks that may be in a row of a program of n steps -/
def Fit (n : Nat) (M : List M16.Mark) : Prop := (steps M).Nodup ∧ ∀ x ∈ M, x.1 < n
theorem Fit.len {n : Nat} {M : List M16.Mark} (h : Fit n M) : M.length ≤ n := by
  have := M16.nodup_le n h.1 (fun x hx => by
    obtain ⟨y, hy, rfl⟩ := List.mem_map.1 hx
    exact h.2 y hy)
  simpa [steps] using this
theorem Fit.put {n : Nat} {M : List M16.Mark} {m : M16.Mark} (h : Fit n M) (hm : m.1 < n) : Fit n (put M m) :=
  ⟨M16.put_nodup h.1, fun x hx => by
    rcases M16.put_mem hx with h1 | rfl
    · exact h.2 x h1
    · exact hm⟩
theorem go_next {L : List Inst} {n q b f i : Nat} {M : List M16.Mark} {m : M16.Mark} (h : M[i]? = some m) : go L n q b (f + 1) i M = go L n q b f (i + 1) (puts M (eps (ins L m.1) n q) b) := by
  rw [go, h]
theorem go_stop {L : List Inst} {n q b f i : Nat} {M : List M16.Mark} (h : M.length ≤ i) : go L n q b f i M = M := by
  cases f with
  | zero => rfl
  | succ f => rw [go, List.getElem?_eq_none h]
set_option maxHeartbeats 16000000 in
theorem goOn_any {base : Nat} {w : World} {r g : Nat} {v lv : Value} {M : List M16.Mark} {L : List Inst} (hL : Prg base w lv L) (hR : rightP L = true) (hn : L.length ≤ 900000) (h : RowAt base w r v g L.length M) (hK : Fit L.length M) (s : ByteArray) (m : M16.Mark) (hm : m.1 < L.length) (q : Nat) (hq : q ≤ 4611686018427387904) :
    Calls Tryz.prog 38 #[.agg #[lv, .string s], .pointer (some ⟨r, 0, none⟩), .agg (markA m), .int .i64 q] w fun e w' => e = .returned (.tuple #[]) ∧ ∃ v', RowAt base w' r v' g L.length (goOn L s.size q M m) ∧ Grew r g v v' w w' := by
  obtain ⟨n, hnl⟩ : ∃ n, L.length = n := ⟨_, rfl⟩
  have HXO := Lib.hid (fun (i : Nat) (hi : i < L.length) => M16.ins_ok hR hi)
  obtain ⟨gl, ol, cl, rfl, hgl, hlc, hlm⟩ : ∃ gl ol cl, lv = .slice (some ⟨gl, ol, none⟩) n cl ∧ gl < base ∧ n ≤ cl ∧ cl ≤ maxLen := by
    obtain ⟨A, cl, rfl, h1, h2⟩ := hL.form
    obtain ⟨b, o, -, rfl, hb, -⟩ := hL.flat_ insC_len (by decide) (k := 0) (by omega)
    exact ⟨b, o, cl, by rw [hnl], hb, by omega, h2⟩
  have HLC := Lib.hid (fun (w' : World) (hb : Below base w w') (k : Nat) (hk : k < n) => by
    obtain ⟨b, o, hl, e, -, hc⟩ := (hL.below hb).flat_ insC_len (by decide) (k := k) hk
    cases e
    exact (⟨hl, hc⟩ : ∃ hl : k < L.length, ∀ j, j < 4 → w'.cell? ⟨gl, ol + k * 4 + j, none⟩ = (insC L[k])[j]?))
  have HNL : Hid (L.length = n) := hnl
  rw [hnl] at h hK hm ⊢
  have H := Lib.hid h
  have HK := Lib.hid hK
  have HM := Lib.hid hm
  have HN2 : Hid (n < 1000000) := by unfold Hid; omega
  obtain ⟨A0, c0', rfl, hM1, hM2⟩ := h.form
  unfold maxLen at hM2 hlm
  have HLB := Lib.hid (show gl < base ∧ n ≤ cl ∧ cl ≤ 9223372036854775807 from ⟨hgl, hlc, hlm⟩)
  have ha0 := h.c0
  have HMC := Lib.hid (show M.length ≤ c0' ∧ c0' ≤ 9223372036854775807 from ⟨hM1, hM2⟩)
  obtain ⟨R, hRR⟩ : ∃ R, goOn L s.size q M m = R := ⟨_, rfl⟩
  have HR : Hid (go L s.size q m.2 n M.length (put M m) = R) := by unfold Hid; rw [← hRR, goOn, HNL.out]
  rw [hRR]
  clear hL hR hn h hK hm hnl hgl hlc hlm hRR
  go_enter Tryz.func38, Tryz.ntmps38
  go_wp2_with (first
    | (refine box_run (lv := .slice (some ⟨gl, ol, none⟩) n cl) (s := s) rfl (.tmp 0) rfl rfl ?_; intro w1 b4 e1 p1 l1 z1; have Q4 := Lib.hid p1; have L1 := Lib.hid l1; have E4 := Lib.hid e1; clear e1 p1 l1 z1)
    | (refine box_mark (r := m) rfl (.tmp 2) rfl rfl ?_; intro w2 b6 e1 p1 l1 z1; have B60 := Lib.hid p1; have L2 := Lib.hid (on L1.out l1); have B40 := Lib.hid (Q4.out.below l1); have E6 : Hid (w.heap.size ≤ b6) := (by unfold Hid; have := L1.out.size; omega); have H2 := Lib.hid (H.out.below L2.out); have a0 := H2.out.c0; clear e1 p1 l1 z1 ha0)
    | (refine load_mbox (r := m) rfl (.tmp 6) rfl rfl B60.out ?_))
  have HBX : Hid (∀ v1 w', Grew r g (.slice A0 M.length c0') v1 w2 w' → ¬ RF r g v1 b4 ∧ ¬ RF r g v1 b6) := fun v1 w' hg => by
    have h1 := H.out.lt
    have h2 := H.out.bits.lt
    have h3 := B40.out.lt
    have h4 := B60.out.lt
    have h5 := E4.out
    have h6 := E6.out
    refine ⟨?_, ?_⟩
    · rintro (e | e | e)
      · omega
      · omega
      · rcases hg.own b4 e with e2 | e2
        · have := (H.out.own.lt b4 e2).2; omega
        · omega
    · rintro (e | e | e)
      · omega
      · omega
      · rcases hg.own b6 e with e2 | e2
        · have := (H.out.own.lt b6 e2).2; omega
        · omega
  refine (put_any H2.out m HM.out (by have := HK.out.len; have := HN2.out; omega)).mono ?_
  rintro e w3 ⟨rfl, v3, r3, g3⟩
  have R3 := Lib.hid r3
  have F3 := Lib.hid (HK.out.put (m := m) HM.out)
  have B4 := Lib.hid (B40.out.same (g3.keeps B40.out.lt (HBX.out _ _ (Grew.refl _ _ _ _)).1))
  have B6 := Lib.hid (B60.out.same (g3.keeps B60.out.lt (HBX.out _ _ (Grew.refl _ _ _ _)).2))
  have G3 := Lib.hid g3
  clear r3 g3 a0 hM1 hM2
  go_wp2_with fail
  go_loopg [8] n (fun gk s8 wr => ∃ (i : Nat) (v1 : Value) (M1 : List M16.Mark), s8 = .int .i64 i ∧ Hid (RowAt base wr r v1 g n M1) ∧ Hid (Grew r g (.slice A0 M.length c0') v1 w2 wr) ∧ Hid (Fit n M1) ∧ Hid (RBox wr b4 (.slice (some ⟨gl, ol, none⟩) n cl) s) ∧ Hid (MBox wr b6 m) ∧ Hid (go L s.size q m.2 gk i M1 = R) ∧ Hid (n ≤ i + gk))
  case atStart => exact ⟨M.length, v3, put M m, rfl, R3, G3, F3, B4, B6, HR, by unfold Hid; omega⟩
  case round =>
    clear B4 B6
    obtain ⟨i, v1, M1, rfl, R1, G1, HF1, B4, B6, HGO, HLE⟩ := hrel
    by_cases hi : i < M1.length
    · obtain ⟨gm, c1, rfl, -, -, hk1, hk2⟩ := own_form R1.out.own (by omega)
      obtain ⟨⟨j0, b0⟩, hx0⟩ : ∃ x, M1[i] = x := ⟨_, rfl⟩
      have hj0 : j0 < n := by have := HF1.out.2 M1[i] (List.getElem_mem hi); rw [hx0] at this; exact this
      obtain ⟨hjl, hcl⟩ := HLC.out wr ((L2.out.mono (Nat.le_trans H.out.low (Nat.le_of_lt H.out.lt))).trans (G1.out.below H2.out)) j0 hj0
      have hii : ins L j0 = L[j0] := by unfold ins; rw [List.getD_eq_getElem?_getD, List.getElem?_eq_getElem hjl]; rfl
      rw [← hii] at hcl
      have hmc : wr.cell? ⟨gm, i * 2, none⟩ = some (.int .i64 j0) := by
        rw [R1.out.own.cellAt _ (by omega)]
        have := flat_at markC_len M1 i hi 0 (by decide)
        rw [Nat.add_zero] at this
        rw [this, hx0]; rfl
      have HMI : Hid (M1[i]? = some (j0, b0)) := by unfold Hid; rw [List.getElem?_eq_getElem hi, hx0]
      obtain ⟨⟨k, t, X, Y⟩, hx1⟩ : ∃ x, ins L j0 = x := ⟨_, rfl⟩
      have HX := Lib.hid hx1
      have HOK : Hid (k ≠ 7 → 0 ≤ X ∧ X < n ∧ 1 ≤ k ∧ k ≤ 8 ∧ (k = 6 → 0 ≤ Y ∧ Y < n)) := by
        have := HXO.out j0 (by rw [HNL.out]; exact hj0)
        rw [hx1, HNL.out] at this
        exact fun hk => M16.okI_x this hk
      rw [hx1] at hcl
      obtain ⟨k1, hk⟩ : ∃ k1, M1.length = k1 := ⟨_, rfl⟩
      have HK1 := Lib.hid hk
      have hr0 := R1.out.c0
      rw [hk] at hi hk1 hr0 R1 G1
      unfold maxLen at hk2
      have HI := Lib.hid hi
      have hii1 : (i : Int) < (k1 : Int) := by omega
      have hjn : (j0 : Int) < (n : Int) := by omega
      have hwi : Hid (wrap64 ((i : Int) + 1) = ((i + 1 : Nat) : Int)) := by unfold Hid wrap64; have := HF1.out.len; have := HN2.out; omega
      clear hii hjl hx0 hx1 hk hi
      go_wp2_with fail
      have D1 := Lib.hid (below_draws wr 1)
      have S0 : Hid ((wr.drewN 1).cell? ⟨b4, 0, none⟩ = some (.slice (some ⟨gl, ol, none⟩) n cl) ∧ (wr.drewN 1).cell? ⟨r, 0, none⟩ = some (.slice (some ⟨gm, 0, none⟩) k1 c1) ∧ (wr.drewN 1).cell? ⟨gm, i * 2, none⟩ = some (.int .i64 j0) ∧ (∀ j, j < 4 → (wr.drewN 1).cell? ⟨gl, ol + j0 * 4 + j, none⟩ = (insC ⟨k, t, X, Y⟩)[j]?)) := seen_below ⟨B4.out.c0, hr0, hmc, hcl⟩ D1.out
      clear hr0 hmc hcl
      refine wp_region_held_drew (S := fun w' => w'.cell? ⟨b4, 0, none⟩ = some (.slice (some ⟨gl, ol, none⟩) n cl) ∧ w'.cell? ⟨r, 0, none⟩ = some (.slice (some ⟨gm, 0, none⟩) k1 c1) ∧ w'.cell? ⟨gm, i * 2, none⟩ = some (.int .i64 j0) ∧ (∀ j, j < 4 → w'.cell? ⟨gl, ol + j0 * 4 + j, none⟩ = (insC ⟨k, t, X, Y⟩)[j]?)) (by kernel_rfl) S0.out (fun hHeld => ?_)
      refine wpAnyH_take (i := 0) (oi := { dst := some 27, op := Op.fieldAddr 69 (Operand.tmp 4) 0, type := 0, pos := "match.go:118", after := #[], guard := none }) (v := ?vo0) rfl (by kernel_rfl) (by kernel_rfl) (by kernel_rfl) (fun _ _ _ h => h) (Or.inl ⟨by rfl, ?ho0⟩) (by assumption) ?ro0
      case ho0 => (intro w hSw; (try dsimp only at hSw); go_simp; try with_reducible rfl)
      try simp only [Act.put, List.setIfInBounds_toArray, List.set_cons_zero, List.set_cons_succ]
      refine wpAnyH_take (i := 1) (oi := { dst := some 28, op := Op.load 32 (Operand.tmp 27), type := 32, pos := "match.go:118", after := #[{ on := 0, ground := Ground.data }], guard := none }) (v := ?vo1) rfl (by kernel_rfl) (by kernel_rfl) (by kernel_rfl) (fun _ _ _ h => h) (Or.inl ⟨by rfl, ?ho1⟩) (by assumption) ?ro1
      case ho1 => (intro w hSw; (try dsimp only at hSw); go_simp; try with_reducible rfl)
      try simp only [Act.put, List.setIfInBounds_toArray, List.set_cons_zero, List.set_cons_succ]
      refine wpAnyH_take (i := 2) (oi := { dst := some 29, op := Op.move (Operand.tmp 1), type := 70, pos := "match.go:118", after := #[], guard := none }) (v := ?vo2) rfl (by kernel_rfl) (by kernel_rfl) (by kernel_rfl) (fun _ _ _ h => h) (Or.inl ⟨by rfl, ?ho2⟩) (by assumption) ?ro2
      case ho2 => (intro w hSw; (try dsimp only at hSw); go_simp; try with_reducible rfl)
      try simp only [Act.put, List.setIfInBounds_toArray, List.set_cons_zero, List.set_cons_succ]
      refine wpAnyH_take (i := 3) (oi := { dst := some 30, op := Op.nilCheck (Operand.tmp 29), type := 0, pos := "match.go:118", after := #[{ on := 2, ground := Ground.data }], guard := none }) (v := ?vo3) rfl (by kernel_rfl) (by kernel_rfl) (by kernel_rfl) (fun _ _ _ h => h) (Or.inl ⟨by rfl, ?ho3⟩) (by assumption) ?ro3
      case ho3 => (intro w hSw; (try dsimp only at hSw); go_simp; try with_reducible rfl)
      try simp only [Act.put, List.setIfInBounds_toArray, List.set_cons_zero, List.set_cons_succ]
      refine wpAnyH_take (i := 4) (oi := { dst := some 31, op := Op.fieldAddr 74 (Operand.tmp 30) 0, type := 0, pos := "match.go:118", after := #[{ on := 3, ground := Ground.data }], guard := none }) (v := ?vo4) rfl (by kernel_rfl) (by kernel_rfl) (by kernel_rfl) (fun _ _ _ h => h) (Or.inl ⟨by rfl, ?ho4⟩) (by assumption) ?ro4
      case ho4 => (intro w hSw; (try dsimp only at hSw); go_simp; try with_reducible rfl)
      try simp only [Act.put, List.setIfInBounds_toArray, List.set_cons_zero, List.set_cons_succ]
      refine wpAnyH_take (i := 5) (oi := { dst := some 32, op := Op.load 72 (Operand.tmp 31), type := 72, pos := "match.go:118", after := #[{ on := 4, ground := Ground.data }], guard := none }) (v := ?vo5) rfl (by kernel_rfl) (by kernel_rfl) (by kernel_rfl) (fun _ _ _ h => h) (Or.inl ⟨by rfl, ?ho5⟩) (by assumption) ?ro5
      case ho5 => (intro w hSw; (try dsimp only at hSw); go_simp; try with_reducible rfl)
      try simp only [Act.put, List.setIfInBounds_toArray, List.set_cons_zero, List.set_cons_succ]
      refine wpAnyH_take (i := 6) (oi := { dst := some 33, op := Op.move (Operand.tmp 8), type := 3, pos := "match.go:118", after := #[], guard := none }) (v := ?vo6) rfl (by kernel_rfl) (by kernel_rfl) (by kernel_rfl) (fun _ _ _ h => h) (Or.inl ⟨by rfl, ?ho6⟩) (by assumption) ?ro6
      case ho6 => (intro w hSw; (try dsimp only at hSw); go_simp; try with_reducible rfl)
      try simp only [Act.put, List.setIfInBounds_toArray, List.set_cons_zero, List.set_cons_succ]
      refine wpAnyH_take (i := 7) (oi := { dst := some 34, op := Op.indexAddr 72 (Operand.tmp 32) (Operand.tmp 33), type := 0, pos := "match.go:118", after := #[{ on := 5, ground := Ground.data }, { on := 6, ground := Ground.data }], guard := none }) (v := ?vo7) rfl (by kernel_rfl) (by kernel_rfl) (by kernel_rfl) (fun _ _ _ h => h) (Or.inl ⟨by rfl, ?ho7⟩) (by assumption) ?ro7
      case ho7 => (intro w hSw; (try dsimp only at hSw); go_simp; try with_reducible rfl)
      try simp only [Act.put, List.setIfInBounds_toArray, List.set_cons_zero, List.set_cons_succ]
      refine wpAnyH_take (i := 8) (oi := { dst := some 35, op := Op.fieldAddr 77 (Operand.tmp 34) 0, type := 0, pos := "match.go:118", after := #[{ on := 7, ground := Ground.data }], guard := none }) (v := ?vo8) rfl (by kernel_rfl) (by kernel_rfl) (by kernel_rfl) (fun _ _ _ h => h) (Or.inl ⟨by rfl, ?ho8⟩) (by assumption) ?ro8
      case ho8 => (intro w hSw; (try dsimp only at hSw); go_simp; try with_reducible rfl)
      try simp only [Act.put, List.setIfInBounds_toArray, List.set_cons_zero, List.set_cons_succ]
      refine wpAnyH_take (i := 9) (oi := { dst := some 36, op := Op.load 3 (Operand.tmp 35), type := 3, pos := "match.go:118", after := #[{ on := 8, ground := Ground.data }], guard := none }) (v := ?vo9) rfl (by kernel_rfl) (by kernel_rfl) (by kernel_rfl) (fun _ _ _ h => h) (Or.inl ⟨by rfl, ?ho9⟩) (by assumption) ?ro9
      case ho9 => (intro w hSw; (try dsimp only at hSw); go_simp; try with_reducible rfl)
      try simp only [Act.put, List.setIfInBounds_toArray, List.set_cons_zero, List.set_cons_succ]
      refine wpAnyH_take (i := 10) (oi := { dst := some 37, op := Op.indexAddr 32 (Operand.tmp 28) (Operand.tmp 36), type := 0, pos := "match.go:118", after := #[{ on := 1, ground := Ground.data }, { on := 9, ground := Ground.data }], guard := none }) (v := ?vo10) rfl (by kernel_rfl) (by kernel_rfl) (by kernel_rfl) (fun _ _ _ h => h) (Or.inl ⟨by rfl, ?ho10⟩) (by assumption) ?ro10
      case ho10 => (intro w hSw; (try dsimp only at hSw); go_simp; try with_reducible rfl)
      try simp only [Act.put, List.setIfInBounds_toArray, List.set_cons_zero, List.set_cons_succ]
      refine wpAnyH_take (i := 11) (oi := { dst := some 38, op := Op.load 62 (Operand.tmp 37), type := 62, pos := "match.go:118", after := #[{ on := 10, ground := Ground.data }], guard := none }) (v := ?vo11) rfl (by kernel_rfl) (by kernel_rfl) (by kernel_rfl) (fun _ _ _ h => h) (Or.inl ⟨by rfl, ?ho11⟩) (by assumption) ?ro11
      case ho11 => (intro w hSw; (try dsimp only at hSw); refine run_load_ins (.tmp 37) ?_ ?_ hSw.2.2.2 <;> rfl)
      try simp only [Act.put, List.setIfInBounds_toArray, List.set_cons_zero, List.set_cons_succ]
      refine wpAnyH_ready (rs := [12]) (by kernel_rfl) (by simp) ?_
      refine AllReadyH.cons (o := { dst := some 9, op := Op.alloc 62, type := 0, pos := "match.go:118", after := #[], guard := none }) rfl (fun K hK => ?_) AllReadyH.nil
      rw [if_pos (by rfl)]
      (refine wp_alloc_ins rfl ?_; intro w6 b9 e6 p6 l6 z6; have P6 := Lib.hid p6; have L6 := Lib.hid l6; have E6' := Lib.hid e6; clear e6 p6 l6 z6)
      refine hK.out _ _ ?_ (fun hHeld => ?_)
      · exact seen_below S0.out L6.out
      clear hK K
      try simp only [Act.put, List.setIfInBounds_toArray, List.set_cons_zero, List.set_cons_succ]
      refine wpAnyH_ready (rs := [13]) (by kernel_rfl) (by simp) ?_
      refine AllReadyH.cons (o := { dst := none, op := Op.store 62 (Operand.tmp 9) (Operand.tmp 38), type := 0, pos := "match.go:118", after := #[{ on := 12, ground := Ground.data }, { on := 11, ground := Ground.data }, { on := 0, ground := Ground.phase }, { on := 1, ground := Ground.phase }, { on := 2, ground := Ground.phase }, { on := 3, ground := Ground.phase }, { on := 4, ground := Ground.phase }, { on := 5, ground := Ground.phase }, { on := 6, ground := Ground.phase }, { on := 7, ground := Ground.phase }, { on := 8, ground := Ground.phase }, { on := 9, ground := Ground.phase }, { on := 10, ground := Ground.phase }, { on := 11, ground := Ground.phase }, { on := 12, ground := Ground.phase }], guard := none }) rfl (fun K hK => ?_) AllReadyH.nil
      rw [if_pos (by rfl)]
      (refine wp_store_ins (r := ⟨k, t, X, Y⟩) (.tmp 9) (.tmp 38) rfl rfl rfl P6.out ?_; intro w7 p7 l7 z7; have P7 := Lib.hid p7; have L7 := Lib.hid (two_new L6.out l7 E6'.out); clear p7 l7 z7)
      refine hK.out _ _ ?_ (fun hHeld => ?_)
      · exact seen_below S0.out L7.out
      clear hK K
      refine wpAnyH_done (by kernel_rfl) ?_ _
      have R5 := Lib.hid (R1.out.below (on D1.out L7.out))
      have G5 := Lib.hid (G1.out.trans (Grew.of (on D1.out L7.out)))
      have B45 := Lib.hid (B4.out.below (on D1.out L7.out))
      have B65 := Lib.hid (B6.out.below (on D1.out L7.out))
      have B9 := P7
      have NB9 : Hid (¬ RF r g (.slice (some ⟨gm, 0, none⟩) k1 c1) b9) := by unfold Hid; intro e; have h1 := (R1.out.in_ e).2; have h2 : wr.heap.size = b9 := E6'.out; omega
      clear P7 P6 R1 G1 S0 B4 B6 D1 L7 L6
      generalize w7 = w5 at *
      by_cases k6 : k = 6
      · subst k6
        have hx := HOK.out (by decide)
        try simp only at hx
        obtain ⟨jx, rfl⟩ : ∃ jx : Nat, X = (jx : Int) := ⟨X.toNat, by have := hx.1; omega⟩
        have HJX : Hid (jx < n) := by unfold Hid; have := hx.2.1; omega
        obtain ⟨jy, rfl⟩ : ∃ jy : Nat, Y = (jy : Int) := ⟨Y.toNat, by have := hx.2.2.2.2 trivial; omega⟩
        have HJY : Hid (jy < n) := by unfold Hid; have := hx.2.2.2.2 trivial; omega
        have HEP : Hid (eps (ins L j0) s.size q = [jx, jy]) := by unfold Hid; rw [HX.out]; simp [eps]
        clear hx
        have c0 := B9.out.c0
        have c2 := B9.out.c2
        have c3 := B9.out.c3
        have d1 := B65.out.c1
        have e1 := B45.out.c1
        simp only at c0 c2 c3
        go_wp2_with fail
        refine (put_any R5.out (jx, m.2) HJX.out (by have := HF1.out.len; have := HN2.out; omega)).mono ?_
        rintro e w6 ⟨rfl, v6, r6, g6⟩
        have R6 := Lib.hid r6
        have B46 := Lib.hid (B45.out.same (g6.keeps B45.out.lt (HBX.out _ _ G5.out).1))
        have B66 := Lib.hid (B65.out.same (g6.keeps B65.out.lt (HBX.out _ _ G5.out).2))
        have B9 : Hid (IBox w6 b9 ⟨6, t, jx, jy⟩) := (g6.keeps B9.out.lt NB9.out).trans B9.out
        have c3 := B9.out.c3
        have d1 := B66.out.c1
        simp only at c3
        have G6 := Lib.hid (G5.out.trans g6)
        have F6 := Lib.hid (HF1.out.put (m := (jx, m.2)) HJX.out)
        clear r6 g6
        go_wp2_with fail
        refine (put_any R6.out (jy, m.2) HJY.out (by have := F6.out.len; have := HN2.out; omega)).mono ?_
        rintro e w7 ⟨rfl, v7, r7, g7⟩
        have R7 := Lib.hid r7
        have B47 := Lib.hid (B46.out.same (g7.keeps B46.out.lt (HBX.out _ _ G6.out).1))
        have B67 := Lib.hid (B66.out.same (g7.keeps B66.out.lt (HBX.out _ _ G6.out).2))
        have G7 := Lib.hid (G6.out.trans g7)
        have F7 := Lib.hid (F6.out.put (m := (jy, m.2)) HJY.out)
        clear r7 g7
        cases gk with
        | zero => exact absurd HLE.out (by have := HF1.out.len; have := HI.out; omega)
        | succ gk =>
          go_wp2_with fail
          go_roundg gk
          case measure => omega
          case rel =>
            refine ⟨i + 1, _, _, by first | rfl | exact congrArg (Value.int .i64) hwi.out, R7, G7, F7, B47, B67, ?_, by have := HLE.out; unfold Hid; omega⟩
            unfold Hid
            rw [← HGO.out, go_next HMI.out, HEP.out]
            rfl
      · by_cases k8 : k = 8
        · subst k8
          have hx := HOK.out (by decide)
          try simp only at hx
          obtain ⟨jx, rfl⟩ : ∃ jx : Nat, X = (jx : Int) := ⟨X.toNat, by have := hx.1; omega⟩
          have HJX : Hid (jx < n) := by unfold Hid; have := hx.2.1; omega
          have HEP : Hid (eps (ins L j0) s.size q = [jx]) := by unfold Hid; rw [HX.out]; simp [eps]
          clear hx
          have c0 := B9.out.c0
          have c2 := B9.out.c2
          have c3 := B9.out.c3
          have d1 := B65.out.c1
          have e1 := B45.out.c1
          simp only at c0 c2 c3
          go_wp2_with fail
          refine (put_any R5.out (jx, m.2) HJX.out (by have := HF1.out.len; have := HN2.out; omega)).mono ?_
          rintro e w6 ⟨rfl, v6, r6, g6⟩
          have R6 := Lib.hid r6
          have B46 := Lib.hid (B45.out.same (g6.keeps B45.out.lt (HBX.out _ _ G5.out).1))
          have B66 := Lib.hid (B65.out.same (g6.keeps B65.out.lt (HBX.out _ _ G5.out).2))
          have G6 := Lib.hid (G5.out.trans g6)
          have F6 := Lib.hid (HF1.out.put (m := (jx, m.2)) HJX.out)
          clear r6 g6
          cases gk with
          | zero => exact absurd HLE.out (by have := HF1.out.len; have := HI.out; omega)
          | succ gk =>
            go_wp2_with fail
            go_roundg gk
            case measure => omega
            case rel =>
              refine ⟨i + 1, _, _, by first | rfl | exact congrArg (Value.int .i64) hwi.out, R6, G6, F6, B46, B66, ?_, by have := HLE.out; unfold Hid; omega⟩
              unfold Hid
              rw [← HGO.out, go_next HMI.out, HEP.out]
              rfl
        · by_cases k4 : k = 4
          · by_cases q0 : q = 0
            · subst k4
              subst q0
              have hx := HOK.out (by decide)
              try simp only at hx
              obtain ⟨jx, rfl⟩ : ∃ jx : Nat, X = (jx : Int) := ⟨X.toNat, by have := hx.1; omega⟩
              have HJX : Hid (jx < n) := by unfold Hid; have := hx.2.1; omega
              have HEP : Hid (eps (ins L j0) s.size 0 = [jx]) := by unfold Hid; rw [HX.out]; simp [eps]
              clear hx
              have c0 := B9.out.c0
              have c2 := B9.out.c2
              have c3 := B9.out.c3
              have d1 := B65.out.c1
              have e1 := B45.out.c1
              simp only at c0 c2 c3
              go_wp2_with fail
              refine (put_any R5.out (jx, m.2) HJX.out (by have := HF1.out.len; have := HN2.out; omega)).mono ?_
              rintro e w6 ⟨rfl, v6, r6, g6⟩
              have R6 := Lib.hid r6
              have B46 := Lib.hid (B45.out.same (g6.keeps B45.out.lt (HBX.out _ _ G5.out).1))
              have B66 := Lib.hid (B65.out.same (g6.keeps B65.out.lt (HBX.out _ _ G5.out).2))
              have G6 := Lib.hid (G5.out.trans g6)
              have F6 := Lib.hid (HF1.out.put (m := (jx, m.2)) HJX.out)
              clear r6 g6
              cases gk with
              | zero => exact absurd HLE.out (by have := HF1.out.len; have := HI.out; omega)
              | succ gk =>
                go_wp2_with fail
                go_roundg gk
                case measure => omega
                case rel =>
                  refine ⟨i + 1, _, _, by first | rfl | exact congrArg (Value.int .i64) hwi.out, R6, G6, F6, B46, B66, ?_, by have := HLE.out; unfold Hid; omega⟩
                  unfold Hid
                  rw [← HGO.out, go_next HMI.out, HEP.out]
                  rfl
            · subst k4
              have tq : ((q : Int) == 0) = false := by simp; omega
              have HEP : Hid (eps (ins L j0) s.size q = []) := by unfold Hid; rw [HX.out]; simp [eps, q0]
              clear q0
              have c0 := B9.out.c0
              have c2 := B9.out.c2
              have c3 := B9.out.c3
              have d1 := B65.out.c1
              have e1 := B45.out.c1
              simp only at c0 c2 c3
              cases gk with
              | zero => exact absurd HLE.out (by have := HF1.out.len; have := HI.out; omega)
              | succ gk =>
                go_wp2_with fail
                go_roundg gk
                case measure => omega
                case rel =>
                  refine ⟨i + 1, _, _, by first | rfl | exact congrArg (Value.int .i64) hwi.out, R5, G5, HF1, B45, B65, ?_, by have := HLE.out; unfold Hid; omega⟩
                  unfold Hid
                  rw [← HGO.out, go_next HMI.out, HEP.out]
                  rfl
          · by_cases k5 : k = 5
            · by_cases q0 : q = s.size
              · subst k5
                have tq : ((q : Int) == (s.size : Int)) = true := by simp; omega
                have hx := HOK.out (by decide)
                try simp only at hx
                obtain ⟨jx, rfl⟩ : ∃ jx : Nat, X = (jx : Int) := ⟨X.toNat, by have := hx.1; omega⟩
                have HJX : Hid (jx < n) := by unfold Hid; have := hx.2.1; omega
                have HEP : Hid (eps (ins L j0) s.size q = [jx]) := by unfold Hid; rw [HX.out]; simp [eps, q0]
                clear hx q0
                have c0 := B9.out.c0
                have c2 := B9.out.c2
                have c3 := B9.out.c3
                have d1 := B65.out.c1
                have e1 := B45.out.c1
                simp only at c0 c2 c3
                go_wp2_with fail
                refine (put_any R5.out (jx, m.2) HJX.out (by have := HF1.out.len; have := HN2.out; omega)).mono ?_
                rintro e w6 ⟨rfl, v6, r6, g6⟩
                have R6 := Lib.hid r6
                have B46 := Lib.hid (B45.out.same (g6.keeps B45.out.lt (HBX.out _ _ G5.out).1))
                have B66 := Lib.hid (B65.out.same (g6.keeps B65.out.lt (HBX.out _ _ G5.out).2))
                have G6 := Lib.hid (G5.out.trans g6)
                have F6 := Lib.hid (HF1.out.put (m := (jx, m.2)) HJX.out)
                clear r6 g6
                cases gk with
                | zero => exact absurd HLE.out (by have := HF1.out.len; have := HI.out; omega)
                | succ gk =>
                  go_wp2_with fail
                  go_roundg gk
                  case measure => omega
                  case rel =>
                    refine ⟨i + 1, _, _, by first | rfl | exact congrArg (Value.int .i64) hwi.out, R6, G6, F6, B46, B66, ?_, by have := HLE.out; unfold Hid; omega⟩
                    unfold Hid
                    rw [← HGO.out, go_next HMI.out, HEP.out]
                    rfl
              · subst k5
                have tq : ((q : Int) == (s.size : Int)) = false := by simp; omega
                have HEP : Hid (eps (ins L j0) s.size q = []) := by unfold Hid; rw [HX.out]; simp [eps, q0]
                clear q0
                have c0 := B9.out.c0
                have c2 := B9.out.c2
                have c3 := B9.out.c3
                have d1 := B65.out.c1
                have e1 := B45.out.c1
                simp only at c0 c2 c3
                cases gk with
                | zero => exact absurd HLE.out (by have := HF1.out.len; have := HI.out; omega)
                | succ gk =>
                  go_wp2_with fail
                  go_roundg gk
                  case measure => omega
                  case rel =>
                    refine ⟨i + 1, _, _, by first | rfl | exact congrArg (Value.int .i64) hwi.out, R5, G5, HF1, B45, B65, ?_, by have := HLE.out; unfold Hid; omega⟩
                    unfold Hid
                    rw [← HGO.out, go_next HMI.out, HEP.out]
                    rfl
            · have t6 : (k == 6) = false := by simpa using k6
              have t8 : (k == 8) = false := by simpa using k8
              have t4 : (k == 4) = false := by simpa using k4
              have t5 : (k == 5) = false := by simpa using k5
              have HEP : Hid (eps (ins L j0) s.size q = []) := by unfold Hid; rw [HX.out]; simp [eps, k6, k8, k4, k5]
              clear k6 k8 k4 k5
              have c0 := B9.out.c0
              have c2 := B9.out.c2
              have c3 := B9.out.c3
              have d1 := B65.out.c1
              have e1 := B45.out.c1
              simp only at c0 c2 c3
              cases gk with
              | zero => exact absurd HLE.out (by have := HF1.out.len; have := HI.out; omega)
              | succ gk =>
                go_wp2_with fail
                go_roundg gk
                case measure => omega
                case rel =>
                  refine ⟨i + 1, _, _, by first | rfl | exact congrArg (Value.int .i64) hwi.out, R5, G5, HF1, B45, B65, ?_, by have := HLE.out; unfold Hid; omega⟩
                  unfold Hid
                  rw [← HGO.out, go_next HMI.out, HEP.out]
                  rfl
    · have ti : ¬ (i : Int) < (M1.length : Int) := by omega
      obtain ⟨A1, c1, rfl, hk1, hk2⟩ := R1.out.form
      unfold maxLen at hk2
      have hr0 := R1.out.c0
      have HE : Hid (M1 = R) := by unfold Hid; rw [← HGO.out, go_stop (by omega)]
      obtain ⟨k1, hk⟩ : ∃ k1, M1.length = k1 := ⟨_, rfl⟩
      rw [hk] at hk1 hr0 R1 G1 ti
      clear hi hk
      go_wp2_with fail
      go_end0
      rw [← HE.out]
      exact ⟨rfl, _, R1.out, (Grew.of L2.out).trans G1.out⟩
end Go.Proofs.YtehdnbidgphecaaGreatDoor.W16
