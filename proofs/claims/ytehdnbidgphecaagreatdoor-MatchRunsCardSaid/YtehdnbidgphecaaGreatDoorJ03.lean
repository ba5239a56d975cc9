/-
  Texts joined, in build order, each with its own comment and its own conditions: W14Take, RecKeep, W15Heap, OpenInsts, W14NoAtom, W14Real.
-/
import Derived.Test.YtehdnbidgphecaaGreatDoorJ02
import Derived.Test.YtehdnbidgphecaaGreatDoorJ01
import Derived.Test.YtehdnbidgphecaaGreatDoorChecked
/-
  Layer 14 (pattern), pieces as arguments: put into a box, loaded out of it, their kids by number; how all this is kept. The conditions stand in the statements.
-/
namespace Go.Proofs.YtehdnbidgphecaaGreatDoor.W14
open Go Go.RowKit Go.Proofs.YtehdnbidgphecaaGreatDoor.Strs Go.Proofs.YtehdnbidgphecaaGreatDoor.Recs Go.Proofs.YtehdnbidgphecaaGreatDoor.M14
open Go.Proofs.YtehdnbidgphecaaGreatDoor.Row256 (Beside)
open Go.Proofs.YtehdnbidgphecaaGreatDoor.Kit (below_draws on)

section
variable {ops : Array Oper} {rest : List Oper} {o : Oper} {a : Act} {w : World} {Q : Exit → Act → World → Prop}
/-- a piece that came in is put into a box -/
theorem box_arg (hgd : o.guard = none) (x : Operand) (ho : o.op = .box 25 x) {r : Raw} (hx : a.eval x = .agg (rawA r))
    (h : ∀ w' b, w.heap.size = b → PBox w' b r → Below w.heap.size w w' → w'.heap.size = w.heap.size + 1 → wpList Tryz.prog ops Q rest (a.put o.dst (.pointer (some ⟨b, 0, none⟩))) w') : wpList Tryz.prog ops Q (o :: rest) a w :=
  wpList_plain hgd fun _ hK => by
    unfold Oper.wp execOp
    simp only [ho, hx, Instr.box, newVar, newRow, Sem.run_bind, Sem.run_pure]
    exact hK _ _ (h _ _ rfl (heap_alloc_new w _) (below_new w _) (World.size_alloc w _))
end
/-- a piece's load as an operation of a drawn region -/
theorem run_load_op {a : Act} {o : Oper} {w : World} (x : Operand) (ho : o.op = .load 25 x) {b k : Nat} (hx : a.eval x = .pointer (some ⟨b, k, none⟩)) {r : Raw} (hr : ∀ j, j < 5 → w.cell? ⟨b, k + j, none⟩ = (rawC r)[j]?) : (execOp a.eval o).run Tryz.prog w = .ok (.value (.agg (rawA r))) w := by
  have hl : (loadCells ⟨b, k, none⟩ (rawC r).length).run Tryz.prog w = .ok (rawC r).toArray w := run_loadCells_list (P := Tryz.prog) w ⟨b, k, none⟩ (rawC r) fun j v hv => by
    have hadd : (⟨b, k, none⟩ : Addr).add j = ⟨b, k + j, none⟩ := by unfold Addr.add; split <;> simp_all
    have hj : j < 5 := by
      rcases Nat.lt_or_ge j (rawC r).length with q | q
      · rw [rawC_len] at q; exact q
      · rw [List.getElem?_eq_none q] at hv; cases hv
    rw [hadd, hr j hj]; exact hv
  obtain ⟨i, hi, -, h2, -⟩ := info_parts piece_info
  have hagg : (isAgg 25).run Tryz.prog w = .ok true w := by
    unfold isAgg
    rw [Sem.run_bind, run_underlying Tryz.underlying25 w]
    rfl
  rw [rawC_len] at hl
  unfold execOp
  simp only [ho, hx, Instr.loadAt, Instr.sureAddr, loadVar, sizeOf, typeInfo, Sem.run_bind, Sem.run_pure, Result.andThen_ok, hagg]
  simp [hi, h2, hl, Sem.run_bind, Result.andThen]
  rfl
section
variable {w w' : World} {b : Nat} {r : Raw}
theorem PBox.c0 (h : PBox w b r) : w.cell? ⟨b, 0, none⟩ = some (.int .i64 r.kind) := cell_of_row w b 0 _ _ _ h
theorem PBox.c1 (h : PBox w b r) : w.cell? ⟨b, 1, none⟩ = some (.string r.text) := cell_of_row w b 1 _ _ _ h
theorem PBox.c2 (h : PBox w b r) : w.cell? ⟨b, 2, none⟩ = some (.slice r.ad r.len r.cap) := cell_of_row w b 2 _ _ _ h
theorem PBox.c3 (h : PBox w b r) : w.cell? ⟨b, 3, none⟩ = some (.int .i64 r.least) := cell_of_row w b 3 _ _ _ h
theorem PBox.c4 (h : PBox w b r) : w.cell? ⟨b, 4, none⟩ = some (.int .i64 r.top) := cell_of_row w b 4 _ _ _ h
theorem PBox.cells (h : PBox w b r) : ∀ j, j < 5 → w.cell? ⟨b, 0 + j, none⟩ = (rawC r)[j]? := by
  intro j hj
  rw [Nat.zero_add, cell_of_row w b j _ _ _ h]
  match j, hj with
  | 0, _ => rfl
  | 1, _ => rfl
  | 2, _ => rfl
  | 3, _ => rfl
  | 4, _ => rfl
end
/-- a piece, all whose blocks lie below the world's end -/
def PLow (w : World) (r : Raw) (p : Piece) : Prop := PAt (fun b => b < w.heap.size) w r p
theorem PLow.below {w w' : World} {r : Raw} {p : Piece} (h : PLow w r p) (hb : Below w.heap.size w w') : PLow w' r p :=
  PAt.keep h (fun _ q => Nat.lt_of_lt_of_le q hb.size) fun _ q => cell_block (hb.block _ q)
theorem PAt.low {lo : Nat} {w : World} {r : Raw} {p : Piece} (h : PAt (In lo w.heap.size) w r p) : PLow w r p := h.keep (fun _ q => q.2) fun _ _ => rfl
/-- a piece's kids in memory -/
def Kids (w : World) (A : Option Addr) (c : Nat) (raws : List Raw) (ks : List Piece) : Prop :=
  (∃ B, Raws B w (.slice A ks.length c) raws) ∧ (∀ ad, A = some ad → 0 < raws.length → ad.block < w.heap.size) ∧ PAll (fun b => b < w.heap.size) w raws ks
theorem PLow.parts {w : World} {r : Raw} {k : Int} {t : ByteArray} {ks : List Piece} {l tp : Int} (h : PLow w r (.mk k t ks l tp)) : ∃ A c raws, r = ⟨k, t, A, ks.length, c, l, tp⟩ ∧ Kids w A c raws ks := by
  unfold PLow at h
  cases h with
  | mk _ _ A n c _ _ raws _ B h hX hl hk =>
    have hn : n = ks.length := by
      obtain ⟨A', c', e, -⟩ := h
      injection e with e1 e2 e3
      omega
    subst hn
    exact ⟨A, c, raws, rfl, ⟨B, h⟩, hX, hl, hk⟩
theorem Kids.below {w w' : World} {A : Option Addr} {c : Nat} {raws : List Raw} {ks : List Piece} (h : Kids w A c raws ks) (hb : Below w.heap.size w w') : Kids w' A c raws ks := by
  obtain ⟨⟨B, h1⟩, h2, h3⟩ := h
  refine ⟨⟨B, raws_keep h1 fun ad e hn p hp => cell_block (hb.block _ (by rw [hp]; exact h2 ad e hn))⟩, fun ad e hn => Nat.lt_of_lt_of_le (h2 ad e hn) hb.size, h3.keep (fun _ q => Nat.lt_of_lt_of_le q hb.size) fun _ q => cell_block (hb.block _ q)⟩
theorem Kids.room {w : World} {A : Option Addr} {c : Nat} {raws : List Raw} {ks : List Piece} (h : Kids w A c raws ks) : ks.length ≤ c ∧ c ≤ 9223372036854775807 := by
  obtain ⟨⟨B, A', c', e, h2, h3, -⟩, -, h4, -⟩ := h
  injection e with e1 e2 e3
  subst e3
  unfold maxLen at h3
  omega
theorem Kids.at_ {w : World} {A : Option Addr} {c : Nat} {raws : List Raw} {ks : List Piece} (h : Kids w A c raws ks) (hn : 0 < ks.length) : ∃ g o, A = some ⟨g, o, none⟩ ∧ ∀ i (hi : i < raws.length), ∀ j, j < 5 → w.cell? ⟨g, o + i * 5 + j, none⟩ = (rawC raws[i])[j]? := by
  obtain ⟨⟨B, h1⟩, h2, h3, -⟩ := h
  obtain ⟨g, o, hl, e, -, -⟩ := h1.flat_ rawC_len (by decide) (k := 0) hn
  refine ⟨g, o, e, fun i hi => ?_⟩
  obtain ⟨g', o', hl', e', -, hc⟩ := h1.flat_ rawC_len (by decide) (k := i) (by omega)
  rw [e] at e'
  cases e'
  exact hc
theorem Kids.kid {w : World} {A : Option Addr} {c : Nat} {raws : List Raw} {ks : List Piece} (h : Kids w A c raws ks) {i : Nat} (hi : i < ks.length) : ∃ hr : i < raws.length, PLow w raws[i] ks[i] := by
  obtain ⟨-, -, h3, h4⟩ := h
  exact ⟨by omega, h4 i (by omega) hi⟩
theorem Kids.moved {w w' : World} {g o c : Nat} {raws : List Raw} {ks : List Piece} (h : Kids w (some ⟨g, o, none⟩) c raws ks) (hb : Below w.heap.size w w') {i : Nat} (hi : i < raws.length) (hc : ∀ j, j < 5 → w.cell? ⟨g, o + i * 5 + j, none⟩ = (rawC raws[i])[j]?) : ∀ j, j < 5 → w'.cell? ⟨g, o + i * 5 + j, none⟩ = (rawC raws[i])[j]? := fun j hj =>
  (cell_block (hb.block g (h.2.1 _ rfl (Nat.lt_of_le_of_lt (Nat.zero_le _) hi)))).trans (hc j hj)
end Go.Proofs.YtehdnbidgphecaaGreatDoor.W14
/-
  append(own, records...) where the first is a row of the call's own: all blocks but that of the row that comes out lie as they lay. For every program; the conditions stand in the statements.
-/
namespace Go.Proofs.YtehdnbidgphecaaGreatDoor.Recs
open Go Go.RowKit

/-- what an append leaves: all blocks but that of the row that comes out -/
theorem old_kept {P : Program} (w : World) (base : Nat) (t ty e : TypeId) (i : TypeInfo) (z : Value) (size bytes : Nat) (ht : P.underlying t = some (.slice e)) (hi : P.info? e = some i) (hz : i.zero = some z)
    (hsize : i.size = size) (hby : i.bytes = bytes) (hzs : z.cells.size = size) (hsz : 0 < size)
    (v : Value) (n : Nat) (xs : List Value) (hown : w.ownsRow base e size v n xs) (hbase : base ≤ w.heap.size)
    (a : Addr) (m c : Nat) (news : List Value) (hl : news.length = m * size) (hnews : ∀ j u, news[j]? = some u → w.cell? (a.add j) = some u) (h1 : ∀ u ∈ news, u.oneCell' = true)
    (h63 : n + m ≤ maxLen) (hbytes : (n + m) * bytes ≤ 140737488355328) {v' : Value} {w' : World} (hr : (Builtin.append_ #[t, t] ty #[v, .slice (some a) m c]).run P w = .ok v' w') :
    ∀ k, k < w.heap.size → v'.ownBlock ≠ some k → w'.heap[k]? = w.heap[k]? := by
  subst hsize
  subst hby
  intro k hk hne
  obtain ⟨v2, w2, hr2, -, hg2, -⟩ := run_append_own w base t ty e i z i.size i.bytes ht hi hz rfl rfl hzs hsz v n xs hown a m c news hl hnews h1 h63 hbytes hbase
  rw [hr] at hr2
  cases hr2
  obtain ⟨-, -, -, -, g5⟩ := hg2
  rcases hown.2 with ⟨rfl, rfl⟩ | ⟨g, cap, cur, rfl, hbg, hg, hnc, hcm, hcs, htake⟩
  · exact g5 k hk (by simp [Value.ownBlock])
  · by_cases hroom : n + m ≤ cap
    · have hfit : n * i.size + news.length ≤ cur.size := by rw [hl, hcs, ← Nat.add_mul]; exact Nat.mul_le_mul_right _ hroom
      rw [run_append_room w t ty e i ht hi g n cap cur hg a m c news hl hnews h1 hroom hfit] at hr
      cases hr
      exact g5 k hk (fun q => hne (by rw [q]; rfl))
    · have holds : ∀ j u, xs[j]? = some u → w.cell? ((⟨g, 0, none⟩ : Addr).add j) = some u := hown.cells (g := g) rfl
      have hsmall : n + m ≤ 9223372036854775807 := by simp only [maxLen] at h63; omega
      rw [run_append_grow w t ty e i z ht hi hz ⟨g, 0, none⟩ n cap xs hown.1 holds a m c news hl hnews (by omega) (by omega) (growslice_fits (by omega) hbytes)] at hr
      cases hr
      exact heap_alloc_old w _ hk
/-- what an append of records comes to -/
structure Put (v v' : Value) (w w' : World) : Prop where
  grown : w.grownBy w' v.ownBlock
  own : ∀ k, v'.ownBlock = some k → v.ownBlock = some k ∨ w.heap.size ≤ k
  kept : ∀ k, k < w.heap.size → v'.ownBlock ≠ some k → w'.heap[k]? = w.heap[k]?
theorem wp_append_put {α : Type} {enc : α → List Value} {P : Program} {w : World} {o : Oper} {a : Act} {K : Act → World → Prop} {Q : Exit → Act → World → Prop} (s x : Operand) (t : TypeId)
    (ho : o.op = .call { callee := .builtin .append, args := #[s, x], argTypes := #[t, t] })
    (base : Nat) (e : TypeId) (i : TypeInfo) (z : Value) (size bytes : Nat) (ht : P.underlying t = some (.slice e)) (hi : P.info? e = some i) (hz : i.zero = some z)
    (hsize : i.size = size) (hby : i.bytes = bytes) (hzs : z.cells.size = size) (hsz : 0 < size)
    (v : Value) (n : Nat) (xs : List Value) (hs : a.eval s = v) (hown : w.ownsRow base e size v n xs)
    (u : Value) (L : List α) (B : Nat) (hx : a.eval x = u) (hu : Recs enc size B w u L) (he : ∀ r : α, (enc r).length = size) (h1 : ∀ r : α, ∀ c ∈ enc r, c.oneCell' = true)
    (h63 : n + L.length ≤ maxLen) (hbytes : (n + L.length) * bytes ≤ 140737488355328) (hbase : base ≤ w.heap.size)
    (h : ∀ v' w', w'.ownsRow base e size v' (n + L.length) (xs ++ L.flatMap enc) → Put v v' w w' → K (a.put o.dst v') w') : o.wp P a w K Q := by
  obtain ⟨A, c, rfl, hc1, hc2⟩ := hu.form
  have hfl : (L.flatMap enc).length = L.length * size := flat_len he L
  have hone : ∀ u ∈ L.flatMap enc, u.oneCell' = true := fun q hq => by
    obtain ⟨r, _, hr⟩ := List.mem_flatMap.1 hq
    exact h1 r q hr
  cases A with
  | none =>
    have h0 : L.length = 0 := by
      rcases Nat.eq_zero_or_pos L.length with q | q
      · exact q
      · obtain ⟨b, o, hf, _⟩ := hu.news he hsz q
        cases hf
    have hL : L = [] := List.length_eq_zero_iff.1 h0
    subst hL
    have hrun := run_append_void (P := P) (w := w) base t o.type e i size ht hi v n c xs hown
    have hx' : a.eval x = .slice none 0 c := hx
    unfold Oper.wp
    simp [execOp, ho, resolve, invoke, builtin, hs, hx', hrun, Result.andThen]
    exact h v w (by simpa using hown) ⟨⟨rfl, rfl, rfl, Nat.le_refl _, fun _ _ _ => rfl⟩, fun k hk => Or.inl hk, fun _ _ _ => rfl⟩
  | some ad =>
    have hnews : ∀ j q, (L.flatMap enc)[j]? = some q → w.cell? (ad.add j) = some q := by
      intro j q hq
      rcases Nat.eq_zero_or_pos L.length with h0 | h0
      · have : L = [] := List.length_eq_zero_iff.1 h0
        subst this
        simp at hq
      · obtain ⟨b, o, hf, _, hcell⟩ := hu.news he hsz h0
        cases hf
        exact hcell j q hq
    obtain ⟨v', w', hr, h2, h3, -⟩ := run_append_own (P := P) w base t o.type e i z size bytes ht hi hz hsize hby hzs hsz v n xs hown ad L.length c (L.flatMap enc) hfl hnews hone h63 hbytes hbase
    have h4 := own_block_next w base t o.type e i z size bytes ht hi hz hsize hby hzs hsz v n xs hown ad L.length c (L.flatMap enc) hfl hnews hone h63 hbytes hr
    have h5 := old_kept w base t o.type e i z size bytes ht hi hz hsize hby hzs hsz v n xs hown hbase ad L.length c (L.flatMap enc) hfl hnews hone h63 hbytes hr
    have hx' : a.eval x = .slice (some ad) L.length c := hx
    unfold Oper.wp execOp
    simp only [ho, resolve, invoke, builtin, Sem.run_bind, Sem.run_pure, Result.andThen_ok, List.map_toArray, List.map_cons, List.map_nil, hs, hx', hr]
    exact h v' w' h2 ⟨h3, h4, h5⟩
theorem wpList_append_put {α : Type} {enc : α → List Value} {P : Program} {w : World} {ops : Array Oper} {rest : List Oper} {o : Oper} {a : Act} {Q : Exit → Act → World → Prop} (hgd : o.guard = none) (s x : Operand) (t : TypeId)
    (ho : o.op = .call { callee := .builtin .append, args := #[s, x], argTypes := #[t, t] })
    (base : Nat) (e : TypeId) (i : TypeInfo) (z : Value) (size bytes : Nat) (ht : P.underlying t = some (.slice e)) (hi : P.info? e = some i) (hz : i.zero = some z)
    (hsize : i.size = size) (hby : i.bytes = bytes) (hzs : z.cells.size = size) (hsz : 0 < size)
    (v : Value) (n : Nat) (xs : List Value) (hs : a.eval s = v) (hown : w.ownsRow base e size v n xs)
    (u : Value) (L : List α) (B : Nat) (hx : a.eval x = u) (hu : Recs enc size B w u L) (he : ∀ r : α, (enc r).length = size) (h1 : ∀ r : α, ∀ c ∈ enc r, c.oneCell' = true)
    (h63 : n + L.length ≤ maxLen) (hbytes : (n + L.length) * bytes ≤ 140737488355328) (hbase : base ≤ w.heap.size)
    (h : ∀ v' w', w'.ownsRow base e size v' (n + L.length) (xs ++ L.flatMap enc) → Put v v' w w' → wpList P ops Q rest (a.put o.dst v') w') : wpList P ops Q (o :: rest) a w :=
  wpList_plain hgd fun _ hK => wp_append_put s x t ho base e i z size bytes ht hi hz hsize hby hzs hsz v n xs hs hown u L B hx hu he h1 h63 hbytes hbase fun v' w' h2 h3 => hK _ _ (h v' w' h2 h3)
end Go.Proofs.YtehdnbidgphecaaGreatDoor.Recs
/-
  Layer 15 (prog), steps in memory: boxes and slices of them, what an append leaves; numbers in a slice; steps of walks over all this. The conditions stand in the statements.
-/
namespace Go.Proofs.YtehdnbidgphecaaGreatDoor.W15
open Go Go.RowKit Go.Proofs.YtehdnbidgphecaaGreatDoor.Strs Go.Proofs.YtehdnbidgphecaaGreatDoor.Recs Go.Proofs.YtehdnbidgphecaaGreatDoor.M15
open Go.Proofs.YtehdnbidgphecaaGreatDoor.M14 (Piece size sizes)
open Go.Proofs.YtehdnbidgphecaaGreatDoor.W14 (Raw rawA rawC PAt PBox Kids below_new cell_block)
open Go.Proofs.YtehdnbidgphecaaGreatDoor.Row256 (Beside)

/-- a step's cells -/
def insC (x : Inst) : List Value := [.int .i64 x.kind, .string x.text, .int .i64 x.x, .int .i64 x.y]
def insA (x : Inst) : Array Value := #[.int .i64 x.kind, .string x.text, .int .i64 x.x, .int .i64 x.y]
theorem insC_len (x : Inst) : (insC x).length = 4 := rfl
theorem insC_one (x : Inst) : ∀ c ∈ insC x, c.oneCell' = true := by
  intro c hc
  simp only [insC, List.mem_cons, List.not_mem_nil, or_false] at hc
  rcases hc with rfl | rfl | rfl | rfl <;> rfl
theorem insA_one (x : Inst) : (insA x).all (·.oneCell') = true := by simp [insA, Value.oneCell']
abbrev Prg (B : Nat) (w : World) (v : Value) (L : List Inst) : Prop := Recs insC 4 B w v L
theorem ins_info : (Tryz.prog.info? 62).map (fun i => (i.zero, i.size, i.bytes)) = some (some (.agg #[.int .i64 0, .string ⟨#[]⟩, .int .i64 0, .int .i64 0]), 4, 40) := by kernel_rfl
theorem ins_size (x : Inst) : (Tryz.prog.info? 62).map (·.size) = some (insA x).size := by
  obtain ⟨i, hi, -, h2, -⟩ := info_parts ins_info
  rw [hi]; simp [insA, h2]
def zeroI : Inst := ⟨0, ⟨#[]⟩, 0, 0⟩
/-- block b is a step's box, and may be written -/
def IBox (w : World) (b : Nat) (x : Inst) : Prop := w.heap[b]? = some (.cells (insA x) 62 (0, 0))
section
variable {w w' : World} {b : Nat} {x : Inst}
theorem IBox.lt (h : IBox w b x) : b < w.heap.size := (Array.getElem?_eq_some_iff.1 h).1
theorem IBox.below (h : IBox w b x) (k : Below w.heap.size w w') : IBox w' b x := (k.block b h.lt).trans h
theorem IBox.c0 (h : IBox w b x) : w.cell? ⟨b, 0, none⟩ = some (.int .i64 x.kind) := cell_of_row w b 0 _ _ _ h
theorem IBox.c1 (h : IBox w b x) : w.cell? ⟨b, 1, none⟩ = some (.string x.text) := cell_of_row w b 1 _ _ _ h
theorem IBox.c2 (h : IBox w b x) : w.cell? ⟨b, 2, none⟩ = some (.int .i64 x.x) := cell_of_row w b 2 _ _ _ h
theorem IBox.c3 (h : IBox w b x) : w.cell? ⟨b, 3, none⟩ = some (.int .i64 x.y) := cell_of_row w b 3 _ _ _ h
theorem IBox.free (h : IBox w b x) (i : Nat) : w.frozen? ⟨b, i, none⟩ = false := frozen_of_row w b i _ _ h
theorem IBox.put2 (h : IBox w b x) (n : Int) : IBox (w.setCell ⟨b, 2, none⟩ (.int .i64 n)) b { x with x := n } := by
  unfold IBox at *
  rw [heap_setCell_same w b 2 _ _ _ h]; rfl
theorem IBox.put3 (h : IBox w b x) (n : Int) : IBox (w.setCell ⟨b, 3, none⟩ (.int .i64 n)) b { x with y := n } := by
  unfold IBox at *
  rw [heap_setCell_same w b 3 _ _ _ h]; rfl
end
theorem zero_ins (w : World) : (zeroValue 62).run Tryz.prog w = .ok (.agg (insA zeroI)) w := by
  obtain ⟨i, hi, h1, -, -⟩ := info_parts ins_info
  simp [zeroValue, typeInfo, hi, h1]; rfl
section
variable {ops : Array Oper} {rest : List Oper} {o : Oper} {a : Act} {w : World} {Q : Exit → Act → World → Prop}
theorem alloc_ins (hgd : o.guard = none) (ho : o.op = .alloc 62)
    (h : ∀ w' b, w.heap.size = b → IBox w' b zeroI → Below w.heap.size w w' → w'.heap.size = w.heap.size + 1 → wpList Tryz.prog ops Q rest (a.put o.dst (.pointer (some ⟨b, 0, none⟩))) w') : wpList Tryz.prog ops Q (o :: rest) a w :=
  wpList_plain hgd fun _ hK => by
    unfold Oper.wp execOp
    simp only [ho, Instr.alloc, newVar, newRow, zero_ins, Sem.run_bind, Sem.run_pure, Result.andThen_ok]
    exact hK _ _ (h _ _ rfl (heap_alloc_new w _) (below_new w _) (World.size_alloc w _))
theorem box_ins (hgd : o.guard = none) (x : Operand) (ho : o.op = .box 62 x) {r : Inst} (hx : a.eval x = .agg (insA r))
    (h : ∀ w' b, w.heap.size = b → IBox w' b r → Below w.heap.size w w' → w'.heap.size = w.heap.size + 1 → wpList Tryz.prog ops Q rest (a.put o.dst (.pointer (some ⟨b, 0, none⟩))) w') : wpList Tryz.prog ops Q (o :: rest) a w :=
  wpList_plain hgd fun _ hK => by
    unfold Oper.wp execOp
    simp only [ho, hx, Instr.box, newVar, newRow, Sem.run_bind, Sem.run_pure]
    exact hK _ _ (h _ _ rfl (heap_alloc_new w _) (below_new w _) (World.size_alloc w _))
theorem load_ibox (hgd : o.guard = none) (x : Operand) (ho : o.op = .load 62 x) {b : Nat} (hx : a.eval x = .pointer (some ⟨b, 0, none⟩)) {r : Inst} (hr : IBox w b r) (h : wpList Tryz.prog ops Q rest (a.put o.dst (.agg (insA r))) w) : wpList Tryz.prog ops Q (o :: rest) a w :=
  wpList_load_row hgd 62 x ho b hx 62 (insA r) (0, 0) _ hr Tryz.underlying62 rfl (ins_size r) h
theorem store_ins (hgd : o.guard = none) (x y : Operand) (ho : o.op = .store 62 x y) {b : Nat} {r old : Inst} (hx : a.eval x = .pointer (some ⟨b, 0, none⟩)) (hy : a.eval y = .agg (insA r)) (hr : IBox w b old)
    (h : ∀ w', IBox w' b r → Beside b w w' → w'.heap.size = w.heap.size → wpList Tryz.prog ops Q rest (a.put o.dst undef) w') : wpList Tryz.prog ops Q (o :: rest) a w :=
  wpList_store_row hgd 62 x y ho b (insA r) hx hy 62 (insA old) hr (ins_size r) rfl (insA_one r)
    (h _ (setRow_heap w b _ _ _ _ hr) ⟨rfl, rfl, rfl, by rw [setRow_size]; exact Nat.le_refl _, fun k _ e => setRow_other w b k _ e⟩ (setRow_size _ _ _))
/-- a slice of one step -/
theorem wp_slice_ins {K : Act → World → Prop} (x : Operand) (ho : o.op = .buildSlice 32 1 #[(0, x)]) {r : Inst} (hx : a.eval x = .agg (insA r))
    (h : ∀ w' b, w.heap.size = b → Prg w'.heap.size w' (.slice (some ⟨b, 0, none⟩) 1 1) [r] → Below w.heap.size w w' → w'.heap.size = w.heap.size + 1 → w'.ownsRow w.heap.size 62 4 (.slice (some ⟨b, 0, none⟩) 1 1) 1 (insC r) → K (a.put o.dst (.slice (some ⟨b, 0, none⟩) 1 1)) w') : o.wp Tryz.prog a w K Q := by
  obtain ⟨i, hi, h1, h2, -⟩ := info_parts ins_info
  refine wp_buildSlice 32 62 1 _ ho (insA r) i _ Tryz.underlying32 hi h1 (by rw [h2]; decide) (by rw [h2]; decide) ?_ (h _ _ rfl ?_ (below_new w _) (World.size_alloc w _) ?_)
  · rw [h2]
    simp only [List.map_toArray, List.map_cons, List.map_nil, hx]
    have hr : Array.range (1 * 4) = #[0, 1, 2, 3] := by decide
    rw [hr]
    simp [Instr.fill, insA, Value.cells]
  · refine ⟨_, _, rfl, Nat.le_refl _, by unfold maxLen; decide, fun _ => ⟨_, rfl, by rw [World.size_alloc]; exact Nat.lt_succ_self _, fun k hk j hj => ?_⟩⟩
    have hk0 : k = 0 := by simp at hk; omega
    subst hk0
    have := cells_new w (insC r) 62 j
    rw [Nat.zero_mul, Nat.zero_add]
    have h5 : j < (insC r).length := by rw [insC_len]; exact hj
    exact (this _ (List.getElem?_eq_getElem h5)).trans (List.getElem?_eq_getElem h5).symm
  · refine ⟨rfl, Or.inr ⟨w.heap.size, 1, insA r, rfl, Nat.le_refl _, heap_alloc_new w _, Nat.le_refl _, by unfold maxLen; decide, rfl, rfl⟩⟩
theorem slice_ins (hgd : o.guard = none) (x : Operand) (ho : o.op = .buildSlice 32 1 #[(0, x)]) {r : Inst} (hx : a.eval x = .agg (insA r))
    (h : ∀ w' b, w.heap.size = b → Prg w'.heap.size w' (.slice (some ⟨b, 0, none⟩) 1 1) [r] → Below w.heap.size w w' → w'.heap.size = w.heap.size + 1 → w'.ownsRow w.heap.size 62 4 (.slice (some ⟨b, 0, none⟩) 1 1) 1 (insC r) → wpList Tryz.prog ops Q rest (a.put o.dst (.slice (some ⟨b, 0, none⟩) 1 1)) w') : wpList Tryz.prog ops Q (o :: rest) a w :=
  wpList_plain hgd fun _ hK => wp_slice_ins x ho hx fun w' b h1 h2 h3 h4 h5 => hK _ _ (h w' b h1 h2 h3 h4 h5)
/-- a step's load as an operation of a drawn region -/
theorem run_load_ins {a : Act} {o : Oper} {w : World} (x : Operand) (ho : o.op = .load 62 x) {b k : Nat} (hx : a.eval x = .pointer (some ⟨b, k, none⟩)) {r : Inst} (hr : ∀ j, j < 4 → w.cell? ⟨b, k + j, none⟩ = (insC r)[j]?) : (execOp a.eval o).run Tryz.prog w = .ok (.value (.agg (insA r))) w := by
  have hl : (loadCells ⟨b, k, none⟩ (insC r).length).run Tryz.prog w = .ok (insC r).toArray w := run_loadCells_list (P := Tryz.prog) w ⟨b, k, none⟩ (insC r) fun j v hv => by
    have hadd : (⟨b, k, none⟩ : Addr).add j = ⟨b, k + j, none⟩ := by unfold Addr.add; split <;> simp_all
    have hj : j < 4 := by
      rcases Nat.lt_or_ge j (insC r).length with q | q
      · rw [insC_len] at q; exact q
      · rw [List.getElem?_eq_none q] at hv; cases hv
    rw [hadd, hr j hj]; exact hv
  obtain ⟨i, hi, -, h2, -⟩ := info_parts ins_info
  have hagg : (isAgg 62).run Tryz.prog w = .ok true w := by
    unfold isAgg
    rw [Sem.run_bind, run_underlying Tryz.underlying62 w]
    rfl
  rw [insC_len] at hl
  unfold execOp
  simp only [ho, hx, Instr.loadAt, Instr.sureAddr, loadVar, sizeOf, typeInfo, Sem.run_bind, Sem.run_pure, Result.andThen_ok, hagg]
  simp [hi, h2, hl, Sem.run_bind, Result.andThen]
  rfl
/-- a step is loaded out of a slice -/
theorem load_ins (hgd : o.guard = none) (x : Operand) (ho : o.op = .load 62 x) {b k : Nat} (hx : a.eval x = .pointer (some ⟨b, k, none⟩)) {r : Inst}
    (hr : ∀ j, j < 4 → w.cell? ⟨b, k + j, none⟩ = (insC r)[j]?) (h : wpList Tryz.prog ops Q rest (a.put o.dst (.agg (insA r))) w) : wpList Tryz.prog ops Q (o :: rest) a w :=
  wpList_plain hgd fun _ hK => by
    have hl : (loadCells ⟨b, k, none⟩ (insC r).length).run Tryz.prog w = .ok (insC r).toArray w := run_loadCells_list (P := Tryz.prog) w ⟨b, k, none⟩ (insC r) fun j v hv => by
      have hadd : (⟨b, k, none⟩ : Addr).add j = ⟨b, k + j, none⟩ := by unfold Addr.add; split <;> simp_all
      have hj : j < 4 := by
        rcases Nat.lt_or_ge j (insC r).length with q | q
        · rw [insC_len] at q; exact q
        · rw [List.getElem?_eq_none q] at hv; cases hv
      rw [hadd, hr j hj]; exact hv
    obtain ⟨i, hi, -, h2, -⟩ := info_parts ins_info
    have hagg : (isAgg 62).run Tryz.prog w = .ok true w := by
      unfold isAgg
      rw [Sem.run_bind, run_underlying Tryz.underlying62 w]
      rfl
    rw [insC_len] at hl
    unfold Oper.wp execOp
    simp only [ho, hx, Instr.loadAt, Instr.sureAddr, loadVar, sizeOf, typeInfo, Sem.run_bind, Sem.run_pure, Result.andThen_ok, hagg]
    simp [hi, h2, hl, Sem.run_bind, Result.andThen]
    exact hK _ _ h
/-- steps are put behind a row of the call's own -/
theorem wp_append_ins {K : Act → World → Prop} (s x : Operand) (ho : o.op = .call { callee := .builtin .append, args := #[s, x], argTypes := #[32, 32] })
    {base B : Nat} {v u : Value} {L M : List Inst} (hs : a.eval s = v) (hx : a.eval x = u) (hown : w.ownsRow base 62 4 v L.length (L.flatMap insC)) (hu : Prg B w u M) (hl : L.length + M.length ≤ 1000000) (hbase : base ≤ w.heap.size)
    (h : ∀ v' w', w'.ownsRow base 62 4 v' (L ++ M).length ((L ++ M).flatMap insC) → Put v v' w w' → K (a.put o.dst v') w') : o.wp Tryz.prog a w K Q := by
  obtain ⟨i, hi, h1, h2, h3⟩ := info_parts ins_info
  refine wp_append_put s x 32 ho base 62 i _ 4 40 Tryz.underlying32 hi h1 h2 h3 rfl (by decide) v L.length (L.flatMap insC) hs hown u M B hx hu insC_len insC_one (by unfold maxLen; omega) (by omega) hbase fun v' w' e1 e2 => h v' w' ?_ e2
  rw [List.length_append, List.flatMap_append]; exact e1
theorem append_ins (hgd : o.guard = none) (s x : Operand) (ho : o.op = .call { callee := .builtin .append, args := #[s, x], argTypes := #[32, 32] })
    {base B : Nat} {v u : Value} {L M : List Inst} (hs : a.eval s = v) (hx : a.eval x = u) (hown : w.ownsRow base 62 4 v L.length (L.flatMap insC)) (hu : Prg B w u M) (hl : L.length + M.length ≤ 1000000) (hbase : base ≤ w.heap.size)
    (h : ∀ v' w', w'.ownsRow base 62 4 v' (L ++ M).length ((L ++ M).flatMap insC) → Put v v' w w' → wpList Tryz.prog ops Q rest (a.put o.dst v') w') : wpList Tryz.prog ops Q (o :: rest) a w :=
  wpList_plain hgd fun _ hK => wp_append_ins s x ho hs hx hown hu hl hbase fun v' w' h1 h2 => hK _ _ (h v' w' h1 h2)
end

/-! numbers in a slice -/
def numC (n : Nat) : List Value := [.int .i64 n]
theorem numC_len (n : Nat) : (numC n).length = 1 := rfl
theorem numC_one (n : Nat) : ∀ c ∈ numC n, c.oneCell' = true := by
  intro c hc
  simp only [numC, List.mem_cons, List.not_mem_nil, or_false] at hc
  subst hc; rfl
theorem int_info : (Tryz.prog.info? 3).map (fun i => (i.zero, i.size, i.bytes)) = some (some (.int .i64 0), 1, 8) := by kernel_rfl
section
variable {ops : Array Oper} {rest : List Oper} {o : Oper} {a : Act} {w : World} {Q : Exit → Act → World → Prop}
theorem slice_num (hgd : o.guard = none) (x : Operand) (ho : o.op = .buildSlice 35 1 #[(0, x)]) {n : Nat} (hx : a.eval x = .int .i64 n)
    (h : ∀ w' b, w.heap.size = b → Recs numC 1 w'.heap.size w' (.slice (some ⟨b, 0, none⟩) 1 1) [n] → Below w.heap.size w w' → w'.heap.size = w.heap.size + 1 → wpList Tryz.prog ops Q rest (a.put o.dst (.slice (some ⟨b, 0, none⟩) 1 1)) w') : wpList Tryz.prog ops Q (o :: rest) a w := by
  obtain ⟨i, hi, h1, h2, -⟩ := info_parts int_info
  refine wpList_plain hgd fun _ hK => wp_buildSlice 35 3 1 _ ho #[.int .i64 n] i _ Tryz.underlying35 hi h1 (by rw [h2]; decide) (by rw [h2]; decide) ?_ (hK _ _ (h _ _ rfl ?_ (below_new w _) (World.size_alloc w _)))
  · rw [h2]
    simp only [List.map_toArray, List.map_cons, List.map_nil, hx]
    have hr : Array.range (1 * 1) = #[0] := by decide
    rw [hr]
    simp [Instr.fill, Value.cells]
  · refine ⟨_, _, rfl, Nat.le_refl _, by unfold maxLen; decide, fun _ => ⟨_, rfl, by rw [World.size_alloc]; exact Nat.lt_succ_self _, fun k hk j hj => ?_⟩⟩
    have hk0 : k = 0 := by simp at hk; omega
    subst hk0
    have := cells_new w (numC n) 3 j
    rw [Nat.zero_mul, Nat.zero_add]
    have h5 : j < (numC n).length := by rw [numC_len]; exact hj
    exact (this _ (List.getElem?_eq_getElem h5)).trans (List.getElem?_eq_getElem h5).symm
theorem append_num (hgd : o.guard = none) (s x : Operand) (ho : o.op = .call { callee := .builtin .append, args := #[s, x], argTypes := #[35, 35] })
    {base B : Nat} {v u : Value} {L M : List Nat} (hs : a.eval s = v) (hx : a.eval x = u) (hown : w.ownsRow base 3 1 v L.length (L.flatMap numC)) (hu : Recs numC 1 B w u M) (hl : L.length + M.length ≤ 1000000) (hbase : base ≤ w.heap.size)
    (h : ∀ v' w', w'.ownsRow base 3 1 v' (L ++ M).length ((L ++ M).flatMap numC) → Put v v' w w' → wpList Tryz.prog ops Q rest (a.put o.dst v') w') : wpList Tryz.prog ops Q (o :: rest) a w := by
  obtain ⟨i, hi, h1, h2, h3⟩ := info_parts int_info
  refine wpList_append_put hgd s x 35 ho base 3 i _ 1 8 Tryz.underlying35 hi h1 h2 h3 rfl (by decide) v L.length (L.flatMap numC) hs hown u M B hx hu numC_len numC_one (by unfold maxLen; omega) (by omega) hbase fun v' w' e1 e2 => h v' w' ?_ e2
  rw [List.length_append, List.flatMap_append]; exact e1
end
end Go.Proofs.YtehdnbidgphecaaGreatDoor.W15
/-
  Arguments that are slices of steps, opened. For this program's types; no condition but those that each theorem bears.
-/
namespace Go.Proofs.YtehdnbidgphecaaGreatDoor.W15
open Go Go.RowKit Go.ChangeShapes Go.WideShapes Go.Deep Go.Joins
open Go.Proofs.YtehdnbidgphecaaGreatDoor.M15
open Go.Proofs.YtehdnbidgphecaaGreatDoor.Recs

theorem ins_struct : ∃ f0 f1 f2 f3 : Field, Tryz.prog.underlying 62 = some (.struct #[f0, f1, f2, f3]) ∧ f0.type = 3 ∧ f1.type = 9 ∧ f2.type = 3 ∧ f3.type = 3 ∧ oneCellFields Tryz.prog #[f0, f1, f2, f3] = true :=
  ⟨_, _, _, _, Tryz.underlying62, rfl, rfl, rfl, rfl, by kernel_rfl⟩
theorem ins_cells : Tryz.prog.cellsOf 62 = 4 := by kernel_rfl
theorem four_of {α : Type} : ∀ {l : List α}, l.length = 4 → ∃ a b c d, l = [a, b, c, d]
  | [a, b, c, d], _ => ⟨a, b, c, d, rfl⟩
section
variable {H : Type} {enc : TypeId × Value → H} {W : World} {base : Nat}
theorem ins_read (n : Nat) (cs : List Value) (x : DataW H × List MemPlace) (hl : cs.length = 4) (h : DataW.trod enc Tryz.prog W 0 (fun _ => true) true n 62 cs = some x) : ∃ r : Inst, cs = insC r ∧ r.text.size ≤ maxLen := by
  obtain ⟨f0, f1, f2, f3, hs, e0, e1, e2, e3, hone⟩ := ins_struct
  obtain ⟨o0, k0⟩ := hone_of hone 0 f0 rfl
  obtain ⟨o1, k1⟩ := hone_of hone 1 f1 rfl
  obtain ⟨o2, k2⟩ := hone_of hone 2 f2 rfl
  obtain ⟨o3, k3⟩ := hone_of hone 3 f3 rfl
  obtain ⟨xs, m, _, _, _, hxl, hf⟩ := DataW.trod_struct hs h
  have hxl4 : xs.length = 4 := hxl
  have g0 := hf 0 f0 rfl
  have g1 := hf 1 f1 rfl
  have g2 := hf 2 f2 rfl
  have g3 := hf 3 f3 rfl
  rw [o0, k0, e0, List.getElem?_eq_getElem (by omega)] at g0
  rw [o1, k1, e1, List.getElem?_eq_getElem (by omega)] at g1
  rw [o2, k2, e2, List.getElem?_eq_getElem (by omega)] at g2
  rw [o3, k3, e3, List.getElem?_eq_getElem (by omega)] at g3
  obtain ⟨c0, c1, c2, c3, rfl⟩ := four_of hl
  obtain ⟨z0, q0, _, _⟩ := DataW.trod_int Tryz.underlying3 g0
  obtain ⟨s1, q1, _, hm⟩ := DataW.trod_string Tryz.underlying9 g1
  obtain ⟨z2, q2, _, _⟩ := DataW.trod_int Tryz.underlying3 g2
  obtain ⟨z3, q3, _, _⟩ := DataW.trod_int Tryz.underlying3 g3
  simp at q0 q1 q2 q3
  subst q0 q1 q2 q3
  exact ⟨⟨z0, s1, z2, z3⟩, rfl, hm⟩
set_option maxRecDepth 100000 in
theorem open_insts {v : Value} {d : DataW H} {p : List MemPlace} (hok : Value.okWide Tryz.prog W .any base 32 v) (h : DataW.Trod enc Tryz.prog W 0 (fun _ => true) true 32 v d p) (hlt : ∀ x ∈ p, x.block < W.heap.size) :
    ∃ L : List Inst, Prg W.heap.size W v L ∧ ∀ r ∈ L, r.text.size ≤ maxLen :=
  open_recs Tryz.underlying32 ins_cells (by omega) ins_read hok h hlt
end
end Go.Proofs.YtehdnbidgphecaaGreatDoor.W15
/-
  Layer 14 (pattern), walk of the program's noAtom: whether no atom begins at a place. The conditions stand in the statement.
-/
namespace Go.Proofs.YtehdnbidgphecaaGreatDoor.W14
set_option maxRecDepth 100000
open Go Go.RowKit Go.Proofs.YtehdnbidgphecaaGreatDoor.M14
open Go.Proofs.YtehdnbidgphecaaGreatDoor.Row256 (Beside)

theorem u8n {c d : UInt8} (h : ¬ c = d) : (((c.toNat : Nat) : Int) == ((d.toNat : Nat) : Int)) = false := beq_eq_false_iff_ne.2 fun e => h (Kit.byte_eq e)
theorem u8y {c d : UInt8} (h : c = d) : (((c.toNat : Nat) : Int) == ((d.toNat : Nat) : Int)) = true := by rw [h]; exact beq_self_eq_true _
theorem int_no {a b : Nat} (h : ¬ a = b) : (((a : Nat) : Int) == ((b : Nat) : Int)) = false := beq_eq_false_iff_ne.2 fun e => h (by omega)
theorem int_yes {a b : Nat} (h : a = b) : (((a : Nat) : Int) == ((b : Nat) : Int)) = true := by rw [h]; exact beq_self_eq_true _
/-- no atom begins at a place; and the error, if no row may end there either -/
def noAtom (S : List UInt8) (at_ deep : Nat) : Bool × Int :=
  if at_ = S.length then (true, 0)
  else if S.getD at_ 0 = 41 then (if 0 < deep then (true, 0) else (true, 3))
  else if S.getD at_ 0 = 42 ∨ S.getD at_ 0 = 43 ∨ S.getD at_ 0 = 63 ∨ S.getD at_ 0 = 123 then (true, 3)
  else if S.getD at_ 0 = 124 then (true, 0) else (false, 0)
set_option maxHeartbeats 4000000 in
theorem noAtom_any {w : World} {b : Nat} {s : ByteArray} {at_ deep : Nat} (h : Reader w b s at_ deep) (hat : at_ ≤ s.size) :
    Calls Tryz.prog 75 #[.pointer (some ⟨b, 0, none⟩)] w fun e w' => e = .returned (.tuple #[.bool (noAtom s.data.toList at_ deep).1, .int .i64 (noAtom s.data.toList at_ deep).2]) ∧ ∃ n, w' = w.drewN n := by
  have c0 := h.c0
  have c1 := h.c1
  have c2 := h.c2
  have hl : s.data.toList.length = s.size := (Lib.size_eq s).symm
  clear h
  by_cases ha : at_ = s.size
  · have HV : Hid (noAtom s.data.toList at_ deep = (true, 0)) := by
      unfold Hid noAtom
      rw [if_pos (by omega)]
    have t0 := int_yes ha
    rw [HV.out]
    clear hl
    go_enter Tryz.func75, Tryz.ntmps75
    go_wp2_with fail
    go_quiet (fail)
    go_wp2_with fail
    go_ret2
    exact ⟨rfl, nq, rfl⟩
  · have hlt : at_ < s.size := by omega
    have hlt2 : (at_ : Int) < (s.size : Int) := by omega
    have hc : s.data.toList.getD at_ 0 = s[at_] := Kit.byte_get s at_ hlt
    have t0 := int_no ha
    have hne : ¬ at_ = s.data.toList.length := by omega
    by_cases h41 : s[at_] = 41
    · have t41 : ((s[at_].toNat : Int) == 41) = true := u8y h41
      by_cases hd : 0 < deep
      · have td : (0 : Int) < (deep : Int) := by omega
        have HV : Hid (noAtom s.data.toList at_ deep = (true, 0)) := by
          unfold Hid noAtom
          rw [if_neg hne, hc, if_pos h41, if_pos hd]
        clear h41
        rw [HV.out]
        clear hc hl hne
        go_enter Tryz.func75, Tryz.ntmps75
        go_wp2_with fail
        go_quiet (fail)
        have c0' : (w.drewN nq).cell? ⟨b, 0, none⟩ = some (.string s) := c0
        have c1' : (w.drewN nq).cell? ⟨b, 1, none⟩ = some (.int .i64 at_) := c1
        have c2' : (w.drewN nq).cell? ⟨b, 2, none⟩ = some (.int .i64 deep) := c2
        obtain ⟨W, hW, q1, hq⟩ : ∃ W, w.drewN nq = W ∧ ∃ q, W = w.drewN q := ⟨_, rfl, nq, rfl⟩
        rw [hW] at c0' c1' c2'
        rw [hW]
        have HQ := Lib.hid hq
        clear hW hq c0 c1 c2
        go_wp2_with fail
        go_quiet (fail)
        have c2'' : (W.drewN nq).cell? ⟨b, 2, none⟩ = some (.int .i64 deep) := c2'
        go_wp2_with fail
        go_ret2
        exact ⟨rfl, q1 + nq, by rw [HQ.out, World.drewN_drewN]⟩
      · have td : ¬ (0 : Int) < (deep : Int) := by omega
        have HV : Hid (noAtom s.data.toList at_ deep = (true, 3)) := by
          unfold Hid noAtom
          rw [if_neg hne, hc, if_pos h41, if_neg hd]
        clear h41
        rw [HV.out]
        clear hc hl hne
        go_enter Tryz.func75, Tryz.ntmps75
        go_wp2_with fail
        go_quiet (fail)
        have c0' : (w.drewN nq).cell? ⟨b, 0, none⟩ = some (.string s) := c0
        have c1' : (w.drewN nq).cell? ⟨b, 1, none⟩ = some (.int .i64 at_) := c1
        have c2' : (w.drewN nq).cell? ⟨b, 2, none⟩ = some (.int .i64 deep) := c2
        obtain ⟨W, hW, q1, hq⟩ : ∃ W, w.drewN nq = W ∧ ∃ q, W = w.drewN q := ⟨_, rfl, nq, rfl⟩
        rw [hW] at c0' c1' c2'
        rw [hW]
        have HQ := Lib.hid hq
        clear hW hq c0 c1 c2
        go_wp2_with fail
        go_quiet (fail)
        have c2'' : (W.drewN nq).cell? ⟨b, 2, none⟩ = some (.int .i64 deep) := c2'
        go_wp2_with fail
        go_ret2
        exact ⟨rfl, q1 + nq, by rw [HQ.out, World.drewN_drewN]⟩
    · have t41 : ((s[at_].toNat : Int) == 41) = false := u8n h41
      by_cases h42 : s[at_] = 42
      · have t42 : ((s[at_].toNat : Int) == 42) = true := u8y h42
        have HV : Hid (noAtom s.data.toList at_ deep = (true, 3)) := by
          unfold Hid noAtom
          rw [if_neg hne, hc, if_neg h41, if_pos (by simp [h42])]
        clear h41 h42
        rw [HV.out]
        clear hc hl hne
        go_enter Tryz.func75, Tryz.ntmps75
        go_wp2_with fail
        go_quiet (fail)
        have c0' : (w.drewN nq).cell? ⟨b, 0, none⟩ = some (.string s) := c0
        have c1' : (w.drewN nq).cell? ⟨b, 1, none⟩ = some (.int .i64 at_) := c1
        have c2' : (w.drewN nq).cell? ⟨b, 2, none⟩ = some (.int .i64 deep) := c2
        obtain ⟨W, hW, q1, hq⟩ : ∃ W, w.drewN nq = W ∧ ∃ q, W = w.drewN q := ⟨_, rfl, nq, rfl⟩
        rw [hW] at c0' c1' c2'
        rw [hW]
        have HQ := Lib.hid hq
        clear hW hq c0 c1 c2
        go_wp2_with fail
        go_quiet (fail)
        have c2'' : (W.drewN nq).cell? ⟨b, 2, none⟩ = some (.int .i64 deep) := c2'
        go_wp2_with fail
        go_ret2
        exact ⟨rfl, q1 + nq, by rw [HQ.out, World.drewN_drewN]⟩
      · have t42 : ((s[at_].toNat : Int) == 42) = false := u8n h42
        by_cases h43 : s[at_] = 43
        · have t43 : ((s[at_].toNat : Int) == 43) = true := u8y h43
          have HV : Hid (noAtom s.data.toList at_ deep = (true, 3)) := by
            unfold Hid noAtom
            rw [if_neg hne, hc, if_neg h41, if_pos (by simp [h43])]
          clear h41 h42 h43
          rw [HV.out]
          clear hc hl hne
          go_enter Tryz.func75, Tryz.ntmps75
          go_wp2_with fail
          go_quiet (fail)
          have c0' : (w.drewN nq).cell? ⟨b, 0, none⟩ = some (.string s) := c0
          have c1' : (w.drewN nq).cell? ⟨b, 1, none⟩ = some (.int .i64 at_) := c1
          have c2' : (w.drewN nq).cell? ⟨b, 2, none⟩ = some (.int .i64 deep) := c2
          obtain ⟨W, hW, q1, hq⟩ : ∃ W, w.drewN nq = W ∧ ∃ q, W = w.drewN q := ⟨_, rfl, nq, rfl⟩
          rw [hW] at c0' c1' c2'
          rw [hW]
          have HQ := Lib.hid hq
          clear hW hq c0 c1 c2
          go_wp2_with fail
          go_quiet (fail)
          have c2'' : (W.drewN nq).cell? ⟨b, 2, none⟩ = some (.int .i64 deep) := c2'
          go_wp2_with fail
          go_ret2
          exact ⟨rfl, q1 + nq, by rw [HQ.out, World.drewN_drewN]⟩
        · have t43 : ((s[at_].toNat : Int) == 43) = false := u8n h43
          by_cases h63 : s[at_] = 63
          · have t63 : ((s[at_].toNat : Int) == 63) = true := u8y h63
            have HV : Hid (noAtom s.data.toList at_ deep = (true, 3)) := by
              unfold Hid noAtom
              rw [if_neg hne, hc, if_neg h41, if_pos (by simp [h63])]
            clear h41 h42 h43 h63
            rw [HV.out]
            clear hc hl hne
            go_enter Tryz.func75, Tryz.ntmps75
            go_wp2_with fail
            go_quiet (fail)
            have c0' : (w.drewN nq).cell? ⟨b, 0, none⟩ = some (.string s) := c0
            have c1' : (w.drewN nq).cell? ⟨b, 1, none⟩ = some (.int .i64 at_) := c1
            have c2' : (w.drewN nq).cell? ⟨b, 2, none⟩ = some (.int .i64 deep) := c2
            obtain ⟨W, hW, q1, hq⟩ : ∃ W, w.drewN nq = W ∧ ∃ q, W = w.drewN q := ⟨_, rfl, nq, rfl⟩
            rw [hW] at c0' c1' c2'
            rw [hW]
            have HQ := Lib.hid hq
            clear hW hq c0 c1 c2
            go_wp2_with fail
            go_quiet (fail)
            have c2'' : (W.drewN nq).cell? ⟨b, 2, none⟩ = some (.int .i64 deep) := c2'
            go_wp2_with fail
            go_ret2
            exact ⟨rfl, q1 + nq, by rw [HQ.out, World.drewN_drewN]⟩
          · have t63 : ((s[at_].toNat : Int) == 63) = false := u8n h63
            by_cases h123 : s[at_] = 123
            · have t123 : ((s[at_].toNat : Int) == 123) = true := u8y h123
              have HV : Hid (noAtom s.data.toList at_ deep = (true, 3)) := by
                unfold Hid noAtom
                rw [if_neg hne, hc, if_neg h41, if_pos (by simp [h123])]
              clear h41 h42 h43 h63 h123
              rw [HV.out]
              clear hc hl hne
              go_enter Tryz.func75, Tryz.ntmps75
              go_wp2_with fail
              go_quiet (fail)
              have c0' : (w.drewN nq).cell? ⟨b, 0, none⟩ = some (.string s) := c0
              have c1' : (w.drewN nq).cell? ⟨b, 1, none⟩ = some (.int .i64 at_) := c1
              have c2' : (w.drewN nq).cell? ⟨b, 2, none⟩ = some (.int .i64 deep) := c2
              obtain ⟨W, hW, q1, hq⟩ : ∃ W, w.drewN nq = W ∧ ∃ q, W = w.drewN q := ⟨_, rfl, nq, rfl⟩
              rw [hW] at c0' c1' c2'
              rw [hW]
              have HQ := Lib.hid hq
              clear hW hq c0 c1 c2
              go_wp2_with fail
              go_quiet (fail)
              have c2'' : (W.drewN nq).cell? ⟨b, 2, none⟩ = some (.int .i64 deep) := c2'
              go_wp2_with fail
              go_ret2
              exact ⟨rfl, q1 + nq, by rw [HQ.out, World.drewN_drewN]⟩
            · have t123 : ((s[at_].toNat : Int) == 123) = false := u8n h123
              by_cases h124 : s[at_] = 124
              · have t124 : ((s[at_].toNat : Int) == 124) = true := u8y h124
                have HV : Hid (noAtom s.data.toList at_ deep = (true, 0)) := by
                  unfold Hid noAtom
                  rw [if_neg hne, hc, if_neg h41, if_neg (by rintro (e | e | e | e) <;> contradiction), if_pos h124]
                clear h41 h42 h43 h63 h123 h124
                rw [HV.out]
                clear hc hl hne
                go_enter Tryz.func75, Tryz.ntmps75
                go_wp2_with fail
                go_quiet (fail)
                have c0' : (w.drewN nq).cell? ⟨b, 0, none⟩ = some (.string s) := c0
                have c1' : (w.drewN nq).cell? ⟨b, 1, none⟩ = some (.int .i64 at_) := c1
                have c2' : (w.drewN nq).cell? ⟨b, 2, none⟩ = some (.int .i64 deep) := c2
                obtain ⟨W, hW, q1, hq⟩ : ∃ W, w.drewN nq = W ∧ ∃ q, W = w.drewN q := ⟨_, rfl, nq, rfl⟩
                rw [hW] at c0' c1' c2'
                rw [hW]
                have HQ := Lib.hid hq
                clear hW hq c0 c1 c2
                go_wp2_with fail
                go_quiet (fail)
                have c2'' : (W.drewN nq).cell? ⟨b, 2, none⟩ = some (.int .i64 deep) := c2'
                go_wp2_with fail
                go_ret2
                exact ⟨rfl, q1 + nq, by rw [HQ.out, World.drewN_drewN]⟩
              · have t124 : ((s[at_].toNat : Int) == 124) = false := u8n h124
                have HV : Hid (noAtom s.data.toList at_ deep = (false, 0)) := by
                  unfold Hid noAtom
                  rw [if_neg hne, hc, if_neg h41, if_neg (by rintro (e | e | e | e) <;> contradiction), if_neg h124]
                clear h41 h42 h43 h63 h123 h124
                rw [HV.out]
                clear hc hl hne
                go_enter Tryz.func75, Tryz.ntmps75
                go_wp2_with fail
                go_quiet (fail)
                have c0' : (w.drewN nq).cell? ⟨b, 0, none⟩ = some (.string s) := c0
                have c1' : (w.drewN nq).cell? ⟨b, 1, none⟩ = some (.int .i64 at_) := c1
                have c2' : (w.drewN nq).cell? ⟨b, 2, none⟩ = some (.int .i64 deep) := c2
                obtain ⟨W, hW, q1, hq⟩ : ∃ W, w.drewN nq = W ∧ ∃ q, W = w.drewN q := ⟨_, rfl, nq, rfl⟩
                rw [hW] at c0' c1' c2'
                rw [hW]
                have HQ := Lib.hid hq
                clear hW hq c0 c1 c2
                go_wp2_with fail
                go_quiet (fail)
                have c2'' : (W.drewN nq).cell? ⟨b, 2, none⟩ = some (.int .i64 deep) := c2'
                go_wp2_with fail
                go_ret2
                exact ⟨rfl, q1 + nq, by rw [HQ.out, World.drewN_drewN]⟩
end Go.Proofs.YtehdnbidgphecaaGreatDoor.W14
/-
  Layer 14 (pattern), mathematics of the program's way to read braces: cut at the first closing one and at the first comma, it comes to the same as digit by digit. No condition but those that each theorem bears.
-/
namespace Go.Proofs.YtehdnbidgphecaaGreatDoor.M14
open Go

def isNum (t : List UInt8) : Bool := decide (t ≠ []) && (decide (t.length ≤ 3) && t.all dig)
theorem number_yes {t : List UInt8} (h : isNum t = true) : number t = some (val t) := by
  unfold isNum at h
  simp only [Bool.and_eq_true, decide_eq_true_eq] at h
  unfold number
  rw [if_pos h]
theorem number_no {t : List UInt8} (h : isNum t = false) : number t = none := by
  unfold number
  rw [if_neg]
  rintro ⟨a, b, c⟩
  unfold isNum at h
  rw [decide_eq_true a, decide_eq_true b, c] at h
  simp at h
theorem not_num {t u : List UInt8} {c : UInt8} (h : dig c = false) : isNum (t ++ c :: u) = false := by
  unfold isNum
  rw [List.all_append, List.all_cons, h]
  simp
/-- what stands ahead of the first c, behind it, and is there one -/
def before (c : UInt8) (l : List UInt8) : List UInt8 := l.takeWhile (fun x => decide (x ≠ c))
def behind (c : UInt8) (l : List UInt8) : List UInt8 := (l.dropWhile (fun x => decide (x ≠ c))).drop 1
theorem before_clean {c : UInt8} {t : List UInt8} (h : ¬ c ∈ t) (r : List UInt8) : before c (t ++ r) = t ++ before c r := by
  unfold before
  rw [List.takeWhile_append_of_pos]
  intro x hx
  exact decide_eq_true fun e => h (e ▸ hx)
theorem behind_clean {c : UInt8} {t : List UInt8} (h : ¬ c ∈ t) (r : List UInt8) : behind c (t ++ r) = behind c r := by
  unfold behind
  rw [List.dropWhile_append_of_pos]
  intro x hx
  exact decide_eq_true fun e => h (e ▸ hx)
theorem before_here (c : UInt8) (r : List UInt8) : before c (c :: r) = [] := by unfold before; simp
theorem behind_here (c : UInt8) (r : List UInt8) : behind c (c :: r) = r := by unfold behind; simp
theorem before_skip {c d : UInt8} (h : ¬ d = c) (r : List UInt8) : before c (d :: r) = d :: before c r := by unfold before; simp [h]
theorem before_nil (c : UInt8) : before c [] = [] := rfl
theorem before_all {c : UInt8} {t : List UInt8} (h : ¬ c ∈ t) : before c t = t := by
  have := before_clean h []
  simpa [before_nil] using this
def mayB (m t : Int) : Bool := decide (m ≥ 0) && decide (m ≤ 100) && (decide (t = -1) || decide (t ≥ m) && decide (t ≤ 100))
theorem range_may {m t : Int} (hm : 0 ≤ m) (ht : -1 ≤ t) (n : Nat) : range m t n = if mayB m t then (0, m, t, n) else (4, 0, 0, 0) := by
  unfold range
  by_cases h : m > 100 ∨ t > 100 ∨ (0 ≤ t ∧ m > t)
  · rw [if_pos h, if_neg]
    unfold mayB
    simp only [Bool.and_eq_true, Bool.or_eq_true, decide_eq_true_eq]
    omega
  · rw [if_neg h, if_pos]
    unfold mayB
    simp only [Bool.and_eq_true, Bool.or_eq_true, decide_eq_true_eq]
    omega
/-- the parts of what stands behind a {: ahead of the comma, behind it (or the same), and is the second one left out -/
def firstB (l : List UInt8) : List UInt8 := before 44 (before 125 l)
def openB (l : List UInt8) : Bool := decide (44 ∈ before 125 l) && decide (behind 44 (before 125 l) = [])
def secondB (l : List UInt8) : List UInt8 := if 44 ∈ before 125 l then behind 44 (before 125 l) else firstB l
def formB (l : List UInt8) : Bool := decide (125 ∈ l) && (isNum (firstB l) && (openB l || isNum (secondB l)))
def topB (l : List UInt8) : Int := if openB l then -1 else val (secondB l)
theorem dig_not {c : UInt8} (h : dig c = true) : ¬ c = 125 ∧ ¬ c = 44 := by
  constructor <;> (rintro rfl; revert h; decide)
theorem take_dig {l : List UInt8} : ∀ x, x ∈ l.takeWhile dig → dig x = true := fun x hx => List.all_eq_true.1 (List.all_takeWhile (p := dig) (l := l)) x hx
theorem head_drop {l r : List UInt8} {c : UInt8} (h : l.dropWhile dig = c :: r) : dig c = false := by
  have := List.head?_dropWhile_not dig l
  rw [h] at this
  simpa using this
theorem braces_bad {l : List UInt8} (h : formB l = false) : braces l = no3 := by
  have hl : l = l.takeWhile dig ++ l.dropWhile dig := List.takeWhile_append_dropWhile.symm
  have hd := take_dig (l := l)
  unfold braces
  generalize l.takeWhile dig = t at *
  cases hr : l.dropWhile dig with
  | nil => cases number t <;> rfl
  | cons c r =>
    have hc := head_drop hr
    rw [hr] at hl
    clear hr
    have n125 : ¬ (125 : UInt8) ∈ t := fun q => (dig_not (hd _ q)).1 rfl
    have n44 : ¬ (44 : UInt8) ∈ t := fun q => (dig_not (hd _ q)).2 rfl
    cases hn : isNum t with
    | false => rw [number_no hn]
    | true =>
      rw [number_yes hn]
      simp only
      by_cases c1 : c = 125
      · exfalso
        subst c1
        have e1 : before 125 l = t := by rw [hl, before_clean n125, before_here, List.append_nil]
        have e2 : firstB l = t := by unfold firstB; rw [e1, before_all n44]
        have e3 : secondB l = t := by unfold secondB; rw [e1, if_neg n44, e2]
        unfold formB at h
        rw [e2, e3, hn, Bool.or_true, hl, decide_eq_true (by simp)] at h
        simp at h
      · rw [if_neg c1]
        by_cases c2 : c = 44
        · rw [if_pos c2]
          subst c2
          have e1 : before 125 l = t ++ 44 :: before 125 r := by rw [hl, before_clean n125, before_skip (by decide)]
          have e2 : firstB l = t := by unfold firstB; rw [e1, before_clean n44, before_here, List.append_nil]
          have e3 : behind 44 (before 125 l) = before 125 r := by rw [e1, behind_clean n44, behind_here]
          have e4 : secondB l = before 125 r := by unfold secondB; rw [if_pos (by rw [e1]; simp), e3]
          have e5 : openB l = decide (before 125 r = []) := by unfold openB; rw [e3, decide_eq_true (by rw [e1]; simp), Bool.true_and]
          have e6 : decide ((125 : UInt8) ∈ l) = decide ((125 : UInt8) ∈ r) := by
            rw [hl]
            exact decide_eq_decide.2 (by simp [n125])
          unfold formB at h
          rw [e2, e4, e5, e6, hn, Bool.true_and] at h
          have hlr : r = r.takeWhile dig ++ r.dropWhile dig := List.takeWhile_append_dropWhile.symm
          have hdr := take_dig (l := r)
          have m125 : ¬ (125 : UInt8) ∈ r.takeWhile dig := fun q => (dig_not (hdr _ q)).1 rfl
          by_cases c3 : r.takeWhile dig = []
          · rw [if_pos c3]
            by_cases c4 : r.headD 0 = 125
            · exfalso
              cases r with
              | nil => simp at c4
              | cons d r2 =>
                have : d = 125 := by simpa using c4
                subst this
                rw [before_here] at h
                simp at h
            · rw [if_neg c4]
          · rw [if_neg c3]
            cases hn2 : isNum (r.takeWhile dig) with
            | false => rw [number_no hn2]
            | true =>
              rw [number_yes hn2]
              simp only
              by_cases c4 : (r.dropWhile dig).headD 0 = 125
              · exfalso
                cases hr2 : r.dropWhile dig with
                | nil => rw [hr2] at c4; simp at c4
                | cons d r2 =>
                  rw [hr2] at c4 hlr
                  have : d = 125 := by simpa using c4
                  subst this
                  have e7 : before 125 r = r.takeWhile dig := by
                    conv => lhs; rw [hlr, before_clean m125, before_here, List.append_nil]
                  rw [e7, hn2, Bool.or_true, decide_eq_true (by rw [hlr]; simp)] at h
                  simp at h
              · rw [if_neg c4]
        · rw [if_neg c2]
theorem braces_good {l : List UInt8} (h : formB l = true) : braces l = range (val (firstB l)) (topB l) ((before 125 l).length + 2) := by
  have hl : l = l.takeWhile dig ++ l.dropWhile dig := List.takeWhile_append_dropWhile.symm
  have hd := take_dig (l := l)
  unfold formB at h
  simp only [Bool.and_eq_true, decide_eq_true_eq] at h
  obtain ⟨h1, h2, h3⟩ := h
  unfold braces
  generalize l.takeWhile dig = t at *
  have n125 : ¬ (125 : UInt8) ∈ t := fun q => (dig_not (hd _ q)).1 rfl
  have n44 : ¬ (44 : UInt8) ∈ t := fun q => (dig_not (hd _ q)).2 rfl
  cases hr : l.dropWhile dig with
  | nil =>
    exfalso
    rw [hr, List.append_nil] at hl
    rw [hl] at h1
    exact n125 h1
  | cons c r =>
    have hc := head_drop hr
    rw [hr] at hl
    clear hr
    by_cases c1 : c = 125
    · subst c1
      have e1 : before 125 l = t := by rw [hl, before_clean n125, before_here, List.append_nil]
      have e2 : firstB l = t := by unfold firstB; rw [e1, before_all n44]
      have e3 : secondB l = t := by unfold secondB; rw [e1, if_neg n44, e2]
      have e4 : openB l = false := by unfold openB; rw [e1, decide_eq_false n44, Bool.false_and]
      have e5 : topB l = val t := by unfold topB; rw [e4, if_neg (by simp), e3]
      rw [e2] at h2
      rw [number_yes h2, e5, e2, e1]
      simp only [if_pos]
    · by_cases c2 : c = 44
      · subst c2
        have e1 : before 125 l = t ++ 44 :: before 125 r := by rw [hl, before_clean n125, before_skip (by decide)]
        have e2 : firstB l = t := by unfold firstB; rw [e1, before_clean n44, before_here, List.append_nil]
        have e3 : behind 44 (before 125 l) = before 125 r := by rw [e1, behind_clean n44, behind_here]
        have e4 : secondB l = before 125 r := by unfold secondB; rw [if_pos (by rw [e1]; simp), e3]
        have e5 : openB l = decide (before 125 r = []) := by unfold openB; rw [e3, decide_eq_true (by rw [e1]; simp), Bool.true_and]
        have e6 : (125 : UInt8) ∈ r := by
          rw [hl] at h1
          rcases List.mem_append.1 h1 with q | q
          · exact absurd q n125
          · rcases List.mem_cons.1 q with q | q
            · exact absurd q (by decide)
            · exact q
        rw [e2] at h2
        rw [number_yes h2]
        simp only [if_neg c1, if_pos]
        have hlr : r = r.takeWhile dig ++ r.dropWhile dig := List.takeWhile_append_dropWhile.symm
        have hdr := take_dig (l := r)
        have m125 : ¬ (125 : UInt8) ∈ r.takeWhile dig := fun q => (dig_not (hdr _ q)).1 rfl
        cases hr2 : r.dropWhile dig with
        | nil =>
          exfalso
          rw [hr2, List.append_nil] at hlr
          rw [hlr] at e6
          exact m125 e6
        | cons d r2 =>
          have hdg := head_drop hr2
          rw [hr2] at hlr
          have e7 : before 125 r = r.takeWhile dig ++ before 125 (d :: r2) := by
            conv => lhs; rw [hlr, before_clean m125]
          by_cases c4 : d = 125
          · subst c4
            rw [before_here, List.append_nil] at e7
            by_cases c3 : r.takeWhile dig = []
            · rw [if_pos c3]
              rw [c3] at e7 hlr
              rw [List.nil_append] at hlr
              have e8 : topB l = -1 := by unfold topB; rw [e5, e7]; rfl
              rw [if_pos (by rw [hlr]; rfl), e8, e2, e1, e7]
              simp only [List.length_append, List.length_cons, List.length_nil]
            · rw [if_neg c3]
              have e8 : openB l = false := by rw [e5, e7]; exact decide_eq_false c3
              have e9 : topB l = val (r.takeWhile dig) := by unfold topB; rw [e8, if_neg (by simp), e4, e7]
              rw [e8, e4, e7, Bool.false_or] at h3
              rw [number_yes h3]
              simp only [List.headD_cons, if_pos]
              rw [e9, e2, e1, e7]
              congr 1
              simp only [List.length_append, List.length_cons]; omega
          · exfalso
            rw [before_skip c4] at e7
            rw [e5, e4, e7, not_num hdg, Bool.or_false, decide_eq_true_eq] at h3
            simp at h3
      · exfalso
        have e1 : before 125 l = t ++ c :: before 125 r := by rw [hl, before_clean n125, before_skip c1]
        have e2 : firstB l = t ++ c :: before 44 (before 125 r) := by unfold firstB; rw [e1, before_clean n44, before_skip c2]
        rw [e2, not_num hc] at h2
        simp at h2
end Go.Proofs.YtehdnbidgphecaaGreatDoor.M14
