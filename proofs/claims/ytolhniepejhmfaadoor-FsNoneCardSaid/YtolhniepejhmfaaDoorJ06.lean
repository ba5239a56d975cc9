/-
  Texts joined, in build order, each with its own comment and its own conditions: RecCut, RecAppend, W08Go, W08Find, W04Clean, W04Join, W04Under, W08Ways, W08Spot, W07Same, W07Do, W09Ref.
-/
import Derived.Test.YtolhniepejhmfaaDoorJ01
import Derived.Laws.OwnMore
import Derived.Tactics
import Derived.Test.YtolhniepejhmfaaDoorJ04
import Derived.Test.YtolhniepejhmfaaDoorJ03
import Derived.Test.YtolhniepejhmfaaDoorJ05
import Derived.Deep.RegionHeld3
import Derived.Test.YtolhniepejhmfaaDoorJ02
import Derived.Deep.QuietTactic
/-
  Slices of records: parts of one (the first ones, those from a place on, those between), as the walk spells the cut's value. Plain lemmas on worlds, for every program; no condition but those that each theorem bears.
-/
namespace Go.Proofs.YtolhniepejhmfaaDoor.Recs
open Go Go.RowKit
open Go.Proofs.YtolhniepejhmfaaDoor.Strs (block_add strV)
section
variable {α : Type} {enc : α → List Value} {sz : Nat} {B : Nat} {w : World} {A : Option Addr} {n c : Nat} {L : List α}
theorem Recs.count (h : Recs enc sz B w (.slice A n c) L) : n = L.length ∧ n ≤ c ∧ c ≤ maxLen := by
  obtain ⟨A', c', e, h1, h2, h3⟩ := h
  injection e with e1 e2 e3
  subst e1 e2 e3
  exact ⟨rfl, h1, h2⟩
/-- no record: whatever the address -/
theorem recs_none (enc : α → List Value) (sz B : Nat) (w : World) (A : Option Addr) {c : Nat} (hc : c ≤ maxLen) : Recs enc sz B w (.slice A 0 c) [] := ⟨A, c, rfl, Nat.zero_le _, hc, fun h => absurd h (by simp)⟩
theorem Recs.take (h : Recs enc sz B w (.slice A n c) L) {k : Nat} (hk : k ≤ n) : Recs enc sz B w (.slice A k c) (L.take k) := by
  obtain ⟨hn, hc1, hc2⟩ := h.count
  subst hn
  obtain ⟨A0, c0, e, h1, h2, h3⟩ := h
  cases e
  have hl : (L.take k).length = k := by rw [List.length_take]; omega
  refine ⟨A, c, by rw [hl], by omega, hc2, fun h0 => ?_⟩
  obtain ⟨ad, rfl, hb, hc⟩ := h3 (by omega)
  refine ⟨ad, rfl, hb, fun i hi j hj => ?_⟩
  rw [hc i (by omega) j hj, List.getElem_take]
theorem Recs.drop (h : Recs enc sz B w (.slice A n c) L) (he : ∀ x : α, (enc x).length = sz) (h0 : 0 < sz) {k : Nat} (hk : k ≤ n) : Recs enc sz B w (.slice (A.map fun x => x.add (k * sz)) (n - k) (c - k)) (L.drop k) := by
  obtain ⟨hn, hc1, hc2⟩ := h.count
  have hfl : 0 < n → ∃ b o, A = some ⟨b, o, none⟩ := fun hp => by
    obtain ⟨b, o, _, e, _⟩ := h.flat_ he h0 hp
    exact ⟨b, o, e⟩
  subst hn
  obtain ⟨A0, c0, e, h1, h2, h3⟩ := h
  cases e
  refine ⟨_, c - k, by rw [List.length_drop], by rw [List.length_drop]; omega, by omega, fun hp => ?_⟩
  rw [List.length_drop] at hp
  obtain ⟨b, o, rfl⟩ := hfl (by omega)
  obtain ⟨ad, e, hb, hc⟩ := h3 (by omega)
  cases e
  refine ⟨_, rfl, by rw [block_add]; exact hb, fun i hi j hj => ?_⟩
  rw [List.length_drop] at hi
  have := hc (k + i) (by omega) j hj
  rw [Addr.add_lit] at this
  show w.cell? (((⟨b, o, none⟩ : Addr).add (k * sz)).add (i * sz + j)) = _
  rw [Addr.add_lit, Addr.add_lit, show o + k * sz + (i * sz + j) = o + ((k + i) * sz + j) by rw [Nat.add_mul]; omega, this]
  congr 2
  simp
theorem Recs.drop_all (h : Recs enc sz B w (.slice A n c) L) {k : Nat} (hk : k ≤ n) (hkc : c = k) {m : Nat} (hm : m ≤ maxLen) : Recs enc sz B w (.slice A (n - k) m) (L.drop k) := by
  obtain ⟨hn, hc1, hc2⟩ := h.count
  have e1 : n - k = 0 := by omega
  have e2 : L.drop k = [] := List.drop_of_length_le (by omega)
  rw [e1, e2]
  exact recs_none _ _ _ _ _ hm
/-- those between two places, the address moved -/
theorem Recs.mid (h : Recs enc sz B w (.slice A n c) L) (he : ∀ x : α, (enc x).length = sz) (h0 : 0 < sz) {i j : Nat} (hij : i ≤ j) (hj : j ≤ n) : Recs enc sz B w (.slice (A.map fun x => x.add (i * sz)) (j - i) (c - i)) ((L.take j).drop i) := (h.take hj).drop he h0 hij
theorem Recs.mid_all (h : Recs enc sz B w (.slice A n c) L) {i j : Nat} (hij : i ≤ j) (hj : j ≤ n) (hkc : c = i) {m : Nat} (hm : m ≤ maxLen) : Recs enc sz B w (.slice A (j - i) m) ((L.take j).drop i) := (h.take hj).drop_all hij hkc hm
/-- one alone, at its place -/
theorem Recs.one (h : Recs enc sz B w (.slice A n c) L) (he : ∀ x : α, (enc x).length = sz) (h0 : 0 < sz) {i : Nat} (hj : i + 1 ≤ n) : Recs enc sz B w (.slice (A.map fun x => x.add (i * sz)) 1 (c - i)) ((L.take (i + 1)).drop i) := by
  have := h.mid he h0 (Nat.le_succ i) hj
  rwa [show i + 1 - i = 1 by omega] at this
theorem Recs.one_last {i : Nat} (h : Recs enc sz B w (.slice A n (i + 1)) L) (he : ∀ x : α, (enc x).length = sz) (h0 : 0 < sz) (hj : i + 1 ≤ n) : Recs enc sz B w (.slice (A.map fun x => x.add (i * sz)) 1 1) ((L.take (i + 1)).drop i) := by
  have := h.one he h0 hj
  rwa [show i + 1 - i = 1 by omega] at this
theorem Recs.drop_last {k : Nat} (h : Recs enc sz B w (.slice A n k) L) (hk : k ≤ n) : Recs enc sz B w (.slice A 0 0) (L.drop k) := by
  have h2 := h.count
  have := h.drop_all hk rfl (Nat.zero_le maxLen)
  rwa [show n - k = 0 by omega] at this
theorem Recs.void {i : Nat} {A' : Option Addr} {c' : Nat} (hc : c' ≤ maxLen) : Recs enc sz B w (.slice A' 0 c') ((L.take i).drop i) := by
  rw [List.drop_of_length_le (by rw [List.length_take]; omega)]
  exact recs_none _ _ _ _ _ hc
end
end Go.Proofs.YtolhniepejhmfaaDoor.Recs
/-
  append(own, records...) where the first is a row of the call's own and the other one whatever slice of records: with an address or without, empty or not: one law. For every program; the conditions stand in the statement.
-/
namespace Go.Proofs.YtolhniepejhmfaaDoor.Recs
open Go Go.RowKit

theorem run_append_void {P : Program} {w : World} (base : Nat) (t ty e : TypeId) (i : TypeInfo) (size : Nat) (ht : P.underlying t = some (.slice e)) (hi : P.info? e = some i)
    (v : Value) (n c : Nat) (xs : List Value) (hown : w.ownsRow base e size v n xs) :
    (Builtin.append_ #[t, t] ty #[v, .slice none 0 c]).run P w = .ok v w := by
  rcases hown.2 with ⟨rfl, rfl⟩ | ⟨g, cap, cur, rfl, _, _, hnc, _⟩
  · simp [Builtin.append_, run_underlying ht, sizeOf, typeInfo, hi, Builtin.lenOf, Builtin.firstCells]
  · simp [Builtin.append_, run_underlying ht, sizeOf, typeInfo, hi, Builtin.lenOf, Builtin.firstCells, hnc, storeCells]
/-- where the block of what an append gives lies -/
theorem own_block_next {P : Program} (w : World) (base : Nat) (t ty e : TypeId) (i : TypeInfo) (z : Value) (size bytes : Nat) (ht : P.underlying t = some (.slice e)) (hi : P.info? e = some i) (hz : i.zero = some z)
    (hsize : i.size = size) (hby : i.bytes = bytes) (hzs : z.cells.size = size) (hsz : 0 < size)
    (v : Value) (n : Nat) (xs : List Value) (hown : w.ownsRow base e size v n xs)
    (a : Addr) (m c : Nat) (news : List Value) (hl : news.length = m * size) (hnews : ∀ j u, news[j]? = some u → w.cell? (a.add j) = some u) (h1 : ∀ u ∈ news, u.oneCell' = true)
    (h63 : n + m ≤ maxLen) (hbytes : (n + m) * bytes ≤ 140737488355328) {v' : Value} {w' : World} (hr : (Builtin.append_ #[t, t] ty #[v, .slice (some a) m c]).run P w = .ok v' w') :
    ∀ k, v'.ownBlock = some k → v.ownBlock = some k ∨ w.heap.size ≤ k := by
  subst hsize
  subst hby
  have hsmall : n + m ≤ 9223372036854775807 := by simp only [maxLen] at h63; omega
  intro k hk
  rcases hown.2 with ⟨rfl, rfl⟩ | ⟨g, cap, cur, rfl, hbg, hg, hnc, hcm, hcs, htake⟩
  · obtain ⟨v2, w2, hr2, ho2, -, -⟩ := run_append_own w w.heap.size t ty e i z i.size i.bytes ht hi hz rfl rfl hzs hsz (.slice none 0 0) 0 xs (by have hx : xs = [] := List.eq_nil_of_length_eq_zero (by simpa using hown.1); rw [hx]; exact World.ownsRow_nil _ _ _ _) a m c news hl hnews h1 h63 hbytes (Nat.le_refl _)
    rw [hr] at hr2
    cases hr2
    exact Or.inr (ho2.lt k hk).1
  · by_cases hroom : n + m ≤ cap
    · have hfit : n * i.size + news.length ≤ cur.size := by rw [hl, hcs, ← Nat.add_mul]; exact Nat.mul_le_mul_right _ hroom
      rw [run_append_room w t ty e i ht hi g n cap cur hg a m c news hl hnews h1 hroom hfit] at hr
      cases hr
      exact Or.inl hk
    · have holds : ∀ j u, xs[j]? = some u → w.cell? ((⟨g, 0, none⟩ : Addr).add j) = some u := hown.cells (g := g) rfl
      rw [run_append_grow w t ty e i z ht hi hz ⟨g, 0, none⟩ n cap xs hown.1 holds a m c news hl hnews (by omega) (by omega) (growslice_fits (by omega) hbytes)] at hr
      cases hr
      simp [Value.ownBlock] at hk
      exact Or.inr (by omega)
theorem wp_append_recs {α : Type} {enc : α → List Value} {P : Program} {w : World} {o : Oper} {a : Act} {K : Act → World → Prop} {Q : Exit → Act → World → Prop} (s x : Operand) (t : TypeId)
    (ho : o.op = .call { callee := .builtin .append, args := #[s, x], argTypes := #[t, t] })
    (base : Nat) (e : TypeId) (i : TypeInfo) (z : Value) (size bytes : Nat) (ht : P.underlying t = some (.slice e)) (hi : P.info? e = some i) (hz : i.zero = some z)
    (hsize : i.size = size) (hby : i.bytes = bytes) (hzs : z.cells.size = size) (hsz : 0 < size)
    (v : Value) (n : Nat) (xs : List Value) (hs : a.eval s = v) (hown : w.ownsRow base e size v n xs)
    (u : Value) (L : List α) (B : Nat) (hx : a.eval x = u) (hu : Recs enc size B w u L) (he : ∀ r : α, (enc r).length = size) (h1 : ∀ r : α, ∀ c ∈ enc r, c.oneCell' = true)
    (h63 : n + L.length ≤ maxLen) (hbytes : (n + L.length) * bytes ≤ 140737488355328) (hbase : base ≤ w.heap.size)
    (h : ∀ v' w', w'.ownsRow base e size v' (n + L.length) (xs ++ L.flatMap enc) → w.grownBy w' v.ownBlock → (∀ k, v'.ownBlock = some k → v.ownBlock = some k ∨ w.heap.size ≤ k) → K (a.put o.dst v') w') : o.wp P a w K Q := by
  obtain ⟨A, c, rfl, hc1, hc2⟩ := hu.form
  have hfl : (L.flatMap enc).length = L.length * size := flat_len he L
  have hone : ∀ u ∈ L.flatMap enc, u.oneCell' = true := fun q hq => by
    obtain ⟨r, _, hr⟩ := List.mem_flatMap.1 hq
    exact h1 r q hr
  cases A with
  | none =>
    have h0 : L.length = 0 := by
      rcases Nat.eq_zero_or_pos L.length with q | q
      · exact q
      · obtain ⟨b, o, hf, _⟩ := hu.news he hsz q
        cases hf
    have hL : L = [] := List.length_eq_zero_iff.1 h0
    subst hL
    have hrun := run_append_void (P := P) (w := w) base t o.type e i size ht hi v n c xs hown
    have hx' : a.eval x = .slice none 0 c := hx
    unfold Oper.wp
    simp [execOp, ho, resolve, invoke, builtin, hs, hx', hrun, Result.andThen]
    exact h v w (by simpa using hown) ⟨rfl, rfl, rfl, Nat.le_refl _, fun _ _ _ => rfl⟩ (fun k hk => Or.inl hk)
  | some ad =>
    have hnews : ∀ j q, (L.flatMap enc)[j]? = some q → w.cell? (ad.add j) = some q := by
      intro j q hq
      rcases Nat.eq_zero_or_pos L.length with h0 | h0
      · have : L = [] := List.length_eq_zero_iff.1 h0
        subst this
        simp at hq
      · obtain ⟨b, o, hf, _, hcell⟩ := hu.news he hsz h0
        cases hf
        exact hcell j q hq
    obtain ⟨v', w', hr, h2, h3, -⟩ := run_append_own (P := P) w base t o.type e i z size bytes ht hi hz hsize hby hzs hsz v n xs hown ad L.length c (L.flatMap enc) hfl hnews hone h63 hbytes hbase
    have h4 := own_block_next w base t o.type e i z size bytes ht hi hz hsize hby hzs hsz v n xs hown ad L.length c (L.flatMap enc) hfl hnews hone h63 hbytes hr
    have hx' : a.eval x = .slice (some ad) L.length c := hx
    unfold Oper.wp execOp
    simp only [ho, resolve, invoke, builtin, Sem.run_bind, Sem.run_pure, Result.andThen_ok, List.map_toArray, List.map_cons, List.map_nil, hs, hx', hr]
    exact h v' w' h2 h3 h4
theorem wpList_append_recs {α : Type} {enc : α → List Value} {P : Program} {w : World} {ops : Array Oper} {rest : List Oper} {o : Oper} {a : Act} {Q : Exit → Act → World → Prop} (hgd : o.guard = none) (s x : Operand) (t : TypeId)
    (ho : o.op = .call { callee := .builtin .append, args := #[s, x], argTypes := #[t, t] })
    (base : Nat) (e : TypeId) (i : TypeInfo) (z : Value) (size bytes : Nat) (ht : P.underlying t = some (.slice e)) (hi : P.info? e = some i) (hz : i.zero = some z)
    (hsize : i.size = size) (hby : i.bytes = bytes) (hzs : z.cells.size = size) (hsz : 0 < size)
    (v : Value) (n : Nat) (xs : List Value) (hs : a.eval s = v) (hown : w.ownsRow base e size v n xs)
    (u : Value) (L : List α) (B : Nat) (hx : a.eval x = u) (hu : Recs enc size B w u L) (he : ∀ r : α, (enc r).length = size) (h1 : ∀ r : α, ∀ c ∈ enc r, c.oneCell' = true)
    (h63 : n + L.length ≤ maxLen) (hbytes : (n + L.length) * bytes ≤ 140737488355328) (hbase : base ≤ w.heap.size)
    (h : ∀ v' w', w'.ownsRow base e size v' (n + L.length) (xs ++ L.flatMap enc) → w.grownBy w' v.ownBlock → (∀ k, v'.ownBlock = some k → v.ownBlock = some k ∨ w.heap.size ≤ k) → wpList P ops Q rest (a.put o.dst v') w') : wpList P ops Q (o :: rest) a w :=
  wpList_plain hgd fun _ hK => wp_append_recs s x t ho base e i z size bytes ht hi hz hsize hby hzs hsz v n xs hs hown u L B hx hu he h1 h63 hbytes hbase fun v' w' h2 h3 h4 => hK _ _ (h v' w' h2 h3 h4)
end Go.Proofs.YtolhniepejhmfaaDoor.Recs
/-
  Layer 8 (seek), a walk: the plain answer's Go: where parts lead from a node on; new memory may be laid, nothing that was there is changed. The conditions stand in the statement.
-/
namespace Go.Proofs.YtolhniepejhmfaaDoor.W08
open Go Go.RowKit Go.Proofs.YtolhniepejhmfaaDoor.Strs Go.Proofs.YtolhniepejhmfaaDoor.Recs
open Go.Proofs.YtolhniepejhmfaaDoor.M07 (Tr nodeAt inDir)
open Go.Proofs.YtolhniepejhmfaaDoor.M08 Go.Proofs.YtolhniepejhmfaaDoor.M04
open Go.Proofs.YtolhniepejhmfaaDoor.W07 (Nodes nodeV)
open Go.Proofs.YtolhniepejhmfaaDoor.M03 (check)
open Go.Proofs.YtolhniepejhmfaaDoor.Kit (ret_str ret_bool ret_int mk_of mk_bytes ba_ext below_draws on)

/-- what Go returns -/
def Went (r : Int × Nat × Int) (w : World) (e : Ending) (w' : World) : Prop := e = .returned (.tuple #[.int .i64 r.1, .int .i64 r.2.1, .int .i64 r.2.2]) ∧ Below w.heap.size w w'
def oneT (l : Bytes) : List Value := [strV l]
theorem one_len (l : Bytes) : (oneT l).length = 1 := rfl
theorem one_one (l : Bytes) : ∀ c ∈ oneT l, c.oneCell' = true := by intro c hc; simp [oneT, strV] at hc; subst hc; rfl
theorem texts_recs {B : Nat} {w : World} {v : Value} {L : List Bytes} (h : Texts B w v L) : Recs oneT 1 B w v L := by
  obtain ⟨A, c, e, h1, h2, h3⟩ := h
  refine ⟨A, c, e, h1, h2, fun hn => ?_⟩
  obtain ⟨ad, e2, hb, hc⟩ := h3 hn
  refine ⟨ad, e2, hb, fun k hk j hj => ?_⟩
  obtain rfl : j = 0 := by omega
  rw [Nat.mul_one, Nat.add_zero, hc k hk, List.getD_eq_getElem?_getD, List.getElem?_eq_getElem hk]
  rfl
theorem flat_one : ∀ L : List Bytes, L.flatMap oneT = L.map strV
  | [] => rfl
  | a :: L => by rw [List.flatMap_cons, List.map_cons, flat_one L]; rfl
theorem texts_two {w : World} {base : Nat} {v : Value} {P R : List Bytes} (h : w.ownsRow base 9 1 v (0 + P.length + R.length) ([] ++ P.flatMap oneT ++ R.flatMap oneT)) : Texts w.heap.size w v (P ++ R) := by
  rw [flat_one, flat_one, List.nil_append, ← List.map_append] at h
  exact Texts.of_own h
end Go.Proofs.YtolhniepejhmfaaDoor.W08
/-
  Layer 8 (seek), walks: the plain answer's Go at every list of parts, and Find; new memory may be laid, nothing that was there is changed. The conditions stand in the statements.
-/
namespace Go.Proofs.YtolhniepejhmfaaDoor.W08
open Go Go.RowKit Go.Proofs.YtolhniepejhmfaaDoor.Strs Go.Proofs.YtolhniepejhmfaaDoor.Recs
open Go.Proofs.YtolhniepejhmfaaDoor.M07 (Tr nodeAt inDir)
open Go.Proofs.YtolhniepejhmfaaDoor.M08 Go.Proofs.YtolhniepejhmfaaDoor.M04
open Go.Proofs.YtolhniepejhmfaaDoor.W07 (Nodes nodeV)
open Go.Proofs.YtolhniepejhmfaaDoor.M03 (check)
open Go.Proofs.YtolhniepejhmfaaDoor.Kit (ret_str ret_bool ret_int mk_of mk_bytes ba_ext below_draws on list_full list_ne list_none list_nil bytes_nil bytes_ne)

end Go.Proofs.YtolhniepejhmfaaDoor.W08
/-
  Layer 4 (path), walks: the plain answers text, Clean, Join, Dir and Base: what each returns at texts of at most 2^40 bytes; new memory may be laid, nothing that was there is changed.
-/
namespace Go.Proofs.YtolhniepejhmfaaDoor.W04
open Go Go.RowKit Go.Proofs.YtolhniepejhmfaaDoor.Strs Go.Proofs.YtolhniepejhmfaaDoor.M04
open Go.Proofs.YtolhniepejhmfaaDoor.Kit (ret_str mk_of mk_bytes ba_ext cat_bytes list_full list_ne list_none list_nil bytes_nil bytes_cons byte_eq byte_ne below_draws on)

theorem flat_next {L : List Bytes} {k : Nat} (hk : k < L.length) : (L.take (k + 1)).flatMap (fun p => 47 :: p) = (L.take k).flatMap (fun p => 47 :: p) ++ 47 :: L.getD k [] := by
  rw [List.take_succ_eq_append_getElem hk, List.flatMap_append]
  simp [hk]
theorem flat_all {L : List Bytes} {k : Nat} (hk : ¬ k < L.length) : (L.take k).flatMap (fun p => 47 :: p) = L.flatMap (fun p => 47 :: p) := by rw [List.take_of_length_le (by omega)]
theorem flat_bound (L : List Bytes) (k : Nat) : ((L.take k).flatMap (fun p => 47 :: p)).length ≤ total L := by
  rw [flat_total]
  conv => rhs; rw [← List.take_append_drop k L, total_append]
  omega
theorem part_bound {L : List Bytes} {k : Nat} (hk : k < L.length) : (L.getD k []).length ≤ total L := by
  induction L generalizing k with
  | nil => simp at hk
  | cons p L ih =>
    rw [total_cons]
    cases k with
    | zero => simp; omega
    | succ k =>
      have := ih (k := k) (by simpa using hk)
      simp at this ⊢; omega
theorem text_full {L : List Bytes} (h : L ≠ []) : text L = L.flatMap (fun p => 47 :: p) := by unfold text; rw [if_neg h]
theorem flat_none {L : List Bytes} (h : ¬ 0 < L.length) : L = [] := List.length_eq_zero_iff.1 (by omega)
theorem flat_some {L : List Bytes} (h : 0 < (L.flatMap (fun p => 47 :: p)).length) : L ≠ [] := by rintro rfl; simp at h

/-! ### Clean -/
theorem fold_next {L : List Bytes} {k : Nat} (hk : k < L.length) : (L.take (k + 1)).foldl cstep [] = cstep ((L.take k).foldl cstep []) (L.getD k []) := by
  rw [List.take_succ_eq_append_getElem hk, List.foldl_append]
  simp [hk]
theorem fold_all {L : List Bytes} {k : Nat} (hk : ¬ k < L.length) : (L.take k).foldl cstep [] = cparts L := by rw [List.take_of_length_le (by omega)]; rfl
theorem fold_count : ∀ (L out : List Bytes), (L.foldl cstep out).length ≤ out.length + L.length
  | [], out => by simp
  | p :: L, out => by
    have h := fold_count L (cstep out p)
    have h2 : (cstep out p).length ≤ out.length + 1 := by unfold cstep; split <;> simp; omega
    rw [List.foldl_cons, List.length_cons]; omega
theorem clean_total (L : List Bytes) : total (cparts L) ≤ total L := by
  have := fold_total L []
  have e : total [] = 0 := rfl
  unfold cparts; omega
theorem take_drop_map {out : List Bytes} {n : Nat} (h : out.length = n + 1) : (out.map strV).take n = out.dropLast.map strV := by
  rw [List.dropLast_eq_take, h, List.map_take]; rfl

end Go.Proofs.YtolhniepejhmfaaDoor.W04
/-
  Layer 4 (path), walks: the plain answers Join, Dir, Base and Is: what each returns at texts of at most 2^40 bytes; new memory may be laid, nothing that was there is changed.
-/
namespace Go.Proofs.YtolhniepejhmfaaDoor.W04
open Go Go.RowKit Go.Proofs.YtolhniepejhmfaaDoor.Strs Go.Proofs.YtolhniepejhmfaaDoor.M04
open Go.Proofs.YtolhniepejhmfaaDoor.M03 (check)
open Go.Proofs.YtolhniepejhmfaaDoor.Kit (ret_str ret_bool mk_of mk_bytes ba_ext cat_bytes list_full list_ne list_none list_nil bytes_nil bytes_cons byte_eq byte_ne below_draws on)

theorem clean_size {s d : ByteArray} (hd : d.data.toList = clean s.data.toList) : d.size ≤ s.size + 2 := by
  rw [Lib.size_eq, hd, Lib.size_eq]; exact clean_len _
theorem join_rooted {dir s : ByteArray} (h0 : 0 < s.size) (h : s[0] = 47) : join dir.data.toList s.data.toList = clean s.data.toList := by
  unfold join; rw [if_pos]; rw [bytes_cons h0, h]; rfl
theorem join_from {dir s : ByteArray} (h : ∀ h0 : 0 < s.size, ¬ s[0] = 47) : join dir.data.toList s.data.toList = clean (dir ++ ⟨#[47]⟩ ++ s).data.toList := by
  unfold join
  rw [if_neg, cat_bytes, cat_bytes, List.append_assoc]
  · rfl
  · intro e
    by_cases h0 : 0 < s.size
    · rw [bytes_cons h0] at e
      exact h h0 (by simpa using e)
    · rw [bytes_nil h0] at e; simp at e


end Go.Proofs.YtolhniepejhmfaaDoor.W04
/-
  Layer 4 (path), walks: the plain answers Is and Under: what each returns at texts of at most 2^40 bytes; new memory may be laid, nothing that was there is changed.
-/
namespace Go.Proofs.YtolhniepejhmfaaDoor.W04
open Go Go.RowKit Go.Proofs.YtolhniepejhmfaaDoor.Strs Go.Proofs.YtolhniepejhmfaaDoor.M04
open Go.Proofs.YtolhniepejhmfaaDoor.M03 (check)
open Go.Proofs.YtolhniepejhmfaaDoor.Kit (ret_str ret_bool mk_of mk_bytes ba_ext cat_bytes list_full list_ne list_none list_nil bytes_nil bytes_cons byte_eq byte_ne below_draws on)

theorem ne_bytes {a b : ByteArray} (h : ¬ a.data.toList = b.data.toList) : (a.toList == b.toList) = false := by
  rw [Lib.toList_data, Lib.toList_data]; simpa using h
theorem eq_bytes {a b : ByteArray} (h : a.data.toList = b.data.toList) : (a.toList == b.toList) = true := by
  rw [Lib.toList_data, Lib.toList_data]; simpa using h
theorem is_text {l : Bytes} (h : ¬ l = text (parts l)) : isPath l = false := by simp [isPath, h]
theorem is_long {l : Bytes} (h : 1024 < l.length) : isPath l = false := by
  have : ¬ l.length ≤ 1024 := by omega
  simp [isPath, this]
theorem is_all {l : Bytes} (h : l = text (parts l)) (h2 : l.length ≤ 1024) : isPath l = (parts l).all (fun p => decide (check p = 0)) := by
  unfold isPath; rw [decide_eq_true h, decide_eq_true h2]; rfl
theorem all_next {L : List Bytes} {k : Nat} (hk : k < L.length) (h : (L.take k).all (fun p => decide (check p = 0)) = true) (hc : check (L.getD k []) = 0) : (L.take (k + 1)).all (fun p => decide (check p = 0)) = true := by
  rw [List.take_succ_eq_append_getElem hk, List.all_append, h]
  have e : L[k] = L.getD k [] := by simp [hk]
  rw [e]
  simp only [List.all_cons, List.all_nil, Bool.and_true, Bool.true_and, decide_eq_true_eq]
  exact hc
theorem all_not {L : List Bytes} {k : Nat} (hk : k < L.length) (hc : ¬ check (L.getD k []) = 0) : L.all (fun p => decide (check p = 0)) = false := by
  rw [List.all_eq_false]
  refine ⟨L.getD k [], ?_, by simpa using hc⟩
  have e : L.getD k [] = L[k] := by simp [hk]
  rw [e]; exact List.getElem_mem hk


/-! ### Under -/
theorem under_not {s d : Bytes} (h : isUnder s d = false) : under s d = ([], false) := by unfold under; rw [h]; rfl
theorem under_first {s d : Bytes} (h : ¬ clean s = s) : under s d = ([], false) := under_not (by simp [isUnder, h])
theorem under_second {s d : Bytes} (h : ¬ clean d = d) : under s d = ([], false) := under_not (by simp [isUnder, h])
theorem under_short {s d : Bytes} (h : (parts s).length < (parts d).length) : under s d = ([], false) := under_not (by
  have : (parts d).isPrefixOf (parts s) = false := by
    rw [Bool.eq_false_iff]
    intro e
    have := (List.isPrefixOf_iff_prefix.1 e).length_le
    omega
  simp [isUnder, this])
theorem under_differ {s d : Bytes} {k : Nat} (h : k < (parts d).length) (h2 : ¬ (parts s).getD k [] = (parts d).getD k []) : under s d = ([], false) := under_not (by
  have : (parts d).isPrefixOf (parts s) = false := by
    rw [Bool.eq_false_iff]
    intro e
    obtain ⟨t, ht⟩ := List.isPrefixOf_iff_prefix.1 e
    apply h2
    rw [← ht, List.getD_eq_getElem?_getD, List.getElem?_append_left h, ← List.getD_eq_getElem?_getD]
  simp [isUnder, this])
theorem prefix_of {a b : List Bytes} (hl : b.length ≤ a.length) (h : ∀ j, j < b.length → a.getD j [] = b.getD j []) : b.isPrefixOf a = true := by
  rw [List.isPrefixOf_iff_prefix, List.prefix_iff_eq_take]
  apply List.ext_getElem (by rw [List.length_take]; omega)
  intro i h1 h2
  have := h i h1
  have h3 : i < a.length := by omega
  rw [List.getElem_take]
  simpa [List.getD_eq_getElem?_getD, h1, h3] using this.symm
theorem under_yes {s d : Bytes} (hs : clean s = s) (hd : clean d = d) (hl : ¬ (parts s).length < (parts d).length) (h : ∀ j, j < (parts d).length → (parts s).getD j [] = (parts d).getD j []) : under s d = (slashed ((parts s).drop (parts d).length), true) := by
  unfold under
  rw [if_pos]
  simp [isUnder, hs, hd, prefix_of (by omega) h]
theorem slashed_snoc (L : List Bytes) (x : Bytes) (h : L ≠ []) : slashed (L ++ [x]) = slashed L ++ 47 :: x := by
  induction L with
  | nil => exact absurd rfl h
  | cons a L ih =>
    cases L with
    | nil => rfl
    | cons b r =>
      have := ih (by simp)
      show a ++ 47 :: slashed (b :: r ++ [x]) = (a ++ 47 :: slashed (b :: r)) ++ 47 :: x
      rw [this]; simp
theorem slashed_len : ∀ L : List Bytes, (slashed L).length ≤ total L
  | [] => by simp [slashed]
  | [p] => by simp [slashed, total]
  | p :: q :: r => by
    have := slashed_len (q :: r)
    show (p ++ 47 :: slashed (q :: r)).length ≤ _
    rw [total_cons, List.length_append, List.length_cons]; omega
theorem drop_total (L : List Bytes) (n k : Nat) : total ((L.drop n).take k) ≤ total L := by
  have h1 : total L = total (L.take n) + total (L.drop n) := by rw [← total_append, List.take_append_drop]
  have h2 : total (L.drop n) = total ((L.drop n).take k) + total ((L.drop n).drop k) := by rw [← total_append, List.take_append_drop]
  omega
/-- what has been put together when k parts are gone through -/
def sofar (a : List Bytes) (n k : Nat) : Bytes := slashed ((a.drop n).take (k - n))
theorem sofar_below {a : List Bytes} {n k : Nat} (h : k < n) : sofar a n (k + 1) = sofar a n k := by
  unfold sofar; rw [show k + 1 - n = 0 by omega, show k - n = 0 by omega]
theorem sofar_first {a : List Bytes} {n : Nat} (h : n < a.length) : sofar a n (n + 1) = a.getD n [] := by
  unfold sofar
  rw [show n + 1 - n = 1 by omega, List.drop_eq_getElem_cons h, List.take_succ_cons, List.take_zero]
  show a[n] = _
  simp [h]
theorem sofar_more {a : List Bytes} {n k : Nat} (h : n < k) (hk : k < a.length) : sofar a n (k + 1) = sofar a n k ++ 47 :: a.getD k [] := by
  unfold sofar
  have h1 : k - n < (a.drop n).length := by rw [List.length_drop]; omega
  rw [show k + 1 - n = k - n + 1 by omega, List.take_succ_eq_append_getElem h1, slashed_snoc]
  · rw [List.getElem_drop]
    have : n + (k - n) = k := by omega
    simp [this, hk]
  · intro e
    have := congrArg List.length e
    rw [List.length_take, List.length_nil] at this
    omega
theorem sofar_start (a : List Bytes) (n : Nat) : sofar a n n = [] := by unfold sofar; rw [Nat.sub_self]; rfl
theorem sofar_zero (a : List Bytes) (n : Nat) : sofar a n 0 = [] := by unfold sofar; rw [Nat.zero_sub]; rfl
theorem sofar_end {a : List Bytes} {n k : Nat} (h : ¬ k < a.length) : sofar a n k = slashed (a.drop n) := by
  unfold sofar; rw [List.take_of_length_le (by rw [List.length_drop]; omega)]
theorem sofar_len (a : List Bytes) (n k : Nat) : (sofar a n k).length ≤ total a := Nat.le_trans (slashed_len _) (drop_total a n _)
theorem ret_under {a b : ByteArray} {c d : Bool} (h : a = b) (h2 : c = d) : Ending.returned (.tuple #[.string a, .bool c]) = .returned (.tuple #[.string b, .bool d]) := by rw [h, h2]

end Go.Proofs.YtolhniepejhmfaaDoor.W04
/-
  Layer 8 (seek), walks: the plain answers Real and Straight; new memory may be laid, nothing that was there is changed. The conditions stand in the statements.
-/
namespace Go.Proofs.YtolhniepejhmfaaDoor.W08
open Go Go.RowKit Go.Proofs.YtolhniepejhmfaaDoor.Strs Go.Proofs.YtolhniepejhmfaaDoor.Recs
open Go.Proofs.YtolhniepejhmfaaDoor.M07 (Tr nodeAt inDir Right upOf upN height at_some)
open Go.Proofs.YtolhniepejhmfaaDoor.M08 Go.Proofs.YtolhniepejhmfaaDoor.M04
open Go.Proofs.YtolhniepejhmfaaDoor.W07 (Nodes nodeV set_heap set_size heap_top)
open Go.Proofs.YtolhniepejhmfaaDoor.M03 (check)
open Go.Proofs.YtolhniepejhmfaaDoor.Kit (ret_str ret_bool ret_int mk_of mk_bytes ba_ext below_draws on list_full list_ne list_none list_nil bytes_nil bytes_ne cat_bytes)

section
variable {w w' : World} {k : Nat} {v : Value} {last : Int}
end
/-- the number of the node in a box -/
def numAt (w : World) (p : Nat) : Int := match w.cell? ⟨p, 0, none⟩ with | some (.int _ q) => q | _ => 0
/-- a node stored over another one -/
def overNode (w : World) (p : Nat) (x : M07.Nd) : World := ((((w.setCell ⟨p, 0, none⟩ (.int .i64 x.num)).setCell ⟨p, 1, none⟩ (.int .i64 x.up)).setCell ⟨p, 2, none⟩ (.string ⟨x.name.toArray⟩)).setCell ⟨p, 3, none⟩ (.int .i64 x.kind)).setCell ⟨p, 4, none⟩ (.string ⟨x.data.toArray⟩)
theorem over_other {w : World} {p k : Nat} {y : M07.Nd} (h : k ≠ p) : (overNode w p y).heap[k]? = w.heap[k]? := by
  unfold overNode
  rw [Below.heap_setCell _ _ _ _ (by exact h), Below.heap_setCell _ _ _ _ (by exact h), Below.heap_setCell _ _ _ _ (by exact h), Below.heap_setCell _ _ _ _ (by exact h), Below.heap_setCell _ _ _ _ (by exact h)]
theorem over_below {a w : World} {B p : Nat} {y : M07.Nd} (h : Below B a w) (hp : B ≤ p) : Below B a (overNode w p y) := ((((h.setCell (p := ⟨p, 0, none⟩) hp _).setCell (p := ⟨p, 1, none⟩) hp _).setCell (p := ⟨p, 2, none⟩) hp _).setCell (p := ⟨p, 3, none⟩) hp _).setCell (p := ⟨p, 4, none⟩) hp _
theorem over_size (w : World) (p : Nat) (y : M07.Nd) : (overNode w p y).heap.size = w.heap.size := by unfold overNode; rw [set_size, set_size, set_size, set_size, set_size]
theorem ret_real {a : ByteArray} {b : Bool} {r : Bytes × Bool} (h : r = (a.data.toList, b)) : Ending.returned (.tuple #[.string a, .bool b]) = .returned (.tuple #[.string ⟨r.1.toArray⟩, .bool r.2]) := by
  rw [h]
theorem at_num {t : Tr} {k : Int} (h : (nodeAt t.L k).kind ≠ 0) : (nodeAt t.L k).num = k := (at_some h).2
theorem texts_flat {B : Nat} {w : World} {A : Option Addr} {n c k : Nat} {L : List Bytes} (h : Texts B w (.slice A n c) L) (hk : k < n) : ∃ (b o : Nat) (q : ByteArray), A = some ⟨b, o, none⟩ ∧ b < B ∧ w.cell? ⟨b, o + k, none⟩ = some (.string q) ∧ q.data.toList = L.getD k [] := by
  obtain ⟨ad, q, rfl, hb, hc, hq⟩ := h.at_ hk
  obtain ⟨ad0, q0, e, -, hc0, -⟩ := h.at_ (k := 0) (by omega)
  cases e
  obtain ⟨b, o, sp⟩ := ad
  have hsp : sp = none := by simpa [Addr.add] using World.cell?_spot hc0
  subst hsp
  rw [Addr.add_lit] at hc
  exact ⟨b, o, q, rfl, hb, hc, hq⟩
theorem box3_below {w1 w' : World} {p q i : Nat} {y0 y1 y2 : Value} (hS : w'.cell? ⟨p, 0, none⟩ = some y0 ∧ w'.cell? ⟨p, 1, none⟩ = some y1 ∧ w'.cell? ⟨q, i, none⟩ = some y2 ∧ Below w1.heap.size w1 w') : Below w1.heap.size w1 w' := hS.2.2.2
end Go.Proofs.YtolhniepejhmfaaDoor.W08
/-
  Layer 8 (seek), walks: the plain answers Spot, Real and Straight; new memory may be laid, nothing that was there is changed. The conditions stand in the statements.
-/
namespace Go.Proofs.YtolhniepejhmfaaDoor.W08
open Go Go.RowKit Go.Proofs.YtolhniepejhmfaaDoor.Strs Go.Proofs.YtolhniepejhmfaaDoor.Recs
open Go.Proofs.YtolhniepejhmfaaDoor.M07 (Tr nodeAt inDir Right)
open Go.Proofs.YtolhniepejhmfaaDoor.M08 Go.Proofs.YtolhniepejhmfaaDoor.M04
open Go.Proofs.YtolhniepejhmfaaDoor.W07 (Nodes nodeV)
open Go.Proofs.YtolhniepejhmfaaDoor.M03 (check)
open Go.Proofs.YtolhniepejhmfaaDoor.Kit (ret_str ret_bool ret_int mk_of mk_bytes ba_ext below_draws on list_full list_ne list_none list_nil bytes_nil bytes_ne)

theorem ret_spot {a : Int} {b : ByteArray} {c : Int} {r : Int × Bytes × Int} (h : r = (a, b.data.toList, c)) : Ending.returned (.tuple #[.int .i64 a, .string b, .int .i64 c]) = .returned (.tuple #[.int .i64 r.1, .string ⟨r.2.1.toArray⟩, .int .i64 r.2.2]) := by
  rw [h]
theorem drop_len {P : List Bytes} {m : Nat} (h : P.length = m + 1) : P.dropLast.length = m := by rw [List.length_dropLast, h]; rfl
end Go.Proofs.YtolhniepejhmfaaDoor.W08
/-
  Layer 7 (tree), a walk of the law's Same: a tree of the program's that reads as a right tree t, held against the plain answer's t: true; nothing that was there is changed.
-/
namespace Go.Proofs.YtolhniepejhmfaaDoor.W07
open Go Go.RowKit Go.Proofs.YtolhniepejhmfaaDoor.Strs Go.Proofs.YtolhniepejhmfaaDoor.Recs Go.Proofs.YtolhniepejhmfaaDoor.M07 Go.Proofs.YtolhniepejhmfaaDoor.Range
open Go.Proofs.YtolhniepejhmfaaDoor.M06 (Ent)
open Go.Proofs.YtolhniepejhmfaaDoor.W06 (Ents HandsE)
open Go.Proofs.YtolhniepejhmfaaDoor.Kit (ret_str ret_bool ret_int mk_of mk_bytes ba_ext below_draws on)

/-- what is held of a node's box over calls that lay new memory alone -/
def HoldsNode (w6 : World) (p : Nat) (x : Nd) (w' : World) : Prop := w'.cell? ⟨p, 1, none⟩ = some (.int .i64 x.up) ∧ w'.cell? ⟨p, 3, none⟩ = some (.int .i64 x.kind) ∧ w'.cell? ⟨p, 4, none⟩ = some (.string ⟨x.data.toArray⟩) ∧ Below w6.heap.size w6 w'
theorem holds_on {w6 w' w'' : World} {p : Nat} {x : Nd} (hp : p < w6.heap.size) (h : w'.cell? ⟨p, 1, none⟩ = some (.int .i64 x.up) ∧ w'.cell? ⟨p, 3, none⟩ = some (.int .i64 x.kind) ∧ w'.cell? ⟨p, 4, none⟩ = some (.string ⟨x.data.toArray⟩) ∧ Below w6.heap.size w6 w') (hb : Below w'.heap.size w' w'') :
    w''.cell? ⟨p, 1, none⟩ = some (.int .i64 x.up) ∧ w''.cell? ⟨p, 3, none⟩ = some (.int .i64 x.kind) ∧ w''.cell? ⟨p, 4, none⟩ = some (.string ⟨x.data.toArray⟩) ∧ Below w6.heap.size w6 w'' := by
  obtain ⟨h1, h2, h3, h4⟩ := h
  have hlt : p < w'.heap.size := Nat.lt_of_lt_of_le hp h4.size
  exact ⟨(hb.cell hlt).trans h1, (hb.cell hlt).trans h2, (hb.cell hlt).trans h3, on h4 hb⟩
theorem holds_below {w6 w' : World} {p : Nat} {x : Nd} (h : w'.cell? ⟨p, 1, none⟩ = some (.int .i64 x.up) ∧ w'.cell? ⟨p, 3, none⟩ = some (.int .i64 x.kind) ∧ w'.cell? ⟨p, 4, none⟩ = some (.string ⟨x.data.toArray⟩) ∧ Below w6.heap.size w6 w') : Below w6.heap.size w6 w' := h.2.2.2

end Go.Proofs.YtolhniepejhmfaaDoor.W07
/-
  Layer 7 (tree), a walk of the law's do: an act done to a tree of the program's, and to the plain answer's tree, comes to the same; nothing that was there is changed but the tree's own blocks.
-/
namespace Go.Proofs.YtolhniepejhmfaaDoor.W07
open Go Go.RowKit Go.Proofs.YtolhniepejhmfaaDoor.Strs Go.Proofs.YtolhniepejhmfaaDoor.Recs Go.Proofs.YtolhniepejhmfaaDoor.M07 Go.Proofs.YtolhniepejhmfaaDoor.Range
open Go.Proofs.YtolhniepejhmfaaDoor.M06 (Ent)
open Go.Proofs.YtolhniepejhmfaaDoor.Kit (ret_str ret_bool ret_int mk_of mk_bytes ba_ext below_draws on)

/-- a slice's own block is none of F -/
def Off (F : Nat → Prop) (u : Value) : Prop := ∀ b o n c, u = .slice (some ⟨b, o, none⟩) n c → ¬ F b
theorem nodes_turns {F : Nat → Prop} {B : Nat} {w w' : World} {v : Value} {L : List Nd} (h : Nodes B w v L) (ht : Turns F w w') (hoff : Off F v) : Nodes B w' v L := by
  by_cases h0 : 0 < L.length
  · obtain ⟨A, c, rfl, h1, h2⟩ := h.form
    obtain ⟨b, o, _, rfl, hb, hc0, _⟩ := Nodes.at_ h h0
    have hlt := World.block_lt_of_cell? w _ hc0
    exact Recs.other h fun p hp => World.cell?_of_block (ht.block _ (by rw [hp]; exact hlt) (by rw [hp]; exact hoff _ _ _ _ rfl))
  · have e : L = [] := List.length_eq_zero_iff.1 (by omega)
    subst e
    obtain ⟨A, c, rfl, h1, h2, h3⟩ := h
    exact ⟨A, c, rfl, h1, h2, fun h => absurd h (by simp)⟩
theorem off_same {F F' : Nat → Prop} {v : Value} {L : List Nd} {n0 : Nat} {w : World} (hn : Nodes n0 w v L) (h0 : 0 < L.length) (hv : Off F v) (hF : ∀ k, F' k → F k ∨ n0 ≤ k) : Off F' v := by
  obtain ⟨A, c, rfl, h1, h2⟩ := hn.form
  obtain ⟨b, o, _, rfl, hb, _⟩ := Nodes.at_ hn h0
  intro b' o' n' c' e hk
  cases e
  rcases hF _ hk with h | h
  · exact hv _ _ _ _ rfl h
  · omega
theorem off_from {F : Nat → Prop} {v u : Value} {S : Nat} (hv : Off F v) (hS : ∀ k, F k → k < S) (hf : FromOr v S u) : Off F u := by
  rcases hf with rfl | rfl | ⟨g, n, c, rfl, hg⟩
  · exact hv
  · intro b o n c e; cases e
  · intro b o n' c' e hk
    cases e
    have := hS _ hk
    omega
noncomputable def doAct (t : Tr) (act dir dst : Int) (name as' : Bytes) (kind : Int) (data : Bytes) : Tr :=
  if act = 0 then (put t dir name kind data).1 else if act = 1 then (set t dir data).1 else if act = 2 then (cut t dir name).1 else if act = 3 then (M07.move t dir name dst as').1 else t
section
variable {w w' : World} {p : Nat} {v : Value} {last act dir dst kind : Int} {nm al dt : ByteArray}
end
/-- what do comes to -/
def Did (Rep : (Nat → Prop) → World → Value → Tr → Prop) (F : Nat → Prop) (pv : Value) (t' : Tr) (w : World) (e : Ending) (w' : World) : Prop :=
  ∃ u F', e = .returned (.tuple #[.agg #[u, .int .i64 t'.last], .bool true]) ∧ Nodes w'.heap.size w' u t'.L ∧ Rep F' w' pv t' ∧ Off F' u ∧ Turns F w w' ∧ ∀ k, F' k → F k ∨ w.heap.size ≤ k
theorem turns_box (w : World) (q : Nat) (a b : Value) : Turns (fun k => k = q) w ((w.setCell ⟨q, 0, none⟩ a).setCell ⟨q, 1, none⟩ b) :=
  (Turns.setCell (T := fun k => k = q) (a := ⟨q, 0, none⟩) a rfl).trans (Turns.setCell (T := fun k => k = q) (a := ⟨q, 1, none⟩) b rfl)
theorem turns_old {F : Nat → Prop} {A B : World} (h : Turns (fun k => F k ∨ A.heap.size ≤ k) A B) : Turns F A B := ⟨h.os, h.tape, h.output, h.size, fun k hk hf => h.block k hk (fun e => by rcases e with e | e; exact hf e; omega)⟩
theorem did_done {Rep : (Nat → Prop) → World → Value → Tr → Prop} (C : Trees Rep) {F F' : Nat → Prop} {w wi wf : World} {pv u : Value} {t' : Tr} {q : Nat} {e : Ending}
    (he : e = .returned (.tuple #[.agg #[u, .int .i64 t'.last], .bool true])) (Hi : Rep F' wi pv t') (hF : ∀ k, F' k → F k ∨ w.heap.size ≤ k) (hq : ¬ F' q) (hqw : w.heap.size ≤ q)
    (t1 : Turns (fun k => F k ∨ w.heap.size ≤ k) w wi) (tf : Turns (fun k => k = q) wi wf) (hn : Nodes wf.heap.size wf u t'.L) (ho : Off F' u) : Did Rep F pv t' w e wf :=
  ⟨u, F', he, hn, C.keep Hi (fun k hk => tf.block k (C.low Hi k hk) (fun e => hq (by rw [← e]; exact hk))) tf.size, ho, turns_old (t1.trans (tf.wider fun k hk => Or.inr (by omega))), hF⟩
theorem results_cell_one_tmp {fn : Func} {p t : Tmp} {ty : TypeId} (h : fn.results = #[.cell p ty, .tmp t]) (tmps : Array Value) (P : Program) (w : World) :
    (results fn tmps).run P w = ((asAddr (tmps.getD p undef)).run P w).andThen fun a w₁ => ((loadVar ty a).run P w₁).andThen fun v w₂ => .ok (.tuple #[v, tmps.getD t undef]) w₂ := by
  simp only [results, h]
  simp [Sem.run_bind, Result.andThen]
end Go.Proofs.YtolhniepejhmfaaDoor.W07
/-
  Layer 9 (posix), walks: the plain answers Stat, Data, List; new memory may be laid, nothing that was there is changed. The conditions stand in the statements.
-/
namespace Go.Proofs.YtolhniepejhmfaaDoor.W09
open Go Go.RowKit Go.Proofs.YtolhniepejhmfaaDoor.Strs Go.Proofs.YtolhniepejhmfaaDoor.Recs Go.Proofs.YtolhniepejhmfaaDoor.Range
open Go.Proofs.YtolhniepejhmfaaDoor.M07 (Tr Nd nodeAt inDir Right listDir)
open Go.Proofs.YtolhniepejhmfaaDoor.M08 Go.Proofs.YtolhniepejhmfaaDoor.M09
open Go.Proofs.YtolhniepejhmfaaDoor.W07 (Nodes nodeV heap_two_a heap_two_b heap_top)

open Go.Proofs.YtolhniepejhmfaaDoor.W06 (Ents)
open Go.Proofs.YtolhniepejhmfaaDoor.Kit (ret_str ret_bool ret_int mk_of mk_bytes ba_ext below_draws on)

section
variable {w w' : World} {p : Nat} {a b c : Int} {x : Nd}
end
/-- a box of a task -/
def TaskBox (w : World) (p : Nat) (k : Int) (a b : ByteArray) : Prop := w.heap[p]? = some (.cells #[.int .i64 k, .string a, .string b] 23 (0, 0))
section
variable {w w' : World} {p : Nat} {k : Int} {a b : ByteArray}
theorem TaskBox.lt (h : TaskBox w p k a b) : p < w.heap.size := (Array.getElem?_eq_some_iff.1 h).1
theorem TaskBox.below (h : TaskBox w p k a b) (hb : Below w.heap.size w w') : TaskBox w' p k a b := (hb.block _ h.lt).trans h
theorem TaskBox.c0 (h : TaskBox w p k a b) : w.cell? ⟨p, 0, none⟩ = some (.int .i64 k) := cell_of_row w _ 0 _ _ (0, 0) h
theorem TaskBox.c1 (h : TaskBox w p k a b) : w.cell? ⟨p, 1, none⟩ = some (.string a) := cell_of_row w _ 1 _ _ (0, 0) h
theorem TaskBox.c2 (h : TaskBox w p k a b) : w.cell? ⟨p, 2, none⟩ = some (.string b) := cell_of_row w _ 2 _ _ (0, 0) h
end
theorem stored3 {w w' : World} {p : Nat} (a b c : Value) (h : Below w.heap.size w w') (hp : w.heap.size ≤ p) : Below w.heap.size w (((w'.setCell ⟨p, 0, none⟩ a).setCell ⟨p, 1, none⟩ b).setCell ⟨p, 2, none⟩ c) :=
  ((h.setCell hp a).setCell hp b).setCell hp c
theorem data_stat (t : Tr) (p : Bytes) (last : Bool) (kind other : Int) : M09.data t p last kind other = if (M09.stat t p last).2 ≠ 0 then ([], (M09.stat t p last).2) else if (M09.stat t p last).1.2.1 ≠ kind then ([], other) else ((nodeAt t.L (M09.stat t p last).1.1).data, 0) := by
  unfold M09.data M09.stat
  by_cases h : (find t p last).2 = 0 <;> simp [h]
theorem list_stat (t : Tr) (p : Bytes) : M09.list t p = if (M09.stat t p true).2 ≠ 0 then ([], (M09.stat t p true).2) else if (M09.stat t p true).1.2.1 ≠ 1 then ([], 7) else ((listDir t.L (M09.stat t p true).1.1).map (·.1), 0) := by
  unfold M09.list M09.stat
  by_cases h : (find t p true).2 = 0 <;> simp [h]
theorem ret_data {a : ByteArray} {b : Int} {r : Bytes × Int} (h : r = (a.data.toList, b)) : Ending.returned (.tuple #[.string a, .int .i64 b]) = .returned (.tuple #[.string ⟨r.1.toArray⟩, .int .i64 r.2]) := by
  rw [h]
end Go.Proofs.YtolhniepejhmfaaDoor.W09
