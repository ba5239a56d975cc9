/-
  Texts joined, in build order, each with its own comment and its own conditions: Maps, W07Real.
-/
import Derived.Test.YtolhniepejhmfaaGreatDoorJ01
import Derived.Maps.RangeWalk
import Derived.OwnWalk
import Derived.Test.YtolhniepejhmfaaGreatDoorJ07
import Derived.Test.YtolhniepejhmfaaGreatDoorJ08
/-
  Maps keyed by int whose elements are told by a function from the keys: what they hold, how many they are; look-up, store, delete, len, range at the operations; for every program. Plain lemmas on worlds; no condition but those that each theorem bears.
-/
namespace Go.Proofs.YtolhniepejhmfaaGreatDoor.Maps
open Go Go.RowKit Go.Maps Go.ChangeMaps Go.MapKept
open Go.WideElems (Fit rd rg pl rd_key rd_val rg_of)

/-- an element as it is -/
def hold (v : Value) : Option (DataW Value × List MemPlace) := some (.held v, [])
/-- in w the block b is a map that holds at each key what f tells; its entries are m -/
def MapIs (w : World) (P : Program) (k : TypeId) (b : Nat) (f : Int → Option Value) (m : Nat) : Prop :=
  ∃ l : List (Lit × DataW Value), w.ownsMap P k hold b m (.map l) ∧ l.length = m ∧ ∀ n v, f n = some v ↔ (Lit.int .i64 n, DataW.held v) ∈ l
def upd {α : Type} (f : Int → α) (n : Int) (x : α) : Int → α := fun m => if m = n then x else f m
theorem upd_here {α : Type} (f : Int → α) (n : Int) (x : α) : upd f n x n = x := by unfold upd; rw [if_pos rfl]
theorem upd_other {α : Type} (f : Int → α) {n m : Int} (x : α) (h : m ≠ n) : upd f n x m = f m := by unfold upd; rw [if_neg h]
section
variable {P : Program} {k t e : TypeId} {w w' : World} {b m : Nat} {f : Int → Option Value}
theorem exact_ {n : Nat} {l : List (Lit × DataW Value)} (h : w.ownsMap P k hold b n (.map l)) : w.ownsMap P k hold b l.length (.map l) := by
  obtain ⟨es, clock, hb, F, hs, hD⟩ := h
  refine ⟨es, clock, hb, F, ?_, hD⟩
  injection hD with hD
  rw [hD, length_sorted]; simp
theorem MapIs.keep (h : MapIs w P k b f m) (hb : w'.heap[b]? = w.heap[b]?) : MapIs w' P k b f m := by
  obtain ⟨l, ⟨es, clock, hb2, r⟩, h2⟩ := h
  exact ⟨l, ⟨es, clock, hb.trans hb2, r⟩, h2⟩
theorem MapIs.lt (h : MapIs w P k b f m) : b < w.heap.size := by obtain ⟨l, h, _⟩ := h; exact h.lt
theorem MapIs.alloc (h : MapIs w P k b f m) (o : Obj) : MapIs (w.alloc o) P k b f m := h.keep (Below.heap_alloc _ _ _ h.lt)
theorem MapIs.as {g : Int → Option Value} {n : Nat} (h : MapIs w P k b f m) (hf : ∀ i, f i = g i) (hn : m = n) : MapIs w P k b g n := by subst hn; obtain rfl : f = g := funext hf; exact h
theorem map_made (w : World) (P : Program) (k : TypeId) : MapIs (w.alloc (.map #[] 0)) P k w.heap.size (fun _ => none) 0 :=
  ⟨[], World.ownsMap_made _ _ _ _, rfl, fun n v => by simp⟩
/-- where the map lies there is a map -/
theorem MapIs.at_ (h : MapIs w P k b f m) : ∃ es clock, w.heap[b]? = some (.map es clock) := by
  obtain ⟨l, ⟨es, clock, hb2, r⟩, h2⟩ := h
  exact ⟨es, clock, hb2⟩
theorem MapIs.keys (h : MapIs w P k b f m) (hk : P.underlying k = some (.int .i64)) : ∃ l : List (Lit × DataW Value), l.length = m ∧ (∀ n v, f n = some v ↔ (Lit.int .i64 n, DataW.held v) ∈ l) ∧ l.Pairwise (fun p q => p.1 ≠ q.1) ∧ ∀ p ∈ l, ∃ n v, p = (Lit.int .i64 n, DataW.held v) ∧ (Lit.int .i64 n).wf = true := by
  obtain ⟨l, h, hl, hf⟩ := h
  obtain ⟨l', e, hp⟩ := h.tidy (int_keyed hk)
  injection e with e
  subst e
  refine ⟨l, hl, hf, hp, fun p hp => ?_⟩
  obtain ⟨es, clock, hb, F, hs, hD⟩ := h
  injection hD with hD
  rw [hD] at hp
  obtain ⟨x, hx, rfl⟩ := List.mem_map.1 (mem_sorted.1 hp)
  obtain ⟨y, hy⟩ := F.reads x hx
  rw [rg_of hy]
  obtain ⟨n, -, e2, hw⟩ := Maps.keyOf_int_inv hk (rd_key hy)
  obtain ⟨z, hz, e3⟩ := rd_val hy
  unfold hold at hz
  cases hz
  exact ⟨n, x.val, Prod.ext e2 e3, hw⟩
theorem MapIs.wf (h : MapIs w P k b f m) (hk : P.underlying k = some (.int .i64)) {n : Int} {v : Value} (hv : f n = some v) : (Lit.int .i64 n).wf = true := by
  obtain ⟨l, -, hf, -, hw⟩ := h.keys hk
  obtain ⟨n', v', e, hn⟩ := hw _ ((hf n v).1 hv)
  cases e
  exact hn
theorem nodup_sub {α : Type} [DecidableEq α] : ∀ {a b : List α}, a.Nodup → (∀ x ∈ a, x ∈ b) → a.length ≤ b.length
  | [], _, _, _ => Nat.zero_le _
  | x :: r, b, h, hs => by
    rw [List.nodup_cons] at h
    have hx := hs x List.mem_cons_self
    have h1 := nodup_sub (b := b.erase x) h.2 (fun y hy => (List.mem_erase_of_ne (fun e => h.1 (by rw [← e]; exact hy))).2 (hs y (List.mem_cons_of_mem _ hy)))
    rw [List.length_erase_of_mem hx] at h1
    have := List.length_pos_of_mem hx
    rw [List.length_cons]; omega
def numOf : Lit × DataW Value → Int | (.int _ n, _) => n | _ => 0
/-- two maps with one set of keys are of one size -/
theorem MapIs.one_size {w2 : World} {b2 m2 : Nat} {f2 : Int → Option Value} (h : MapIs w P k b f m) (h2 : MapIs w2 P k b2 f2 m2) (hk : P.underlying k = some (.int .i64)) (hs : ∀ n, (f n).isSome = true → (f2 n).isSome = true) : m ≤ m2 := by
  obtain ⟨l, hl, hf, hp, hw⟩ := h.keys hk
  obtain ⟨l2, hl2, hf2, hp2, hw2⟩ := h2.keys hk
  have hn : (l.map numOf).Nodup := by
    rw [List.Nodup, List.pairwise_map]
    refine List.Pairwise.imp_of_mem ?_ hp
    intro x y hx hy hne e
    obtain ⟨n, v, rfl, _⟩ := hw x hx
    obtain ⟨n', v', rfl, _⟩ := hw y hy
    exact hne (by show Lit.int .i64 n = Lit.int .i64 n'; rw [show n = n' from e])
  have := nodup_sub (b := l2.map numOf) hn (fun x hx => by
    obtain ⟨p, hp, rfl⟩ := List.mem_map.1 hx
    obtain ⟨n, v, rfl, _⟩ := hw p hp
    have h1 := hs n (by rw [(hf n v).2 hp]; rfl)
    obtain ⟨v2, hv2⟩ := Option.isSome_iff_exists.1 h1
    exact List.mem_map.2 ⟨_, (hf2 n v2).1 hv2, rfl⟩)
  simp only [List.length_map] at this
  omega

theorem MapIs.has_ {l : List (Lit × DataW Value)} (hown : w.ownsMap P k hold b m (.map l)) (hl : l.length = m) (hf : ∀ n v, f n = some v ↔ (Lit.int .i64 n, DataW.held v) ∈ l) (hk : P.underlying k = some (.int .i64)) (n : Int) : has (.map l) (.int .i64 n) = (f n).isSome := by
  obtain ⟨l2, hl2, hf2, hp2, hw2⟩ := MapIs.keys (f := f) (m := m) ⟨l, hown, hl, hf⟩ hk
  rw [has_eq]
  cases hv : f n with
  | none =>
    rw [List.any_eq_false.2 (fun p hp he => ?_)]; · rfl
    have e1 := WideAt.sameKey_eq he
    obtain ⟨es, clock, hb, F, hs, hD⟩ := hown
    injection hD with hD
    rw [hD] at hp
    obtain ⟨x, hx, rfl⟩ := List.mem_map.1 (mem_sorted.1 hp)
    obtain ⟨y, hy⟩ := F.reads x hx
    obtain ⟨q, hq, e3⟩ := rd_val hy
    unfold hold at hq
    cases hq
    have : f n = some x.val := by
      rw [hf, hD]
      refine mem_sorted.2 (List.mem_map.2 ⟨x, hx, ?_⟩)
      have e4 := rg_of hy
      rw [e4] at e1
      exact e4.trans (Prod.ext e1 e3)
    rw [hv] at this
    cases this
  | some u =>
    show _ = true
    exact List.any_eq_true.2 ⟨_, (hf n u).1 hv, WideAt.sameKey_self (by exact trivial)⟩
/-- 'm[k]' at whatever number -/
theorem MapIs.look (h : MapIs w P k b f m) (hk : P.underlying k = some (.int .i64)) (ht : P.underlying t = some (.map k e)) {z : Value} (hz : (zeroValue e).run P w = .ok z w) (n : Int) :
    (Instr.lookup t (.map (some b)) (.int .i64 n) false).run P w = .ok ((f n).getD z) w := by
  obtain ⟨l, ⟨es, clock, hb, F, hs, hD⟩, hl, hf⟩ := h
  injection hD with hD
  have hmem : ∀ x ∈ es.toList, ∃ j, x.key = .int .i64 j ∧ rg P k hold x = (Lit.int .i64 j, DataW.held x.val) := fun x hx => by
    obtain ⟨y, hy⟩ := F.reads x hx
    obtain ⟨j, e1, e2, hw⟩ := Maps.keyOf_int_inv hk (rd_key hy)
    obtain ⟨q, hq, e3⟩ := rd_val hy
    unfold hold at hq
    cases hq
    exact ⟨j, e1, (rg_of hy).trans (Prod.ext e2 e3)⟩
  have hc := run_checkKey (P := P) (w := w) (k := .int .i64 n) hk rfl
  rcases findNow_spec (d := .int .i64) (k := .int .i64 n) rfl es.toList 0 (fun x hx => by obtain ⟨j, e1, -⟩ := hmem x hx; rw [e1]; rfl) with ⟨h1, h2⟩ | ⟨j, e0, h1, h2, h3⟩
  · have h0 : f n = none := by
      cases hv : f n with
      | none => rfl
      | some v =>
        have := (hf n v).1 hv
        rw [hD] at this
        obtain ⟨x, hx, e⟩ := List.mem_map.1 (mem_sorted.1 this)
        obtain ⟨j, e1, e2⟩ := hmem x hx
        rw [e2] at e
        cases e
        exact absurd e1 (h2 x hx)
    rw [h0]
    simp [Instr.lookup, run_underlying ht, MapKept.run_getObj_map hb, hc, run_findKey hk h1, hz, Result.andThen]
  · have hm0 : e0 ∈ es.toList := List.mem_of_getElem? h2
    have h0 : f n = some e0.val := by
      obtain ⟨j', e1, e2⟩ := hmem e0 hm0
      rw [h3] at e1
      cases e1
      rw [hf, hD]
      exact mem_sorted.2 (List.mem_map.2 ⟨e0, hm0, e2⟩)
    rw [h0]
    simp [Instr.lookup, run_underlying ht, MapKept.run_getObj_map hb, hc, run_findKey hk h1, Result.andThen]
/-- 'm[k]' of a map that is nil is not asked for here. 'm[k] = v' -/
theorem MapIs.store (h : MapIs w P k b f m) (hk : P.underlying k = some (.int .i64)) (ht : P.underlying t = some (.map k e)) (hm : m < maxLen) {n : Int} (hn : (Lit.int .i64 n).wf = true) (v : Value) :
    ∃ w', (Instr.mapUpdate t (.map (some b)) (.int .i64 n) v).run P w = .ok () w' ∧ MapIs w' P k b (upd f n (some v)) (if (f n).isSome = true then m else m + 1) ∧ w.mapTurned w' b := by
  obtain ⟨l, hown, hl, hf⟩ := h
  have K := int_keyed hk
  have htd := hown.tidy K
  obtain ⟨w', hrun, hown', hturn⟩ := hown.store K ht hm (keyOf_int_mk hk hn) (d := .held v) (ps := []) rfl
  refine ⟨w', hrun, ?_, hturn⟩
  have hsz := size_put (k := Lit.int .i64 n) htd (DataW.held v)
  obtain ⟨l', hl'⟩ : ∃ l', (DataW.map l).put (.int .i64 n) (.held v) = .map l' := hown'.isMap
  have hl'' : l' = DataW.insert (Lit.int .i64 n, DataW.held v) (l.filter fun p => !p.1.sameKey (.int .i64 n)) := by
    have : (DataW.map l).put (.int .i64 n) (.held v) = .map (DataW.insert (Lit.int .i64 n, DataW.held v) (l.filter fun p => !p.1.sameKey (.int .i64 n))) := rfl
    rw [hl'] at this
    injection this
  rw [hl'] at hown' hsz
  have hhas := MapIs.has_ hown hl hf hk n
  rw [hhas] at hsz
  have hsz : l'.length = if (f n).isSome = true then m else m + 1 := by rw [← hl]; exact hsz
  refine ⟨l', by have := exact_ hown'; rw [hsz] at this; exact this, hsz, fun j u => ?_⟩
  rw [hl'', mem_insert_iff]
  unfold upd
  by_cases e1 : j = n
  · subst e1
    rw [if_pos rfl]
    constructor
    · intro e2; cases e2; exact Or.inl rfl
    · rintro (e2 | e2)
      · cases e2; rfl
      · have := (List.mem_filter.1 e2).2
        rw [WideAt.sameKey_self (by exact trivial)] at this
        cases this
  · rw [if_neg e1, hf]
    constructor
    · intro e2
      exact Or.inr (List.mem_filter.2 ⟨e2, by rw [sameKey_ne (by intro e3; cases e3; exact e1 rfl)]; rfl⟩)
    · rintro (e2 | e2)
      · cases e2; exact absurd rfl e1
      · exact (List.mem_filter.1 e2).1
/-- 'delete(m, k)' -/
theorem MapIs.drop (h : MapIs w P k b f m) (hk : P.underlying k = some (.int .i64)) (ht : P.underlying t = some (.map k e)) {n : Int} (hn : (Lit.int .i64 n).wf = true) (ty : TypeId) :
    ∃ w', (Builtin.delete_ #[t, k] ty #[.map (some b), .int .i64 n]).run P w = .ok (.tuple #[]) w' ∧ MapIs w' P k b (upd f n none) (if (f n).isSome = true then m - 1 else m) ∧ w.mapTurned w' b := by
  obtain ⟨l, hown, hl, hf⟩ := h
  have K := int_keyed hk
  have htd := hown.tidy K
  obtain ⟨w', hrun, hown', hturn⟩ := hown.drop K ht (keyOf_int_mk hk hn) ty
  refine ⟨w', hrun, ?_, hturn⟩
  have hsz := size_del (k := Lit.int .i64 n) htd
  rw [MapIs.has_ hown hl hf hk n] at hsz
  have hsz : (l.filter fun p => !p.1.sameKey (.int .i64 n)).length = if (f n).isSome = true then m - 1 else m := by
    have h1 : (l.filter fun p => !p.1.sameKey (.int .i64 n)).length + (if (f n).isSome = true then 1 else 0) = l.length := hsz
    split at h1 <;> rename_i h2 <;> simp only [h2, if_true, if_false, Bool.false_eq_true] <;> omega
  refine ⟨_, by have := exact_ (l := l.filter fun p => !p.1.sameKey (.int .i64 n)) hown'; rw [hsz] at this; exact this, hsz, fun j u => ?_⟩
  unfold upd
  by_cases e1 : j = n
  · subst e1
    rw [if_pos rfl]
    constructor
    · intro e2; cases e2
    · intro e2
      have := (List.mem_filter.1 e2).2
      rw [WideAt.sameKey_self (by exact trivial)] at this
      cases this
  · rw [if_neg e1, hf]
    constructor
    · intro e2
      exact List.mem_filter.2 ⟨e2, by rw [sameKey_ne (by intro e3; cases e3; exact e1 rfl)]; rfl⟩
    · intro e2; exact (List.mem_filter.1 e2).1
/-- 'len(m)' -/
theorem MapIs.len (h : MapIs w P k b f m) (ht : P.underlying t = some (.map k e)) (ty : TypeId) : (Builtin.len_ #[t] ty #[.map (some b)]).run P w = .ok (.int .i64 m) w := by
  obtain ⟨l, hown, hl, -⟩ := h
  have := hown.len ht ty
  rw [show Maps.size (.map l) = l.length from rfl, hl] at this
  exact this
theorem pair_ne {α β : Type} : ∀ {l : List (α × β)} {p q : α × β}, l.Pairwise (fun p q => p.1 ≠ q.1) → p ∈ l → q ∈ l → p ≠ q → p.1 ≠ q.1
  | [], _, _, _, h, _, _ => absurd h (by simp)
  | x :: r, p, q, h, hp, hq, hne => by
    rw [List.pairwise_cons] at h
    rcases List.mem_cons.1 hp with e1 | hp1
    · rcases List.mem_cons.1 hq with e2 | hq1
      · exact absurd (e1.trans e2.symm) hne
      · rw [e1]; exact h.1 q hq1
    · rcases List.mem_cons.1 hq with e2 | hq1
      · rw [e2]; exact fun e => h.1 p hp1 e.symm
      · exact pair_ne h.2 hp1 hq1 hne
/-- 'for k, v := range m' under way: left tells which numbers are still to come -/
def Going (w : World) (P : Program) (k : TypeId) (b r : Nat) (f : Int → Option Value) (m : Nat) (left : Int → Bool) (cnt : Nat) : Prop :=
  ∃ l lf, w.ranges P k hold b r m (.map l) lf cnt ∧ l.length = m ∧ (∀ n v, f n = some v ↔ (Lit.int .i64 n, DataW.held v) ∈ l) ∧ ∀ n, lf (.int .i64 n) = left n
theorem Going.is {r cnt : Nat} {left : Int → Bool} (h : Going w P k b r f m left cnt) : MapIs w P k b f m := by
  obtain ⟨l, lf, h1, h2, h3, h4⟩ := h
  exact ⟨l, h1.owns, h2, h3⟩
theorem Going.lt {r cnt : Nat} {left : Int → Bool} (h : Going w P k b r f m left cnt) : r < w.heap.size := by
  obtain ⟨l, lf, h1, h2, h3, h4⟩ := h
  exact h1.lt
theorem Going.left_eq {r cnt : Nat} {left : Int → Bool} (h : Going w P k b r f m left cnt) : w.rangeLeft b r = cnt := by
  obtain ⟨l, lf, h1, h2, h3, h4⟩ := h
  exact h1.left_eq
theorem Going.keep {r cnt : Nat} {left : Int → Bool} (h : Going w P k b r f m left cnt) (hb : w'.heap[b]? = w.heap[b]?) (hr : w'.heap[r]? = w.heap[r]?) : Going w' P k b r f m left cnt := by
  obtain ⟨l, lf, ⟨es, clock, since, seen, c0, h1, F, hs, hD, h5, rest⟩, h2⟩ := h
  exact ⟨l, lf, ⟨es, clock, since, seen, c0, hb.trans h1, F, hs, hD, hr.trans h5, rest⟩, h2⟩
end
section
variable {P : Program} (w : World) {ops : Array Oper} {rest : List Oper} {o : Oper} {a : Act} {Q : Exit → Act → World → Prop}
theorem wpList_look (hg : o.guard = none) (m x : Operand) (t : TypeId) (hop : o.op = Op.lookup t m x false) (k e : TypeId) (hk : P.underlying k = some (.int .i64)) (ht : P.underlying t = some (.map k e))
    {z : Value} (hz : (zeroValue e).run P w = .ok z w) (b s : Nat) (f : Int → Option Value) (hm : a.eval m = .map (some b)) (h : MapIs w P k b f s) (n : Int) (hx : a.eval x = .int .i64 n) (v : Value) (hv : (f n).getD z = v)
    (hK : wpList P ops Q rest (a.put o.dst v) w) : wpList P ops Q (o :: rest) a w := by
  refine wpList_plain hg fun K' hK' => ?_
  have hrun := h.look hk ht hz n
  rw [hv] at hrun
  unfold Oper.wp
  simp [execOp, hop, hm, hx, hrun, Result.andThen]
  exact hK' _ _ hK
theorem wpList_store (hg : o.guard = none) (m x v : Operand) (t : TypeId) (hop : o.op = Op.mapUpdate t m x v) (k e : TypeId) (hk : P.underlying k = some (.int .i64)) (ht : P.underlying t = some (.map k e))
    (b s : Nat) (f : Int → Option Value) (hm : a.eval m = .map (some b)) (h : MapIs w P k b f s) (hs : s < maxLen) (n : Int) (hx : a.eval x = .int .i64 n) (hn : (Lit.int .i64 n).wf = true) (u : Value) (hv : a.eval v = u)
    (hK : ∀ w', MapIs w' P k b (upd f n (some u)) (if (f n).isSome = true then s else s + 1) → w.mapTurned w' b → wpList P ops Q rest (a.put o.dst undef) w') : wpList P ops Q (o :: rest) a w := by
  refine wpList_plain hg fun K' hK' => ?_
  obtain ⟨w', hrun, r1, r2⟩ := h.store hk ht hs hn u
  unfold Oper.wp
  simp [execOp, hop, hm, hx, hv, hrun, Result.andThen]
  exact hK' _ _ (hK w' r1 r2)
theorem wpList_drop (hg : o.guard = none) (m x : Operand) (t k : TypeId) (hop : o.op = Op.call { callee := Callee.builtin Builtin.delete, args := #[m, x], argTypes := #[t, k] }) (e : TypeId) (hk : P.underlying k = some (.int .i64)) (ht : P.underlying t = some (.map k e))
    (b s : Nat) (f : Int → Option Value) (hm : a.eval m = .map (some b)) (h : MapIs w P k b f s) (n : Int) (hx : a.eval x = .int .i64 n) (hn : (Lit.int .i64 n).wf = true)
    (hK : ∀ w', MapIs w' P k b (upd f n none) (if (f n).isSome = true then s - 1 else s) → w.mapTurned w' b → wpList P ops Q rest (a.put o.dst (.tuple #[])) w') : wpList P ops Q (o :: rest) a w := by
  refine wpList_plain hg fun K' hK' => ?_
  obtain ⟨w', hrun, r1, r2⟩ := h.drop hk ht hn o.type
  unfold Oper.wp
  simp [execOp, hop, resolve, invoke, builtin, hm, hx, hrun, Result.andThen]
  exact hK' _ _ (hK w' r1 r2)
theorem wpList_range (hg : o.guard = none) (m : Operand) (t : TypeId) (hop : o.op = Op.range t m) (k e : TypeId) (hk : P.underlying k = some (.int .i64)) (ht : P.underlying t = some (.map k e)) (b s : Nat) (f : Int → Option Value)
    (hm : a.eval m = .map (some b)) (h : MapIs w P k b f s)
    (hK : ∀ w', Going w' P k b w.heap.size f s (fun n => (f n).isSome) s → w.grownBy w' none → w'.heap.size = w.heap.size + 1 → wpList P ops Q rest (a.put o.dst (.pointer (some ⟨w.heap.size, 0, none⟩))) w') :
    wpList P ops Q (o :: rest) a w := by
  obtain ⟨l, hown, hl, hf⟩ := h
  refine wpList_range_own w hg m t hop k e (int_keyed hk) ht hold b s (.map l) hm hown fun w' h1 h2 h3 => hK w' ⟨l, _, ?_, hl, hf, fun n => MapIs.has_ hown hl hf hk n⟩ h2 h3
  rw [← hl]
  rw [← hl] at h1
  exact h1
/-- the step: nothing is left; or some number has come, with what f tells of it -/
theorem wpList_turn (hg : o.guard = none) (it : Operand) (hop : o.op = Op.next it false) (k : TypeId) (hk : P.underlying k = some (.int .i64)) (b r s : Nat) (f : Int → Option Value) (V : Int → Value) (hV : ∀ n v, f n = some v → v = V n) (left : Int → Bool) (cnt : Nat)
    (hit : a.eval it = .pointer (some ⟨r, 0, none⟩)) (h : Going w P k b r f s left cnt)
    (hDone : cnt = 0 → (∀ n, left n = false) → wpList P ops Q rest (a.put o.dst (.tuple #[.bool false])) w)
    (hMore : ∀ (n : Int) (w' : World) (cnt' : Nat), f n = some (V n) → left n = true → Going w' P k b r f s (upd left n false) cnt' → cnt' < cnt → w.grownBy w' (some r) → w'.heap.size = w.heap.size →
      (Instr.entry (.pointer (some ⟨r, 0, none⟩))).run P w' = .ok (.tuple #[.int .i64 n, V n]) w' → wpList P ops Q rest (a.put o.dst (.tuple #[.bool true, .int .i64 n, V n])) w') :
    wpList P ops Q (o :: rest) a w := by
  obtain ⟨l, lf, hr, hl, hf, hlf⟩ := h
  refine wpList_plain hg fun K' hK' => ?_
  unfold Oper.wp
  rcases hr.next (int_keyed hk) o.type with ⟨h0, hl0, hrun⟩ | ⟨key, v, kl, y, w', cnt', hkey, hlk, hv, hat, hrun, hrg, hlt, hgr, hsz, hen⟩
  · simp [execOp, hop, hit, hrun, Result.andThen]
    exact hK' _ _ (hDone h0 (fun n => (hlf n).symm.trans (hl0 _)))
  · obtain ⟨n, rfl, rfl, hw⟩ := Maps.keyOf_int_inv hk hkey
    unfold hold at hv
    cases hv
    have hfn : f n = some v := by
      cases hv : f n with
      | none =>
        have h1 := MapIs.has_ hr.owns hl hf hk n
        rw [hv] at h1
        have h2 := atKey_of_not_has (D := .map l) (k := .int .i64 n) h1 .nil
        rw [hat .nil] at h2
        cases h2
      | some u =>
        have h1 := (hf n u).1 hv
        obtain ⟨l', e, hp⟩ := hr.owns.tidy (int_keyed hk)
        injection e with e
        subst e
        have h2 : (DataW.map l).atKey (.int .i64 n) .nil = .held u := by
          unfold DataW.atKey
          simp only []
          cases hq : l.find? (fun p => p.1.sameKey (.int .i64 n)) with
          | none =>
            have := (List.find?_eq_none.1 hq) _ h1
            rw [WideAt.sameKey_self (by exact trivial)] at this
            exact absurd rfl this
          | some p =>
            have hp1 := List.mem_of_find?_eq_some hq
            have hp2 := List.find?_some hq
            have e1 := WideAt.sameKey_eq hp2
            by_cases e2 : p = (.int .i64 n, .held u)
            · simp only [e2]
            · exact absurd e1 (pair_ne hp hp1 h1 e2)
        rw [hat .nil] at h2
        injection h2 with h2
        rw [h2]
    have hVn := hV n v hfn
    subst hVn
    simp [execOp, hop, hit, hrun, Result.andThen]
    refine hK' _ _ (hMore n w' cnt' hfn ((hlf n).symm.trans hlk) ⟨l, _, hrg, hl, hf, fun j => ?_⟩ hlt hgr hsz hen)
    show (lf (.int .i64 j) && !(Lit.int .i64 j).sameKey (.int .i64 n)) = upd left n false j
    rw [hlf]
    unfold upd
    by_cases e1 : j = n
    · subst e1
      rw [if_pos rfl, WideAt.sameKey_self (by exact trivial)]; simp
    · rw [if_neg e1, sameKey_ne (by intro e3; cases e3; exact e1 rfl)]; simp
end
end Go.Proofs.YtolhniepejhmfaaGreatDoor.Maps
/-
  Layer 7 (tree): plain mathematics of the landed code: what is kept of each node by its number; what storing nodes, hanging them up and taking them off come to, for Put, Set, Cut and Move. Lists alone. No condition but those that each theorem bears.
-/
namespace Go.Proofs.YtolhniepejhmfaaGreatDoor.W07
open Go Go.Proofs.YtolhniepejhmfaaGreatDoor.M07 Go.Proofs.YtolhniepejhmfaaGreatDoor.Maps
open Go.Proofs.YtolhniepejhmfaaGreatDoor.M06 (Ent)
open Go.Proofs.YtolhniepejhmfaaGreatDoor.M03 (check lt)

/-- what the program keeps of a node -/
structure Nod where
  kind : Int
  up : Int
  data : Bytes
  list : List Ent
def nod0 : Nod := ⟨0, 0, [], []⟩
def plainN (t : Tr) (n : Int) : Nod := ⟨(nodeAt t.L n).kind, (nodeAt t.L n).up, (nodeAt t.L n).data, listed t n⟩
def hangN (g : Int → Nod) (d : Int) (s : Bytes) (n : Int) : Int → Nod :=
  let g1 := upd g d { g d with list := M06.put (g d).list (s, n) }
  upd g1 n { g1 n with up := d }
def unhangN (g : Int → Nod) (d : Int) (s : Bytes) : Int → Nod := upd g d { g d with list := M06.cut (g d).list s }

theorem pair_ext {α : Type} {r : α → α → Prop} (irr : ∀ a, ¬ r a a) (asy : ∀ a b, r a b → ¬ r b a) : ∀ {a b : List α}, a.Pairwise r → b.Pairwise r → (∀ e, e ∈ a ↔ e ∈ b) → a = b
  | [], [], _, _, _ => rfl
  | [], y :: b, _, _, h => absurd ((h y).2 List.mem_cons_self) (by simp)
  | x :: a, [], _, _, h => absurd ((h x).1 List.mem_cons_self) (by simp)
  | x :: a, y :: b, ha, hb, h => by
    rw [List.pairwise_cons] at ha hb
    have e : x = y := by
      rcases List.mem_cons.1 ((h x).1 List.mem_cons_self) with e | h1
      · exact e
      · rcases List.mem_cons.1 ((h y).2 List.mem_cons_self) with e | h2
        · exact e.symm
        · exact absurd (ha.1 y h2) (asy _ _ (hb.1 x h1))
    subst e
    rw [pair_ext irr asy ha.2 hb.2 fun e => ?_]
    constructor
    · intro he
      rcases List.mem_cons.1 ((h e).1 (List.mem_cons_of_mem _ he)) with e2 | h2
      · rw [e2] at he; exact absurd (ha.1 x he) (irr x)
      · exact h2
    · intro he
      rcases List.mem_cons.1 ((h e).2 (List.mem_cons_of_mem _ he)) with e2 | h2
      · rw [e2] at he; exact absurd (hb.1 x he) (irr x)
      · exact h2
theorem right_ext {a b : List Ent} (ha : M06.right a = true) (hb : M06.right b = true) (h : ∀ e, e ∈ a ↔ e ∈ b) : a = b :=
  pair_ext (r := fun a b : Ent => lt a.1 b.1) (fun _ => M03.lt_irrefl _) (fun _ _ => M03.lt_asymm) ((M06.right_iff _).1 ha) ((M06.right_iff _).1 hb) h
theorem mem_cut_iff {L : List Ent} {s : Bytes} {x : Ent} (h : M06.right L = true) : x ∈ M06.cut L s ↔ x ∈ L ∧ x.1 ≠ s := by
  unfold M06.cut M06.cutL
  rw [M06.all_right h, List.mem_filter]
  simp

section
variable {t : Tr}
/-- whether a node stands in a directory by a name -/
def Stands (t : Tr) (d : Int) (s : Bytes) (m : Int) : Prop := (nodeAt t.L d).kind = 1 ∧ m ≠ 1 ∧ (nodeAt t.L m).kind ≠ 0 ∧ (nodeAt t.L m).up = d ∧ (nodeAt t.L m).name = s
theorem listed_right (t : Tr) (d : Int) : M06.right (listed t d) = true := by
  unfold listed
  split
  · exact (M06.right_iff _).2 (list_rises _ _)
  · rfl
theorem mem_listed (h : Right t) {d m : Int} {s : Bytes} : (s, m) ∈ listed t d ↔ Stands t d s m := by
  unfold listed Stands
  by_cases hk : (nodeAt t.L d).kind = 1
  · rw [if_pos hk, mem_list h]
    constructor
    · rintro ⟨a, ha, h1, h2, h3⟩
      have e1 : a.name = s := congrArg Prod.fst h3
      have e2 : a.num = m := congrArg Prod.snd h3
      have e3 := h.at_ ha
      rw [e2] at e3
      rw [e3]
      exact ⟨hk, by rw [← e2]; exact h2, h.kind a ha, h1, e1⟩
    · rintro ⟨-, h1, h2, h3, h4⟩
      have := at_some h2
      exact ⟨_, this.1, h3, by rw [this.2]; exact h1, Prod.ext h4 this.2⟩
  · rw [if_neg hk]
    constructor
    · intro e; cases e
    · rintro ⟨e, -⟩; exact absurd e hk
theorem zero_of {L : List Nd} {n : Int} (hk : ∀ a ∈ L, a.kind ≠ 0) (h : (nodeAt L n).kind = 0) : nodeAt L n = zero := by
  induction L with
  | nil => rfl
  | cons a r ih =>
    unfold nodeAt at h ⊢
    split at h <;> rename_i h1
    · exact absurd h (hk a List.mem_cons_self)
    · rw [if_neg h1]
      exact ih (fun b hb => hk b (List.mem_cons_of_mem _ hb)) h
/-- two right trees' worth: a table with the nodes' cells, and lists that hold what stands there, is the tree's -/
theorem plain_of (h : Right t) {g : Int → Nod} (hg : ∀ n, (g n).kind = (nodeAt t.L n).kind ∧ (g n).up = (nodeAt t.L n).up ∧ (g n).data = (nodeAt t.L n).data ∧ M06.right (g n).list = true ∧ ∀ s m, (s, m) ∈ (g n).list ↔ Stands t n s m) : plainN t = g := by
  funext n
  obtain ⟨h1, h2, h3, h4, h5⟩ := hg n
  have e : listed t n = (g n).list := right_ext (listed_right t n) h4 fun ⟨s, m⟩ => by rw [mem_listed h, h5]
  unfold plainN
  rw [e, ← h1, ← h2, ← h3]
theorem plain_right (t : Tr) (n : Int) : M06.right (plainN t n).list = true := listed_right t n
theorem mem_plain (h : Right t) {d m : Int} {s : Bytes} : (s, m) ∈ (plainN t d).list ↔ Stands t d s m := mem_listed h
theorem stands_once (h : Right t) {d a b : Int} {s : Bytes} (ha : Stands t d s a) (hb : Stands t d s b) : a = b := by
  obtain ⟨-, a1, a2, a3, a4⟩ := ha
  obtain ⟨-, b1, b2, b3, b4⟩ := hb
  have ea := at_some a2
  have eb := at_some b2
  have := h.once _ ea.1 _ eb.1 (by rw [ea.2]; exact a1) (by rw [eb.2]; exact b1) (by rw [a3, b3]) (by rw [a4, b4])
  rw [← ea.2, this, eb.2]
theorem up_is_dir (h : Right t) {m : Int} (hm : (nodeAt t.L m).kind ≠ 0) : (nodeAt t.L (nodeAt t.L m).up).kind = 1 := h.up _ (at_some hm).1
theorem find_first {L : List Ent} (h : M06.right L = true) {s : Bytes} {m : Int} (hm : (s, m) ∈ L) : M06.find L s = (m, true) := by
  have hp := (M06.right_iff _).1 h
  clear h
  induction L with
  | nil => cases hm
  | cons a r ih =>
    rw [List.pairwise_cons] at hp
    unfold M06.find
    by_cases e : a.1 = s
    · rw [if_pos e]
      rcases List.mem_cons.1 hm with e2 | h2
      · rw [← e2]
      · have := hp.1 _ h2
        rw [e] at this
        exact absurd this (M03.lt_irrefl _)
    · rw [if_neg e]
      rcases List.mem_cons.1 hm with e2 | h2
      · rw [← e2] at e; exact absurd rfl e
      · exact ih h2 hp.2
/-- the node of a name in a directory, as Find tells -/
theorem find_in (h : Right t) {d : Int} (s : Bytes) (hd : (nodeAt t.L d).kind = 1) : M06.find (M06.all (plainN t d).list) s = (inDir t.L d s, decide (inDir t.L d s ≠ 0)) := by
  rw [M06.all_right (plain_right t d)]
  by_cases h0 : inDir t.L d s = 0
  · have hno := in_not (fun a ha => (h.ends a ha).1) h0
    rw [M06.find_not fun x hx e => ?_, h0]; · rfl
    obtain ⟨x1, x2⟩ := x
    obtain ⟨-, h1, h2, h3, h4⟩ := (mem_plain h).1 hx
    have := at_some h2
    exact hno _ this.1 (by rw [this.2]; exact h1) ⟨h3, h4.trans e⟩
  · obtain ⟨a, ha, e1, e2, e3, e4⟩ := in_found h0
    rw [decide_eq_true h0]
    refine find_first (plain_right t d) ((mem_plain h).2 ⟨hd, by rw [← e1]; exact e4, ?_⟩)
    rw [← e1, h.at_ ha]
    exact ⟨h.kind a ha, e2, e3⟩
theorem in_stands (h : Right t) {d : Int} {s : Bytes} (hd : (nodeAt t.L d).kind = 1) (h0 : inDir t.L d s ≠ 0) : Stands t d s (inDir t.L d s) := by
  obtain ⟨a, ha, e1, e2, e3, e4⟩ := in_found h0
  refine ⟨hd, by rw [← e1]; exact e4, ?_⟩
  rw [← e1, h.at_ ha]
  exact ⟨h.kind a ha, e2, e3⟩
theorem in_none (h : Right t) {d m : Int} {s : Bytes} (h0 : inDir t.L d s = 0) : ¬ Stands t d s m := by
  rintro ⟨-, h1, h2, h3, h4⟩
  have := at_some h2
  exact in_not (fun a ha => (h.ends a ha).1) h0 _ this.1 (by rw [this.2]; exact h1) ⟨h3, h4⟩

/-! Put -/
theorem put_plain (h : Right t) {d kind : Int} {s x : Bytes} (he : putErr t d s kind x = 0) : plainN ⟨t.L ++ [⟨t.last + 1, d, s, kind, x⟩], t.last + 1⟩ = hangN (upd (plainN t) (t.last + 1) ⟨kind, 0, x, []⟩) d s (t.last + 1) := by
  have hR := put_right h (d := d) (kind := kind) (name := s) (data := x)
  rw [put_works he] at hR
  have hd : (nodeAt t.L d).kind = 1 := dir_zero (by unfold putErr at he; split at he; · rename_i h1; exact absurd he h1
                                                    · rename_i h1; simpa using h1)
  have hin : inDir t.L d s = 0 := by
    have := in_pos (L := t.L) (d := d) (s := s) (fun a ha => (h.ends a ha).1)
    unfold putErr at he
    split at he
    · omega
    · split at he
      · omega
      · split at he <;> omega
  have hnum : ∀ a ∈ t.L, a.num ≠ t.last + 1 := fun a ha => by have := (h.ends a ha).2; omega
  have hdk : d ≠ t.last + 1 := by
    have := at_some (L := t.L) (n := d) (by rw [hd]; decide)
    rw [← this.2]; exact hnum _ this.1
  have hl1 : 1 ≤ t.last := by
    obtain ⟨r, hr⟩ := h.root
    have := h.ends ⟨1, 1, [], 1, []⟩ (by rw [hr]; exact List.mem_cons_self)
    exact this.2
  have hz : nodeAt t.L (t.last + 1) = zero := at_none hnum
  have hat : ∀ n, n ≠ t.last + 1 → nodeAt (t.L ++ [⟨t.last + 1, d, s, kind, x⟩]) n = nodeAt t.L n := fun n hn => at_append hn
  have hlast : nodeAt (t.L ++ [⟨t.last + 1, d, s, kind, x⟩]) (t.last + 1) = ⟨t.last + 1, d, s, kind, x⟩ := at_last (x := ⟨t.last + 1, d, s, kind, x⟩) hnum
  generalize t.last + 1 = k at *
  have hkk : kind ≠ 0 := by
    have := hR.kind ⟨k, d, s, kind, x⟩ (by simp)
    exact this
  have hk1 : k ≠ 1 := by
    intro e
    obtain ⟨r, hr⟩ := h.root
    exact hnum ⟨1, 1, [], 1, []⟩ (by rw [hr]; exact List.mem_cons_self) e.symm
  have hns : ∀ n q m, Stands ⟨t.L ++ [⟨k, d, s, kind, x⟩], k⟩ n q m ↔ (m = k ∧ n = d ∧ q = s) ∨ Stands t n q m := by
    intro n q m
    unfold Stands
    show ((nodeAt (t.L ++ [⟨k, d, s, kind, x⟩]) n).kind = 1 ∧ m ≠ 1 ∧ (nodeAt (t.L ++ [⟨k, d, s, kind, x⟩]) m).kind ≠ 0 ∧ (nodeAt (t.L ++ [⟨k, d, s, kind, x⟩]) m).up = n ∧ (nodeAt (t.L ++ [⟨k, d, s, kind, x⟩]) m).name = q) ↔ _
    by_cases em : m = k
    · subst em
      rw [hlast, hz]
      constructor
      · rintro ⟨-, -, -, h4, h5⟩; exact Or.inl ⟨rfl, h4.symm, h5.symm⟩
      · rintro (⟨-, rfl, rfl⟩ | ⟨-, -, h3, -⟩)
        · exact ⟨by rw [hat _ hdk]; exact hd, hk1, hkk, rfl, rfl⟩
        · exact absurd rfl h3
    · rw [hat m em]
      by_cases en : n = k
      · subst en
        rw [hlast, hz]
        constructor
        · rintro ⟨-, h2, h3, h4, h5⟩
          obtain ⟨b, hb, e, -⟩ := h.up_mem (at_some h3).1
          exact absurd (e.trans h4) (hnum b hb)
        · rintro (⟨h1, -⟩ | ⟨h1, -⟩)
          · exact absurd h1 em
          · exact absurd h1 (by decide)
      · rw [hat n en]
        constructor
        · intro h1; exact Or.inr h1
        · rintro (⟨h1, -⟩ | h1)
          · exact absurd h1 em
          · exact h1
  refine plain_of hR fun n => ?_
  unfold hangN
  simp only []
  by_cases e1 : n = k
  · subst e1
    rw [upd_here, upd_other _ _ (Ne.symm hdk), upd_here]
    show kind = (nodeAt (t.L ++ _) n).kind ∧ d = (nodeAt (t.L ++ _) n).up ∧ x = (nodeAt (t.L ++ _) n).data ∧ _
    rw [hlast]
    refine ⟨rfl, rfl, rfl, rfl, fun q m => ?_⟩
    rw [hns]
    constructor
    · intro e; cases e
    · rintro (⟨-, e, -⟩ | ⟨e, -⟩)
      · exact absurd e.symm hdk
      · rw [hz] at e; exact absurd e (by decide)
  · rw [upd_other _ _ e1]
    by_cases e2 : n = d
    · subst e2
      rw [upd_here, upd_other _ _ hdk]
      show (nodeAt t.L n).kind = (nodeAt (t.L ++ _) n).kind ∧ (nodeAt t.L n).up = (nodeAt (t.L ++ _) n).up ∧ (nodeAt t.L n).data = (nodeAt (t.L ++ _) n).data ∧ M06.right (M06.put (plainN t n).list (s, k)) = true ∧ ∀ q m, (q, m) ∈ M06.put (plainN t n).list (s, k) ↔ _
      rw [hat n e1]
      refine ⟨rfl, rfl, rfl, M06.right_put _ _, fun q m => ?_⟩
      rw [mem_put_iff (plain_right t n), mem_plain h, hns]
      constructor
      · rintro (e | ⟨h1, -⟩)
        · cases e; exact Or.inl ⟨rfl, rfl, rfl⟩
        · exact Or.inr h1
      · rintro (⟨rfl, -, rfl⟩ | h1)
        · exact Or.inl rfl
        · exact Or.inr ⟨h1, fun e => in_none h hin (show Stands t n s m by rw [← show q = s from e]; exact h1)⟩
    · rw [upd_other _ _ e2, upd_other _ _ e1]
      show (nodeAt t.L n).kind = (nodeAt (t.L ++ _) n).kind ∧ (nodeAt t.L n).up = (nodeAt (t.L ++ _) n).up ∧ (nodeAt t.L n).data = (nodeAt (t.L ++ _) n).data ∧ _
      rw [hat n e1]
      refine ⟨rfl, rfl, rfl, plain_right t n, fun q m => ?_⟩
      rw [mem_plain h, hns]
      constructor
      · exact Or.inr
      · rintro (⟨-, e, -⟩ | h1)
        · exact absurd e e2
        · exact h1
/-! Set -/
theorem at_with {L : List Nd} {x : Nd} (hk : ∀ a ∈ L, a.kind ≠ 0) (n : Int) : nodeAt (L.map (fun a => if a.num = x.num then x else a)) n = if n = x.num ∧ (nodeAt L n).kind ≠ 0 then x else nodeAt L n := by
  have hn : ∀ a : Nd, (if a.num = x.num then x else a).num = a.num := by
    intro a
    by_cases e : a.num = x.num
    · rw [if_pos e]; exact e.symm
    · rw [if_neg e]
  induction L with
  | nil => rw [if_neg (by rintro ⟨-, e⟩; exact e rfl)]; rfl
  | cons a r ih =>
    rw [List.map_cons]
    unfold nodeAt
    rw [hn]
    by_cases e : a.num = n
    · rw [if_pos e, if_pos e]
      by_cases e2 : n = x.num
      · rw [if_pos (by rw [e]; exact e2), if_pos ⟨e2, hk a List.mem_cons_self⟩]
      · rw [if_neg (by rw [e]; exact e2), if_neg (by rintro ⟨e3, -⟩; exact e2 e3)]
    · rw [if_neg e, if_neg e]
      exact ih fun b hb => hk b (List.mem_cons_of_mem _ hb)
theorem set_plain (h : Right t) {n : Int} {x : Bytes} (hk : (nodeAt t.L n).kind ≠ 0) (hk1 : (nodeAt t.L n).kind ≠ 1) (hm : mayErr (nodeAt t.L n).kind x = 0) : plainN (withNode t { nodeAt t.L n with data := x }) = upd (plainN t) n { plainN t n with data := x } := by
  have hR := set_right h (n := n) (data := x)
  unfold M07.set at hR
  rw [if_neg hk, if_neg hk1, if_neg (by rw [hm]; decide)] at hR
  have hnum := (at_some hk).2
  have hat : ∀ m, nodeAt (withNode t { nodeAt t.L n with data := x }).L m = if m = n then { nodeAt t.L n with data := x } else nodeAt t.L m := by
    intro m
    show nodeAt (t.L.map _) m = _
    rw [at_with h.kind]
    show (if m = (nodeAt t.L n).num ∧ _ then _ else _) = _
    rw [hnum]
    by_cases e : m = n
    · subst e; rw [if_pos ⟨rfl, hk⟩, if_pos rfl]
    · rw [if_neg (fun e2 => e e2.1), if_neg e]
  have hns : ∀ d q m, Stands (withNode t { nodeAt t.L n with data := x }) d q m ↔ Stands t d q m := by
    intro d q m
    unfold Stands
    rw [hat m, hat d]
    by_cases e1 : m = n <;> by_cases e2 : d = n <;> simp [e1, e2]
  refine plain_of hR fun m => ?_
  rw [hat m]
  by_cases e : m = n
  · subst e
    rw [upd_here, if_pos rfl]
    exact ⟨rfl, rfl, rfl, plain_right t m, fun q i => by rw [hns]; exact mem_plain h⟩
  · rw [upd_other _ _ e, if_neg e]
    exact ⟨rfl, rfl, rfl, plain_right t m, fun q i => by rw [hns]; exact mem_plain h⟩
/-! Cut -/
theorem cut_plain (h : Right t) {d : Int} {s : Bytes} (hd : (nodeAt t.L d).kind = 1) (h0 : inDir t.L d s ≠ 0) (hv : listDir t.L (inDir t.L d s) = []) :
    plainN ⟨t.L.filter (fun a => decide (a.num ≠ inDir t.L d s)), t.last⟩ = upd (unhangN (plainN t) d s) (inDir t.L d s) nod0 := by
  have hR := cut_right h (d := d) (name := s)
  have hst := in_stands h hd h0
  have hw : (cut t d s).1 = ⟨t.L.filter (fun a => decide (a.num ≠ inDir t.L d s)), t.last⟩ := by
    unfold M07.cut
    rw [if_neg (by unfold dirErr; rw [hd]; decide), if_neg h0, if_neg (by rw [hv]; simp)]
  rw [hw] at hR
  have hvoid := list_void hv
  generalize inDir t.L d s = n at *
  have hat : ∀ m, nodeAt (t.L.filter (fun a => decide (a.num ≠ n))) m = if m = n then zero else nodeAt t.L m := by
    intro m
    by_cases e : m = n
    · subst e
      rw [if_pos rfl]
      exact at_none fun a ha => by have := (List.mem_filter.1 ha).2; simpa using this
    · rw [if_neg e]; exact at_filter e
  have hdn : d ≠ n := by
    intro e
    have := at_some hst.2.2.1
    exact hvoid _ this.1 (by rw [this.2]; exact hst.2.1) (by rw [hst.2.2.2.1]; exact e)
  have hns : ∀ i q m, Stands ⟨t.L.filter (fun a => decide (a.num ≠ n)), t.last⟩ i q m ↔ Stands t i q m ∧ m ≠ n := by
    intro i q m
    unfold Stands
    show ((nodeAt (t.L.filter _) i).kind = 1 ∧ m ≠ 1 ∧ (nodeAt (t.L.filter _) m).kind ≠ 0 ∧ (nodeAt (t.L.filter _) m).up = i ∧ (nodeAt (t.L.filter _) m).name = q) ↔ _
    rw [hat, hat]
    by_cases e1 : m = n
    · rw [if_pos e1]
      constructor
      · rintro ⟨-, -, e, -⟩; exact absurd rfl e
      · rintro ⟨-, e⟩; exact absurd e1 e
    · rw [if_neg e1]
      by_cases e2 : i = n
      · subst e2
        rw [if_pos rfl]
        constructor
        · rintro ⟨e, -⟩; exact absurd e (by decide)
        · rintro ⟨⟨-, a2, a3, a4, a5⟩, -⟩
          have := at_some a3
          exact absurd a4 (hvoid _ this.1 (by rw [this.2]; exact a2))
      · rw [if_neg e2]
        constructor
        · intro e; exact ⟨e, e1⟩
        · rintro ⟨e, -⟩; exact e
  refine plain_of hR fun m => ?_
  show _ = (nodeAt (t.L.filter _) m).kind ∧ _ = (nodeAt (t.L.filter _) m).up ∧ _ = (nodeAt (t.L.filter _) m).data ∧ _
  rw [hat m]
  by_cases e : m = n
  · subst e
    rw [upd_here, if_pos rfl]
    refine ⟨rfl, rfl, rfl, rfl, fun q i => ?_⟩
    rw [hns]
    constructor
    · intro e; cases e
    · rintro ⟨⟨-, a2, a3, a4, a5⟩, -⟩
      have := at_some a3
      exact absurd a4 (hvoid _ this.1 (by rw [this.2]; exact a2))
  · rw [upd_other _ _ e, if_neg e]
    unfold unhangN
    by_cases e2 : m = d
    · subst e2
      rw [upd_here]
      refine ⟨rfl, rfl, rfl, M06.right_cut _ _, fun q i => ?_⟩
      show (q, i) ∈ M06.cut (plainN t m).list s ↔ _
      rw [mem_cut_iff (plain_right t m), mem_plain h, hns]
      constructor
      · rintro ⟨h1, h2⟩
        refine ⟨h1, fun e3 => h2 ?_⟩
        rw [e3] at h1
        exact h1.2.2.2.2.symm.trans hst.2.2.2.2
      · rintro ⟨h1, h2⟩
        refine ⟨h1, fun e3 => h2 ?_⟩
        have e3 : q = s := e3
        rw [e3] at h1
        exact stands_once h h1 hst
    · rw [upd_other _ _ e2]
      refine ⟨rfl, rfl, rfl, plain_right t m, fun q i => ?_⟩
      rw [mem_plain h, hns]
      constructor
      · intro h1
        refine ⟨h1, fun e3 => e2 ?_⟩
        rw [e3] at h1
        exact h1.2.2.2.1.symm.trans hst.2.2.2.1
      · exact And.left
/-! Move -/
theorem placed_plain (h : Right t) {n dst src : Int} {s : Bytes} {al : Bytes} (hst : Stands t src s n) (hd : (nodeAt t.L dst).kind = 1) (hne : dst ≠ n) (hno : inDir t.L dst al = 0) (hin : (nodeAt t.L n).kind = 1 → ¬ Inside t.L n dst) :
    plainN (placed t (nodeAt t.L n) dst al) = hangN (unhangN (plainN t) src s) dst al n := by
  have hm := at_some hst.2.2.1
  have hR := placed_right h hm.1 (by rw [hm.2]; exact hst.2.1) hd hno (by rw [hm.2]; exact hin)
  have hat : ∀ m, nodeAt (placed t (nodeAt t.L n) dst al).L m = if m = n then { nodeAt t.L n with up := dst, name := al } else nodeAt t.L m := by
    intro m
    show nodeAt (t.L.map _) m = _
    rw [at_with h.kind]
    show (if m = (nodeAt t.L n).num ∧ _ then _ else _) = _
    by_cases e : m = n
    · rw [if_pos ⟨e.trans hm.2.symm, by rw [e]; exact hst.2.2.1⟩, if_pos e]
    · rw [if_neg (fun e2 => e (e2.1.trans hm.2)), if_neg e]
  have hsn : src ≠ n := by
    intro e
    have := never_self h hm.1 (by rw [hm.2]; exact hst.2.1)
    rw [hm.2, hst.2.2.2.1] at this
    exact this e
  have hns : ∀ i q m, Stands (placed t (nodeAt t.L n) dst al) i q m ↔ (m = n ∧ i = dst ∧ q = al) ∨ (m ≠ n ∧ Stands t i q m) := by
    intro i q m
    unfold Stands
    have hik : (nodeAt (placed t (nodeAt t.L n) dst al).L i).kind = (nodeAt t.L i).kind := by
      rw [hat]
      split
      · rename_i e; rw [e]
      · rfl
    rw [hik, hat]
    by_cases e1 : m = n
    · subst e1
      rw [if_pos rfl]
      constructor
      · rintro ⟨-, -, -, a, b⟩
        exact Or.inl ⟨rfl, a.symm, b.symm⟩
      · rintro (⟨-, rfl, rfl⟩ | ⟨e, -⟩)
        · exact ⟨hd, hst.2.1, hst.2.2.1, rfl, rfl⟩
        · exact absurd rfl e
    · rw [if_neg e1]
      constructor
      · intro e; exact Or.inr ⟨e1, e⟩
      · rintro (⟨e, -⟩ | ⟨-, e⟩)
        · exact absurd e e1
        · exact e
  -- what the lists hold
  have hsrc : ∀ q m, (q, m) ∈ M06.cut (plainN t src).list s ↔ Stands t src q m ∧ m ≠ n := by
    intro q m
    rw [mem_cut_iff (plain_right t src), mem_plain h]
    constructor
    · rintro ⟨h1, h2⟩
      refine ⟨h1, fun e3 => h2 ?_⟩
      rw [e3] at h1
      exact h1.2.2.2.2.symm.trans hst.2.2.2.2
    · rintro ⟨h1, h2⟩
      refine ⟨h1, fun e3 => h2 ?_⟩
      have e3 : q = s := e3
      rw [e3] at h1
      exact stands_once h h1 hst
  have hoth : ∀ i q m, i ≠ src → Stands t i q m → m ≠ n := by
    intro i q m hi h1 e
    rw [e] at h1
    exact hi (h1.2.2.2.1.symm.trans hst.2.2.2.1)
  have hput : ∀ (i : Int) (L : List Ent), i = dst → M06.right L = true → (∀ q m, (q, m) ∈ L ↔ Stands t i q m ∧ m ≠ n) → M06.right (M06.put L (al, n)) = true ∧ ∀ q m, (q, m) ∈ M06.put L (al, n) ↔ Stands (placed t (nodeAt t.L n) dst al) i q m := by
    intro i L hi hr hL
    refine ⟨M06.right_put _ _, fun q m => ?_⟩
    rw [mem_put_iff hr, hL, hns]
    constructor
    · rintro (e | ⟨⟨h1, h2⟩, -⟩)
      · cases e; exact Or.inl ⟨rfl, hi, rfl⟩
      · exact Or.inr ⟨h2, h1⟩
    · rintro (⟨rfl, -, rfl⟩ | ⟨h1, h2⟩)
      · exact Or.inl rfl
      · refine Or.inr ⟨⟨h2, h1⟩, fun e => ?_⟩
        have e : q = al := e
        rw [e, hi] at h2
        exact in_none h hno h2
  refine plain_of hR fun m => ?_
  rw [hat m]
  unfold hangN
  simp only []
  by_cases e : m = n
  · subst e
    rw [upd_here, if_pos rfl, upd_other _ _ (Ne.symm hne)]
    unfold unhangN
    rw [upd_other _ _ (Ne.symm hsn)]
    refine ⟨rfl, rfl, rfl, plain_right t m, fun q i => ?_⟩
    show (q, i) ∈ (plainN t m).list ↔ _
    rw [mem_plain h, hns]
    constructor
    · intro h1; exact Or.inr ⟨hoth _ _ _ (Ne.symm hsn) h1, h1⟩
    · rintro (⟨-, e, -⟩ | ⟨-, h1⟩)
      · exact absurd e.symm hne
      · exact h1
  · rw [upd_other _ _ e, if_neg e]
    by_cases e2 : m = dst
    · subst e2
      rw [upd_here]
      unfold unhangN
      by_cases e3 : m = src
      · subst e3
        rw [upd_here]
        have := hput m _ rfl (M06.right_cut _ _) hsrc
        exact ⟨rfl, rfl, rfl, this.1, this.2⟩
      · rw [upd_other _ _ e3]
        have := hput m _ rfl (plain_right t m) (fun q i => by
          rw [mem_plain h]
          exact ⟨fun h1 => ⟨h1, hoth _ _ _ e3 h1⟩, And.left⟩)
        exact ⟨rfl, rfl, rfl, this.1, this.2⟩
    · rw [upd_other _ _ e2]
      unfold unhangN
      by_cases e3 : m = src
      · subst e3
        rw [upd_here]
        refine ⟨rfl, rfl, rfl, M06.right_cut _ _, fun q i => ?_⟩
        rw [hns]
        show (q, i) ∈ M06.cut (plainN t m).list s ↔ _
        rw [hsrc]
        constructor
        · rintro ⟨h1, h2⟩; exact Or.inr ⟨h2, h1⟩
        · rintro (⟨-, e4, -⟩ | ⟨h2, h1⟩)
          · exact absurd e4 e2
          · exact ⟨h1, h2⟩
      · rw [upd_other _ _ e3]
        refine ⟨rfl, rfl, rfl, plain_right t m, fun q i => ?_⟩
        rw [mem_plain h, hns]
        constructor
        · intro h1; exact Or.inr ⟨hoth _ _ _ e3 h1, h1⟩
        · rintro (⟨-, e4, -⟩ | ⟨-, h1⟩)
          · exact absurd e4 e2
          · exact h1
theorem put_cut {L : List Ent} (h : M06.right L = true) (s : Bytes) (n : Int) : M06.put (M06.cut L s) (s, n) = M06.put L (s, n) :=
  right_ext (M06.right_put _ _) (M06.right_put _ _) fun e => by
    rw [mem_put_iff (M06.right_cut _ _), mem_put_iff h, mem_cut_iff h]
    constructor
    · rintro (h1 | ⟨⟨h1, -⟩, h2⟩)
      · exact Or.inl h1
      · exact Or.inr ⟨h1, h2⟩
    · rintro (h1 | ⟨h1, h2⟩)
      · exact Or.inl h1
      · exact Or.inr ⟨⟨h1, h2⟩, h2⟩
theorem cut_cut {L : List Ent} (h : M06.right L = true) (s q : Bytes) : M06.cut (M06.cut L s) q = M06.cut (M06.cut L q) s :=
  right_ext (M06.right_cut _ _) (M06.right_cut _ _) fun e => by
    rw [mem_cut_iff (M06.right_cut _ _), mem_cut_iff h, mem_cut_iff (M06.right_cut _ _), mem_cut_iff h]
    constructor
    · rintro ⟨⟨a, b⟩, c⟩; exact ⟨⟨a, c⟩, b⟩
    · rintro ⟨⟨a, b⟩, c⟩; exact ⟨⟨a, c⟩, b⟩
/-- what stood there is gone, and the node takes its name over -/
theorem replace_plain {g : Int → Nod} (hg : ∀ m, M06.right (g m).list = true) {src dst th n : Int} {s : Bytes} {al : Bytes} (h1 : th ≠ src) (h2 : th ≠ dst) (h3 : th ≠ n) (h4 : dst ≠ n) :
    hangN (unhangN (upd (unhangN g dst al) th nod0) src s) dst al n = hangN (unhangN (upd g th nod0) src s) dst al n := by
  funext m
  unfold hangN unhangN
  simp only []
  by_cases e1 : m = n
  · subst e1
    rw [upd_here, upd_here, upd_other _ _ (Ne.symm h4), upd_other _ _ (Ne.symm h4)]
    by_cases e2 : m = src
    · subst e2
      rw [upd_here, upd_here, upd_other _ _ (Ne.symm h3), upd_other _ _ (Ne.symm h3), upd_other _ _ (Ne.symm h4)]
    · rw [upd_other _ _ e2, upd_other _ _ e2, upd_other _ _ (Ne.symm h3), upd_other _ _ (Ne.symm h3), upd_other _ _ (Ne.symm h4)]
  · rw [upd_other _ _ e1, upd_other _ _ e1]
    by_cases e2 : m = dst
    · subst e2
      rw [upd_here, upd_here]
      by_cases e3 : m = src
      · subst e3
        rw [upd_here, upd_here, upd_other _ _ (Ne.symm h2), upd_other _ _ (Ne.symm h2), upd_here]
        show (⟨_, _, _, M06.put (M06.cut (M06.cut (g m).list al) s) (al, n)⟩ : Nod) = ⟨_, _, _, M06.put (M06.cut (g m).list s) (al, n)⟩
        rw [cut_cut (hg m), put_cut (M06.right_cut _ _)]
      · rw [upd_other _ _ e3, upd_other _ _ e3, upd_other _ _ (Ne.symm h2), upd_other _ _ (Ne.symm h2), upd_here]
        show (⟨_, _, _, M06.put (M06.cut (g m).list al) (al, n)⟩ : Nod) = ⟨_, _, _, M06.put (g m).list (al, n)⟩
        rw [put_cut (hg m)]
    · rw [upd_other _ _ e2, upd_other _ _ e2]
      by_cases e3 : m = src
      · subst e3
        rw [upd_here, upd_here, upd_other _ _ (Ne.symm h1), upd_other _ _ (Ne.symm h1), upd_other _ _ e2]
      · rw [upd_other _ _ e3, upd_other _ _ e3]
        by_cases e4 : m = th
        · subst e4; rw [upd_here, upd_here]
        · rw [upd_other _ _ e4, upd_other _ _ e4, upd_other _ _ e2]
end
end Go.Proofs.YtolhniepejhmfaaGreatDoor.W07
