/-
  Texts joined, in build order, each with its own comment and its own conditions: Strs, Recs, OpenRecs, TaskRec, Kit, OpenTasks, W03Math, W06Math, W07Math.
-/
import Derived.WalkKit
import Derived.Below
import Derived.Laws.OwnMore
import Derived.Deep.AppendLies
import Derived.Deep.Draws
import Derived.Lib.Strings
import Derived.Lib.Hide
import Derived.ProofKit
import Derived.Deep.SlicePairs
import Derived.Lib.SmallJoins
import Derived.SizedLaws
import Derived.Deep.QuietTactic
import Derived.Laws.BytesArg
import Derived.Test.YtmbpgjncioegdaaGreatDoorChecked
import Derived.Lib.Bytealg
import Derived.Laws.Strings
/-
  Slices of strings: when a slice value reads as a list of texts in a world, how the reading is kept by what a call lays and writes, and what a row of the call's own gives. Plain lemmas on worlds, for every program; no condition but those that each theorem bears.
-/
namespace Go.Proofs.YtmbpgjncioegdaaGreatDoor.Strs
open Go Go.RowKit

theorem block_add (a : Addr) (n : Nat) : (a.add n).block = a.block := by unfold Addr.add; split <;> rfl
/-- a text's value -/
def strV (l : List UInt8) : Value := .string ⟨l.toArray⟩
/-- The slice value v reads as the texts L, below block B. -/
def Texts (B : Nat) (w : World) (v : Value) (L : List (List UInt8)) : Prop :=
  ∃ (A : Option Addr) (c : Nat), v = .slice A L.length c ∧ L.length ≤ c ∧ c ≤ maxLen ∧
    (0 < L.length → ∃ ad, A = some ad ∧ ad.block < B ∧ ∀ k, k < L.length → w.cell? (ad.add k) = some (strV (L.getD k [])))
section
variable {B B' : Nat} {w w' : World} {v : Value} {L : List (List UInt8)}
theorem Texts.keep (h : Texts B w v L) (hk : ∀ p : Addr, p.block < B → w'.cell? p = w.cell? p) : Texts B w' v L := by
  obtain ⟨A, c, e, h1, h2, h3⟩ := h
  exact ⟨A, c, e, h1, h2, fun hn => by
    obtain ⟨ad, e2, hb, hc⟩ := h3 hn
    exact ⟨ad, e2, hb, fun k hk2 => (hk _ (by rw [block_add]; exact hb)).trans (hc k hk2)⟩⟩
theorem Texts.more (h : Texts B w v L) (hB : B ≤ B') : Texts B' w v L := by
  obtain ⟨A, c, e, h1, h2, h3⟩ := h
  exact ⟨A, c, e, h1, h2, fun hn => by
    obtain ⟨ad, e2, hb, hc⟩ := h3 hn
    exact ⟨ad, e2, by omega, hc⟩⟩
theorem Texts.below (h : Texts B w v L) (hb : Below B w w') : Texts B w' v L := h.keep fun _ hp => hb.cell hp
theorem Texts.alloc (h : Texts B w v L) (hB : B ≤ w.heap.size) (o : Obj) : Texts B (w.alloc o) v L := h.keep fun p hp => World.cell?_alloc_lt w o p (by omega)
theorem Texts.drewN (h : Texts B w v L) (k : Nat) : Texts B (w.drewN k) v L := h
theorem Texts.len (h : Texts B w v L) : L.length ≤ maxLen := by
  obtain ⟨A, c, e, h1, h2, h3⟩ := h
  omega
/-- the value, written out -/
theorem Texts.form (h : Texts B w v L) : ∃ A c, v = .slice A L.length c ∧ L.length ≤ c ∧ c ≤ maxLen := by
  obtain ⟨A, c, e, h1, h2, h3⟩ := h
  exact ⟨A, c, e, h1, h2⟩
/-- the cell at a place -/
theorem Texts.at_ {A : Option Addr} {n c : Nat} (h : Texts B w (.slice A n c) L) {k : Nat} (hk : k < n) : ∃ ad s, A = some ad ∧ ad.block < B ∧ w.cell? (ad.add k) = some (.string s) ∧ s.data.toList = L.getD k [] := by
  obtain ⟨A', c', e, h1, h2, h3⟩ := h
  injection e with e1 e2 e3
  subst e1 e2 e3
  obtain ⟨ad, e2, hb, hc⟩ := h3 (by omega)
  exact ⟨ad, _, e2, hb, hc k hk, rfl⟩
theorem Texts.count {A : Option Addr} {n c : Nat} (h : Texts B w (.slice A n c) L) : n = L.length ∧ n ≤ c ∧ c ≤ maxLen := by
  obtain ⟨A', c', e, h1, h2, h3⟩ := h
  injection e with e1 e2 e3
  subst e1 e2 e3
  exact ⟨rfl, h1, h2⟩
theorem texts_nil (B : Nat) (w : World) : Texts B w (.slice none 0 0) [] := ⟨none, 0, rfl, Nat.le_refl _, Nat.zero_le _, fun h => absurd h (by simp)⟩
/-- a row of the call's own -/
theorem Texts.of_own {base : Nat} {e : TypeId} {n : Nat} (h : w.ownsRow base e 1 v n (L.map strV)) : Texts w.heap.size w v L := by
  have hl : n = L.length := by have := h.1; simpa using this.symm
  subst hl
  rcases h.2 with ⟨rfl, h0⟩ | ⟨g, cap, cur, rfl, hg, hh, hn, hcap, hsz, htk⟩
  · have : L = [] := by simpa using h0
    subst this
    exact texts_nil _ _
  · refine ⟨_, _, rfl, by omega, by omega, fun hn0 => ⟨_, rfl, ?_, fun k hk => ?_⟩⟩
    · rcases Nat.lt_or_ge g w.heap.size with hlt | hge
      · exact hlt
      · rw [Array.getElem?_eq_none hge] at hh; cases hh
    · have := h.cells (g := g) rfl k (strV (L.getD k [])) (by rw [List.getElem?_map, List.getElem?_eq_getElem hk]; simp [hk])
      exact this
end
end Go.Proofs.YtmbpgjncioegdaaGreatDoor.Strs
/-
  Slices of records: when a slice value reads as a list of records (each so many cells) in a world, how the reading is kept by what a call lays and writes, and what a row of the call's own gives. Plain lemmas on worlds, for every program; no condition but those that each theorem bears.
-/
namespace Go.Proofs.YtmbpgjncioegdaaGreatDoor.Recs
open Go Go.RowKit
open Go.Proofs.YtmbpgjncioegdaaGreatDoor.Strs (block_add strV)

/-- The slice value v reads as the records L, each of sz cells, below block B. -/
def Recs {α : Type} (enc : α → List Value) (sz : Nat) (B : Nat) (w : World) (v : Value) (L : List α) : Prop :=
  ∃ (A : Option Addr) (c : Nat), v = .slice A L.length c ∧ L.length ≤ c ∧ c ≤ maxLen ∧
    (0 < L.length → ∃ ad, A = some ad ∧ ad.block < B ∧ ∀ k (h : k < L.length) j, j < sz → w.cell? (ad.add (k * sz + j)) = (enc L[k])[j]?)
section
variable {α : Type} {enc : α → List Value} {sz B B' : Nat} {w w' : World} {v : Value} {L : List α}
theorem Recs.keep (h : Recs enc sz B w v L) (hk : ∀ p : Addr, p.block < B → w'.cell? p = w.cell? p) : Recs enc sz B w' v L := by
  obtain ⟨A, c, e, h1, h2, h3⟩ := h
  exact ⟨A, c, e, h1, h2, fun hn => by
    obtain ⟨ad, e2, hb, hc⟩ := h3 hn
    exact ⟨ad, e2, hb, fun k hk2 j hj => (hk _ (by rw [block_add]; exact hb)).trans (hc k hk2 j hj)⟩⟩
theorem Recs.more (h : Recs enc sz B w v L) (hB : B ≤ B') : Recs enc sz B' w v L := by
  obtain ⟨A, c, e, h1, h2, h3⟩ := h
  exact ⟨A, c, e, h1, h2, fun hn => by
    obtain ⟨ad, e2, hb, hc⟩ := h3 hn
    exact ⟨ad, e2, by omega, hc⟩⟩
theorem Recs.below (h : Recs enc sz B w v L) (hb : Below B w w') : Recs enc sz B w' v L := h.keep fun _ hp => hb.cell hp
theorem Recs.alloc (h : Recs enc sz B w v L) (hB : B ≤ w.heap.size) (o : Obj) : Recs enc sz B (w.alloc o) v L := h.keep fun p hp => World.cell?_alloc_lt w o p (by omega)
theorem Recs.drewN (h : Recs enc sz B w v L) (k : Nat) : Recs enc sz B (w.drewN k) v L := h
theorem Recs.len (h : Recs enc sz B w v L) : L.length ≤ maxLen := by
  obtain ⟨A, c, e, h1, h2, h3⟩ := h
  omega
theorem Recs.form (h : Recs enc sz B w v L) : ∃ A c, v = .slice A L.length c ∧ L.length ≤ c ∧ c ≤ maxLen := by
  obtain ⟨A, c, e, h1, h2, h3⟩ := h
  exact ⟨A, c, e, h1, h2⟩
theorem Recs.at_ {A : Option Addr} {n c : Nat} (h : Recs enc sz B w (.slice A n c) L) {k : Nat} (hk : k < n) : ∃ (ad : Addr) (hl : k < L.length), A = some ad ∧ ad.block < B ∧ ∀ j, j < sz → w.cell? (ad.add (k * sz + j)) = (enc L[k])[j]? := by
  obtain ⟨A', c', e, h1, h2, h3⟩ := h
  injection e with e1 e2 e3
  subst e1 e2 e3
  obtain ⟨ad, e2, hb, hc⟩ := h3 (by omega)
  exact ⟨ad, hk, e2, hb, hc k hk⟩
/-- the same, by plain addresses -/
theorem Recs.flat_ {A : Option Addr} {n c : Nat} (h : Recs enc sz B w (.slice A n c) L) (he : ∀ x : α, (enc x).length = sz) (h0 : 0 < sz) {k : Nat} (hk : k < n) : ∃ (b o : Nat) (hl : k < L.length), A = some ⟨b, o, none⟩ ∧ b < B ∧ ∀ j, j < sz → w.cell? ⟨b, o + k * sz + j, none⟩ = (enc L[k])[j]? := by
  obtain ⟨ad, hl, rfl, hb, hc⟩ := h.at_ hk
  obtain ⟨b, o, sp⟩ := ad
  have hsp : sp = none := by
    obtain ⟨ad2, hl2, e2, -, hc2⟩ := h.at_ (k := 0) (by omega)
    cases e2
    have := hc2 0 h0
    rw [List.getElem?_eq_getElem (by rw [he]; exact h0)] at this
    simpa [Addr.add] using World.cell?_spot this
  subst hsp
  refine ⟨b, o, hl, rfl, hb, fun j hj => ?_⟩
  have := hc j hj
  rw [show (⟨b, o, none⟩ : Addr).add (k * sz + j) = ⟨b, o + k * sz + j, none⟩ by unfold Addr.add; split <;> simp_all <;> omega] at this
  exact this
theorem recs_nil (enc : α → List Value) (sz B : Nat) (w : World) : Recs enc sz B w (.slice none 0 0) [] := ⟨none, 0, rfl, Nat.le_refl _, Nat.zero_le _, fun h => absurd h (by simp)⟩
theorem flat_at (he : ∀ x : α, (enc x).length = sz) : ∀ (L : List α) (k : Nat) (h : k < L.length) (j : Nat), j < sz → (L.flatMap enc)[k * sz + j]? = (enc L[k])[j]?
  | [], k, h, _, _ => by simp at h
  | x :: L, 0, h, j, hj => by
    rw [List.flatMap_cons, Nat.zero_mul, Nat.zero_add, List.getElem?_append_left (by rw [he]; exact hj)]; rfl
  | x :: L, k + 1, h, j, hj => by
    rw [List.flatMap_cons, List.getElem?_append_right (by rw [he, Nat.succ_mul]; omega), he]
    have := flat_at he L k (by simpa using h) j hj
    rw [show (k + 1) * sz + j - sz = k * sz + j by rw [Nat.succ_mul]; omega, this]; rfl
theorem flat_len (he : ∀ x : α, (enc x).length = sz) (L : List α) : (L.flatMap enc).length = L.length * sz := by
  induction L with
  | nil => simp
  | cons x L ih => rw [List.flatMap_cons, List.length_append, ih, he, List.length_cons, Nat.succ_mul]; omega
/-- a row of the call's own -/
theorem Recs.of_own (he : ∀ x : α, (enc x).length = sz) {base : Nat} {e : TypeId} {n : Nat} (hn : n = L.length) (h : w.ownsRow base e sz v n (L.flatMap enc)) : Recs enc sz w.heap.size w v L := by
  subst hn
  rcases h.2 with ⟨rfl, h0⟩ | ⟨g, cap, cur, rfl, hg, hh, hn, hcap, hsz, htk⟩
  · have : L = [] := List.length_eq_zero_iff.1 h0
    subst this
    exact recs_nil _ _ _ _
  · refine ⟨_, _, rfl, by omega, by omega, fun hn0 => ⟨_, rfl, ?_, fun k hk j hj => ?_⟩⟩
    · rcases Nat.lt_or_ge g w.heap.size with hlt | hge
      · exact hlt
      · rw [Array.getElem?_eq_none hge] at hh; cases hh
    · have hf := flat_at he L k hk j hj
      have hlt : j < (enc L[k]).length := by rw [he]; exact hj
      rw [List.getElem?_eq_getElem hlt] at hf ⊢
      have := h.cells (g := g) rfl (k * sz + j) ((enc L[k])[j]) hf
      exact this
theorem Recs.other {g o n c : Nat} (h : Recs enc sz B w (.slice (some ⟨g, o, none⟩) n c) L) (hk : ∀ p : Addr, p.block = g → w'.cell? p = w.cell? p) : Recs enc sz B w' (.slice (some ⟨g, o, none⟩) n c) L := by
  obtain ⟨A, c', e, h1, h2, h3⟩ := h
  injection e with e1 e2 e3
  subst e1 e2 e3
  exact ⟨_, _, rfl, h1, h2, fun hn => by
    obtain ⟨ad, e2, hb, hc⟩ := h3 hn
    cases e2
    exact ⟨_, rfl, hb, fun k hk2 j hj => (hk _ (by rw [block_add])).trans (hc k hk2 j hj)⟩⟩
/-- all the cells of a slice of records, one by one -/
theorem Recs.news {A : Option Addr} {n c : Nat} (h : Recs enc sz B w (.slice A n c) L) (he : ∀ x : α, (enc x).length = sz) (h0 : 0 < sz) (hn : 0 < n) : ∃ b o : Nat, A = some ⟨b, o, none⟩ ∧ b < B ∧ ∀ j u, (L.flatMap enc)[j]? = some u → w.cell? ((⟨b, o, none⟩ : Addr).add j) = some u := by
  obtain ⟨b, o, hl0, rfl, hb, -⟩ := h.flat_ he h0 hn
  have hln : n = L.length := by obtain ⟨A', c', e, _⟩ := h; injection e
  refine ⟨b, o, rfl, hb, fun j u hj => ?_⟩
  have hjl : j < L.length * sz := by
    rw [← flat_len he L]
    rcases Nat.lt_or_ge j (L.flatMap enc).length with hlt | hge
    · exact hlt
    · rw [List.getElem?_eq_none hge] at hj; cases hj
  have hk : j / sz < n := by rw [hln]; exact (Nat.div_lt_iff_lt_mul h0).2 hjl
  obtain ⟨b', o', hl, e, -, hc⟩ := h.flat_ he h0 hk
  cases e
  have hi : j % sz < sz := Nat.mod_lt _ h0
  have h1 := hc (j % sz) hi
  have h2 := flat_at he L (j / sz) hl (j % sz) hi
  have e2 : j / sz * sz + j % sz = j := by rw [Nat.mul_comm]; exact Nat.div_add_mod j sz
  rw [e2, hj] at h2
  rw [show (⟨b, o, none⟩ : Addr).add j = ⟨b, o + j / sz * sz + j % sz, none⟩ by unfold Addr.add; split <;> simp_all <;> omega]
  rw [h1, ← h2]
end
/-- the cells of a block just laid -/
theorem cells_new (w : World) (cs : List Value) (t : TypeId) : ∀ j u, cs[j]? = some u → (w.alloc (.cells cs.toArray t)).cell? ((⟨w.heap.size, 0, none⟩ : Addr).add j) = some u := by
  intro j u hj
  have hadd : (⟨w.heap.size, 0, none⟩ : Addr).add j = ⟨w.heap.size, j, none⟩ := by unfold Addr.add; split <;> simp_all
  rw [hadd]
  simp [hj]
end Go.Proofs.YtmbpgjncioegdaaGreatDoor.Recs
/-
  An argument that is a slice of records, opened: it reads as a list of records below the heap's size, where each element's cells read as a record. For every program; the conditions stand in the statement.
-/
namespace Go.Proofs.YtmbpgjncioegdaaGreatDoor.Recs
open Go Go.RowKit Go.ChangeShapes Go.WideShapes Go.Deep
open Go.Proofs.YtmbpgjncioegdaaGreatDoor.Strs (strV)

theorem choose_list {α : Type} {P : Nat → α → Prop} : ∀ n : Nat, (∀ i, i < n → ∃ x, P i x) → ∃ L : List α, L.length = n ∧ ∀ i (h : i < L.length), P i L[i]
  | 0, _ => ⟨[], rfl, fun i h => by simp at h⟩
  | n + 1, h => by
    obtain ⟨L, hl, hL⟩ := choose_list n (fun i hi => h i (by omega))
    obtain ⟨x, hx⟩ := h n (by omega)
    refine ⟨L ++ [x], by rw [List.length_append, hl]; rfl, fun i hi => ?_⟩
    rcases Nat.lt_or_ge i L.length with h1 | h1
    · rw [List.getElem_append_left h1]; exact hL i h1
    · have : i = L.length := by rw [List.length_append] at hi; simp at hi; omega
      subst this
      rw [List.getElem_append_right (Nat.le_refl _)]
      simp only [Nat.sub_self, List.getElem_cons_zero]
      rw [hl]; exact hx
theorem open_recs {α : Type} {encA : α → List Value} {sz : Nat} {Q : α → Prop} {H : Type} {enc : TypeId × Value → H} {P : Program} {W : World} {base : Nat} {t e : TypeId} {v : Value} {d : DataW H} {p : List MemPlace}
    (ht : P.underlying t = some (.slice e)) (hc : P.cellsOf e = sz) (h0 : 0 < sz)
    (hel : ∀ (n : Nat) (cs : List Value) (x : DataW H × List MemPlace), cs.length = sz → DataW.trod enc P W 0 (fun _ => true) true n e cs = some x → ∃ r : α, cs = encA r ∧ Q r)
    (hok : Value.okWide P W .any base t v) (h : DataW.Trod enc P W 0 (fun _ => true) true t v d p) (hlt : ∀ x ∈ p, x.block < W.heap.size) :
    ∃ L : List α, Recs encA sz W.heap.size W v L ∧ ∀ r ∈ L, Q r := by
  obtain ⟨a0, len, cap, rfl⟩ := okWide_slice ht hok
  obtain ⟨fuel, hf⟩ := h
  rcases open_slice ht hf with ⟨hcs, hx⟩ | ⟨a, len', cap', m, n, D, Pl, hcs, _, hl, hm, hz, hx, hi⟩
  · simp [Value.cells] at hcs
    obtain ⟨rfl, rfl, rfl⟩ := hcs
    exact ⟨[], recs_nil _ _ _ _, fun r hr => by simp at hr⟩
  · simp [Value.cells] at hcs
    obtain ⟨rfl, rfl, rfl⟩ := hcs
    simp only [Prod.mk.injEq] at hx
    obtain ⟨rfl, rfl⟩ := hx
    simp only [if_true] at hz
    subst hz
    have each : ∀ i, i < len → ∃ r : α, (∀ j, j < sz → W.cell? (a.add (i * sz + j)) = (encA r)[j]?) ∧ Q r := by
      intro i hi2
      obtain ⟨cs', h1, h2⟩ := hi i (by omega)
      rw [hc] at h1
      obtain ⟨_, hlen, hcell⟩ := World.cells?_some h1
      obtain ⟨r, hr, hq⟩ := hel _ _ _ hlen h2
      refine ⟨r, fun j hj => ?_, hq⟩
      have := hcell j hj
      rw [hr, Go.Deep.add_add] at this
      exact this
    obtain ⟨L, hL, hP⟩ := choose_list len each
    refine ⟨L, ⟨some a, m, by rw [hL], by rw [hL]; exact hl, hm, fun hn => ⟨a, rfl, ?_, fun k hk j hj => (hP k hk).1 j hj⟩⟩, fun r hr => ?_⟩
    · rw [hL] at hn
      obtain ⟨b, off, spot⟩ := a
      refine hlt (.cell b off) (List.mem_append_left _ (MemPlace.mem_row.2 ⟨0, ?_, by simp⟩))
      rw [hc]
      exact Nat.mul_pos (by omega) h0
    · obtain ⟨i, hi2, e⟩ := List.getElem_of_mem hr
      rw [← e]; exact (hP i hi2).2
end Go.Proofs.YtmbpgjncioegdaaGreatDoor.Recs
/-
  Tasks as records of three cells: how a value reads as one, and a slice as a list of them. No condition but those that each theorem bears.
-/
namespace Go.Proofs.YtmbpgjncioegdaaGreatDoor.W09
open Go Go.RowKit Go.Proofs.YtmbpgjncioegdaaGreatDoor.Strs Go.Proofs.YtmbpgjncioegdaaGreatDoor.Recs

structure Tk where
  kind : Int
  path : List UInt8
  text : List UInt8
def tkC (x : Tk) : List Value := [.int .i64 x.kind, strV x.path, strV x.text]
theorem tkC_len (x : Tk) : (tkC x).length = 3 := rfl
abbrev Tasks (B : Nat) (w : World) (v : Value) (L : List Tk) : Prop := Recs tkC 3 B w v L
theorem Tasks.at_ {B : Nat} {w : World} {L : List Tk} {A : Option Addr} {n c : Nat} (h : Tasks B w (.slice A n c) L) {k : Nat} (hk : k < n) : ∃ (b o : Nat) (hl : k < L.length), A = some ⟨b, o, none⟩ ∧ b < B ∧ w.cell? ⟨b, o + k * 3, none⟩ = some (.int .i64 (L[k]).kind) ∧ w.cell? ⟨b, o + k * 3 + 1, none⟩ = some (.string ⟨(L[k]).path.toArray⟩) ∧ w.cell? ⟨b, o + k * 3 + 2, none⟩ = some (.string ⟨(L[k]).text.toArray⟩) := by
  obtain ⟨b, o, hl, rfl, hb, hc⟩ := Recs.flat_ h tkC_len (by omega) hk
  exact ⟨b, o, hl, rfl, hb, hc 0 (by omega), hc 1 (by omega), hc 2 (by omega)⟩
end Go.Proofs.YtmbpgjncioegdaaGreatDoor.W09
/-
  Plain lemmas that walks over texts use: a text's bytes, cuts, sums, emptiness in the walk's spelling; what a call returns; draws. No condition but those that each theorem bears.
-/
namespace Go.Proofs.YtmbpgjncioegdaaGreatDoor.Kit
open Go Go.RowKit

theorem ret_int {k : IntKind} {a b : Int} (h : a = b) : Ending.returned (.int k a) = .returned (.int k b) := by rw [h]
theorem ret_bool {a b : Bool} (h : a = b) : Ending.returned (.bool a) = .returned (.bool b) := by rw [h]
theorem ret_str {a b : ByteArray} (h : a = b) : Ending.returned (.string a) = .returned (.string b) := by rw [h]
theorem mk_bytes (t : ByteArray) : (⟨t.data.toList.toArray⟩ : ByteArray) = t := by obtain ⟨⟨l⟩⟩ := t; rfl
theorem mk_of {d : ByteArray} {l : List UInt8} (h : d.data.toList = l) : (⟨l.toArray⟩ : ByteArray) = d := by rw [← h, mk_bytes]
theorem ba_ext {a b : ByteArray} (h : a.data.toList = b.data.toList) : a = b := by rw [← mk_bytes a, h, mk_bytes b]
theorem bytes_nil {t : ByteArray} (h : ¬ 0 < t.size) : t.data.toList = [] := List.length_eq_zero_iff.1 (by rw [← Lib.size_eq]; omega)
theorem bytes_cons {t : ByteArray} (h : 0 < t.size) : t.data.toList = t[0] :: (t.extract 1 t.size).data.toList := by
  rw [Lib.extract_data]
  have h2 : 0 < t.data.toList.length := by rw [← Lib.size_eq]; exact h
  rw [List.take_of_length_le (by rw [List.length_drop, ← Lib.size_eq]; omega)]
  conv => lhs; rw [← List.drop_zero (l := t.data.toList), List.drop_eq_getElem_cons h2]
  rfl
theorem bytes_ne {s : ByteArray} (h : 0 < s.size) : s.data.toList ≠ [] := by rw [bytes_cons h]; simp
theorem byte_get (s : ByteArray) (k : Nat) (h : k < s.size) : s.data.toList.getD k 0 = s[k] := by
  have h2 : k < s.data.toList.length := by rw [← Lib.size_eq]; exact h
  rw [List.getD_eq_getElem?_getD, List.getElem?_eq_getElem h2]
  rfl
theorem cat_bytes (a b : ByteArray) : (a ++ b).data.toList = a.data.toList ++ b.data.toList := by
  rw [ByteArray.data_append, Array.toList_append]
theorem drop_bytes (s : ByteArray) (k : Nat) : (s.extract k s.size).data.toList = s.data.toList.drop k := by
  rw [Lib.extract_data, List.take_of_length_le (by rw [List.length_drop, ← Lib.size_eq]; exact Nat.le_refl _)]
theorem take_bytes (s : ByteArray) (k : Nat) : (s.extract 0 k).data.toList = s.data.toList.take k := by
  rw [Lib.extract_data, List.drop_zero]; rfl
theorem one_byte (s : ByteArray) (k : Nat) (h : k < s.size) : (s.extract k (k + 1)).data.toList = [s[k]] := by
  have h2 : k < s.data.toList.length := by rw [← Lib.size_eq]; exact h
  rw [Lib.extract_data, List.drop_eq_getElem_cons h2, show k + 1 - k = 1 by omega]
  rfl
theorem one_size (s : ByteArray) (k : Nat) (h : k < s.size) : (s.extract k (k + 1)).size = 1 := by rw [ByteArray.size_extract]; omega
theorem drop_next (s : ByteArray) (k : Nat) (h : k < s.size) : s.data.toList.drop k = s[k] :: s.data.toList.drop (k + 1) := by
  have h2 : k < s.data.toList.length := by rw [← Lib.size_eq]; exact h
  rw [List.drop_eq_getElem_cons h2]
  rfl
theorem drop_end (s : ByteArray) (k : Nat) (h : ¬ k < s.size) : s.data.toList.drop k = [] := by
  rw [List.drop_eq_nil_iff, ← Lib.size_eq]; omega
theorem take_next (s : ByteArray) (k : Nat) (h : k < s.size) : s.data.toList.take (k + 1) = s.data.toList.take k ++ [s[k]] := by
  have h2 : k < s.data.toList.length := by rw [← Lib.size_eq]; exact h
  rw [List.take_succ_eq_append_getElem h2]
  rfl
theorem take_end (s : ByteArray) (k : Nat) (h : ¬ k < s.size) : s.data.toList.take k = s.data.toList := by
  rw [List.take_of_length_le (by rw [← Lib.size_eq]; omega)]
theorem list_full {s : ByteArray} (h : 0 < s.size) : s.toList.isEmpty = false := by rw [Lib.toList_data, bytes_cons h]; rfl
theorem list_ne {s : ByteArray} (h : 0 < s.size) : ¬ s.toList = [] := by rw [Lib.toList_data, bytes_cons h]; simp
theorem list_none {s : ByteArray} (h : ¬ 0 < s.size) : s.toList.isEmpty = true := by rw [Lib.toList_data, bytes_nil h]; rfl
theorem list_nil {s : ByteArray} (h : ¬ 0 < s.size) : s.toList = [] := by rw [Lib.toList_data, bytes_nil h]
theorem head_of {s : ByteArray} (h : 0 < s.size) : s.data.toList.headD 0 = s[0] := by rw [bytes_cons h]; rfl
theorem byte_eq {c d : UInt8} (h : (c.toNat : Int) = (d.toNat : Int)) : c = d := UInt8.toNat_inj.1 (by omega)
theorem byte_ne {c d : UInt8} (h : ¬ (c.toNat : Int) = (d.toNat : Int)) : ¬ c = d := fun e => h (by rw [e])
theorem below_draws (w : World) (n : Nat) : Below w.heap.size w (w.drewN n) := ⟨rfl, rfl, rfl, Nat.le_refl _, fun _ _ => rfl⟩
theorem on {a b c : World} (h : Below a.heap.size a b) (k : Below b.heap.size b c) : Below a.heap.size a c := h.trans (k.mono h.size)
theorem one_num (x : Int) : (strOfNums [x]).data.toList = [UInt8.ofNat x.toNat] := rfl
end Go.Proofs.YtmbpgjncioegdaaGreatDoor.Kit
/-
  Arguments that are tasks, or slices of them, opened. For this program's types; no condition but those that each theorem bears.
-/
namespace Go.Proofs.YtmbpgjncioegdaaGreatDoor.W09
open Go Go.RowKit Go.ChangeShapes Go.WideShapes Go.Deep Go.Joins
open Go.Proofs.YtmbpgjncioegdaaGreatDoor.Strs (strV)
open Go.Proofs.YtmbpgjncioegdaaGreatDoor.Recs
open Go.Proofs.YtmbpgjncioegdaaGreatDoor.Kit (mk_bytes)

theorem tk_struct : ∃ f0 f1 f2 : Field, Tryz.prog.underlying 59 = some (.struct #[f0, f1, f2]) ∧ f0.type = 3 ∧ f1.type = 9 ∧ f2.type = 9 ∧ oneCellFields Tryz.prog #[f0, f1, f2] = true :=
  ⟨_, _, _, Tryz.underlying59, rfl, rfl, rfl, by kernel_rfl⟩
theorem tk_cells : Tryz.prog.cellsOf 59 = 3 := by kernel_rfl
theorem three {α : Type} : ∀ {l : List α}, l.length = 3 → ∃ a b c, l = [a, b, c]
  | [a, b, c], _ => ⟨a, b, c, rfl⟩
section
variable {H : Type} {enc : TypeId × Value → H} {W : World} {base : Nat}
theorem tk_read (n : Nat) (cs : List Value) (x : DataW H × List MemPlace) (hl : cs.length = 3) (h : DataW.trod enc Tryz.prog W 0 (fun _ => true) true n 59 cs = some x) : ∃ r : Tk, cs = tkC r ∧ r.text.length ≤ maxLen := by
  obtain ⟨f0, f1, f2, hs, e0, e1, e2, hone⟩ := tk_struct
  obtain ⟨o0, k0⟩ := hone_of hone 0 f0 rfl
  obtain ⟨o1, k1⟩ := hone_of hone 1 f1 rfl
  obtain ⟨o2, k2⟩ := hone_of hone 2 f2 rfl
  obtain ⟨xs, m, _, _, _, hxl, hf⟩ := DataW.trod_struct hs h
  have hxl3 : xs.length = 3 := hxl
  have g0 := hf 0 f0 rfl
  have g1 := hf 1 f1 rfl
  have g2 := hf 2 f2 rfl
  rw [o0, k0, e0, List.getElem?_eq_getElem (by omega)] at g0
  rw [o1, k1, e1, List.getElem?_eq_getElem (by omega)] at g1
  rw [o2, k2, e2, List.getElem?_eq_getElem (by omega)] at g2
  obtain ⟨c0, c1, c2, rfl⟩ := three hl
  obtain ⟨z0, q0, _, _⟩ := DataW.trod_int Tryz.underlying3 g0
  obtain ⟨s1, q1, _, _⟩ := DataW.trod_string Tryz.underlying9 g1
  obtain ⟨s2, q2, _, hm⟩ := DataW.trod_string Tryz.underlying9 g2
  simp at q0 q1 q2
  subst q0 q1 q2
  refine ⟨⟨z0, s1.data.toList, s2.data.toList⟩, ?_, by rw [← Lib.size_eq]; exact hm⟩
  show _ = [_, strV s1.data.toList, strV s2.data.toList]
  unfold strV
  rw [mk_bytes, mk_bytes]
set_option maxRecDepth 100000 in
theorem open_tasks {v : Value} {d : DataW H} {p : List MemPlace} (hok : Value.okWide Tryz.prog W .any base 23 v) (h : DataW.Trod enc Tryz.prog W 0 (fun _ => true) true 23 v d p) (hlt : ∀ x ∈ p, x.block < W.heap.size) :
    ∃ L : List Tk, Tasks W.heap.size W v L ∧ ∀ r ∈ L, r.text.length ≤ maxLen :=
  open_recs Tryz.underlying23 tk_cells (by omega) tk_read hok h hlt
end
end Go.Proofs.YtmbpgjncioegdaaGreatDoor.W09
/-
  Plain mathematics for layer 3 (name): which names may be, which are plain; an order of texts byte by byte; lists of texts that rise. Lists alone; no condition but those that each theorem bears.
-/
namespace Go.Proofs.YtmbpgjncioegdaaGreatDoor.M03
open Go

def badByte (c : UInt8) : Bool := decide (c = 0) || decide (c = 47)
/-- a name's error -/
def check (l : List UInt8) : Int := if l.length = 0 then 5 else if 64 < l.length then 11 else if l.any badByte = true then 11 else if l = [46] ∨ l = [46, 46] then 6 else 0
def plainByte (c : UInt8) : Bool := (decide (97 ≤ c.toNat) && decide (c.toNat ≤ 122)) || (decide (65 ≤ c.toNat) && decide (c.toNat ≤ 90)) || (decide (48 ≤ c.toNat) && decide (c.toNat ≤ 57)) || decide (c = 46) || decide (c = 95) || decide (c = 43) || decide (c = 45)
/-- a plain name -/
def plain (l : List UInt8) : Bool := decide (check l = 0) && decide (l.headD 0 ≠ 45) && l.all plainByte
theorem plain_right {l : List UInt8} (h : plain l = true) : check l = 0 := by
  simp only [plain, Bool.and_eq_true, decide_eq_true_eq] at h; exact h.1.1

/-- a stands ahead of b -/
def lt (a b : List UInt8) : Prop := Lib.compareBytes a b = -1
instance (a b : List UInt8) : Decidable (lt a b) := by unfold lt; infer_instance
theorem cmp_self (a : List UInt8) : Lib.compareBytes a a = 0 := by
  induction a with
  | nil => rfl
  | cons c r ih => simp only [Lib.compareBytes, UInt8.lt_irrefl, if_false, ih]
theorem cmp_zero : ∀ {a b : List UInt8}, Lib.compareBytes a b = 0 → a = b
  | [], [], _ => rfl
  | [], _ :: _, h => by simp [Lib.compareBytes] at h
  | _ :: _, [], h => by simp [Lib.compareBytes] at h
  | c :: r, d :: s, h => by
    simp only [Lib.compareBytes] at h
    split at h
    · simp at h
    · split at h
      · simp at h
      · rename_i h1 h2
        have e : c = d := UInt8.le_antisymm (UInt8.not_lt.1 h2) (UInt8.not_lt.1 h1)
        rw [e, cmp_zero h]
theorem cmp_swap : ∀ (a b : List UInt8), Lib.compareBytes b a = -Lib.compareBytes a b
  | [], [] => rfl
  | [], _ :: _ => rfl
  | _ :: _, [] => rfl
  | c :: r, d :: s => by
    have ih := cmp_swap r s
    simp only [Lib.compareBytes]
    by_cases h1 : c < d
    · have h2 : ¬ d < c := UInt8.not_lt.2 (UInt8.le_of_lt h1)
      simp only [h1, h2, if_true, if_false]
      rfl
    · by_cases h2 : d < c
      · simp only [h1, h2, if_true, if_false]
      · simp only [h1, h2, if_false, ih]
theorem cmp_three : ∀ (a b : List UInt8), Lib.compareBytes a b = -1 ∨ Lib.compareBytes a b = 0 ∨ Lib.compareBytes a b = 1
  | [], [] => Or.inr (Or.inl rfl)
  | [], _ :: _ => Or.inl rfl
  | _ :: _, [] => Or.inr (Or.inr rfl)
  | c :: r, d :: s => by
    simp only [Lib.compareBytes]
    split
    · exact Or.inl rfl
    · split
      · exact Or.inr (Or.inr rfl)
      · exact cmp_three r s
theorem less_cmp : ∀ (a b : List UInt8), Op.bytesLess a b = decide (lt a b)
  | [], [] => by decide
  | [], _ :: _ => by simp [Op.bytesLess, Lib.compareBytes, lt]
  | _ :: _, [] => by simp [Op.bytesLess, Lib.compareBytes, lt]
  | c :: r, d :: s => by
    have ih := less_cmp r s
    simp only [Op.bytesLess, Lib.compareBytes, ih, lt]
    by_cases h1 : c < d
    · simp [h1]
    · by_cases h2 : d < c
      · have : ¬ c = d := fun e => by subst e; exact h1 h2
        simp [h1, h2, this]
      · have e : c = d := UInt8.le_antisymm (UInt8.not_lt.1 h2) (UInt8.not_lt.1 h1)
        subst e
        simp
theorem lt_trans : ∀ {a b c : List UInt8}, lt a b → lt b c → lt a c
  | [], [], _, h, _ => by simp [lt, Lib.compareBytes] at h
  | [], _ :: _, [], _, h => by simp [lt, Lib.compareBytes] at h
  | [], _ :: _, _ :: _, _, _ => rfl
  | _ :: _, [], _, h, _ => by simp [lt, Lib.compareBytes] at h
  | _ :: _, _ :: _, [], _, h => by simp [lt, Lib.compareBytes] at h
  | x :: a, y :: b, z :: c, h1, h2 => by
    have ih := @lt_trans a b c
    unfold lt at *
    simp only [Lib.compareBytes] at *
    by_cases xy : x < y
    · by_cases yz : y < z
      · rw [if_pos (UInt8.lt_trans xy yz)]
      · rw [if_neg yz] at h2
        by_cases zy : z < y
        · rw [if_pos zy] at h2; simp at h2
        · have e : y = z := UInt8.le_antisymm (UInt8.not_lt.1 zy) (UInt8.not_lt.1 yz)
          subst e; rw [if_pos xy]
    · rw [if_neg xy] at h1
      by_cases yx : y < x
      · rw [if_pos yx] at h1; simp at h1
      · have e : x = y := UInt8.le_antisymm (UInt8.not_lt.1 yx) (UInt8.not_lt.1 xy)
        subst e
        rw [if_neg yx] at h1
        by_cases yz : x < z
        · rw [if_pos yz]
        · rw [if_neg yz] at h2 ⊢
          by_cases zy : z < x
          · rw [if_pos zy] at h2; simp at h2
          · rw [if_neg zy] at h2 ⊢
            exact ih h1 h2
theorem lt_irrefl (a : List UInt8) : ¬ lt a a := by unfold lt; rw [cmp_self]; decide
theorem lt_asymm {a b : List UInt8} (h : lt a b) : ¬ lt b a := fun e => lt_irrefl _ (lt_trans h e)
theorem lt_total (a b : List UInt8) : lt a b ∨ a = b ∨ lt b a := by
  rcases cmp_three a b with h | h | h
  · exact Or.inl h
  · exact Or.inr (Or.inl (cmp_zero h))
  · right; right; unfold lt; rw [cmp_swap, h]

/-- where a text stands in a list, and whether it is there -/
def find : List (List UInt8) → List UInt8 → Nat × Bool
  | [], _ => (0, false)
  | a :: l, s => if lt a s then ((find l s).1 + 1, (find l s).2) else (0, decide (a = s))
end Go.Proofs.YtmbpgjncioegdaaGreatDoor.M03
/-
  Plain mathematics for layer 6 (ents): entries by their names: lists alone. No condition but those that each theorem bears.
-/
namespace Go.Proofs.YtmbpgjncioegdaaGreatDoor.M06
open Go.Proofs.YtmbpgjncioegdaaGreatDoor.M03

abbrev Ent := List UInt8 × Int
/-- do names rise? -/
def right : List Ent → Bool
  | a :: b :: r => decide (lt a.1 b.1) && right (b :: r)
  | _ => true
def all (L : List Ent) : List Ent := if right L = true then L else []
def find : List Ent → List UInt8 → Int × Bool
  | [], _ => (0, false)
  | a :: r, s => if a.1 = s then (a.2, true) else find r s
def cutL (L : List Ent) (s : List UInt8) : List Ent := L.filter (fun a => decide (¬ a.1 = s))
def putL (L : List Ent) (e : Ent) : List Ent := (cutL L e.1).filter (fun a => decide (lt a.1 e.1)) ++ e :: (cutL L e.1).filter (fun a => decide (lt e.1 a.1))
def cut (L : List Ent) (s : List UInt8) : List Ent := cutL (all L) s
def put (L : List Ent) (e : Ent) : List Ent := putL (all L) e
def next : List Ent → List UInt8 → Ent × Bool
  | [], _ => (([], 0), false)
  | a :: r, s => if lt s a.1 then (a, true) else next r s
def names (L : List Ent) : List (List UInt8) := (all L).map (·.1)

theorem right_iff : ∀ L : List Ent, right L = true ↔ L.Pairwise (fun a b => lt a.1 b.1)
  | [] => by simp [right]
  | [a] => by simp [right]
  | a :: b :: r => by
    have ih := right_iff (b :: r)
    rw [right, Bool.and_eq_true, decide_eq_true_eq, ih, List.pairwise_cons (l := b :: r)]
    constructor
    · rintro ⟨h1, h2⟩
      refine ⟨fun x hx => ?_, h2⟩
      rcases List.mem_cons.1 hx with e | e
      · subst e; exact h1
      · rw [List.pairwise_cons] at h2; exact lt_trans h1 (h2.1 x e)
    · rintro ⟨h1, h2⟩
      exact ⟨h1 b (by simp), h2⟩
theorem right_all (L : List Ent) : right (all L) = true := by
  unfold all; split
  · assumption
  · rfl
theorem all_right {L : List Ent} (h : right L = true) : all L = L := by unfold all; rw [if_pos h]
theorem right_filter {L : List Ent} (p : Ent → Bool) (h : right L = true) : right (L.filter p) = true := (right_iff _).2 (((right_iff _).1 h).filter p)
theorem right_cut (L : List Ent) (s : List UInt8) : right (cut L s) = true := right_filter _ (right_all L)
theorem right_putL {L : List Ent} (e : Ent) (h : right L = true) : right (putL L e) = true := by
  rw [right_iff]
  have hc := (right_iff _).1 (right_filter (fun a => decide (¬ a.1 = e.1)) h)
  unfold putL cutL
  rw [List.pairwise_append, List.pairwise_cons]
  refine ⟨hc.filter _, ⟨fun b hb => ?_, hc.filter _⟩, fun a ha b hb => ?_⟩
  · have := (List.mem_filter.1 hb).2; simpa using this
  · have h1 : lt a.1 e.1 := by have := (List.mem_filter.1 ha).2; simpa using this
    rcases List.mem_cons.1 hb with e1 | e1
    · subst e1; exact h1
    · have h2 : lt e.1 b.1 := by have := (List.mem_filter.1 e1).2; simpa using this
      exact lt_trans h1 h2
theorem right_put (L : List Ent) (e : Ent) : right (put L e) = true := right_putL e (right_all L)
theorem right_fold : ∀ (L out : List Ent), right out = true → right (L.foldl put out) = true
  | [], _, h => h
  | x :: L, out, _ => right_fold L (put out x) (right_put out x)
theorem find_not : ∀ {L : List Ent} {s : List UInt8}, (∀ x ∈ L, ¬ x.1 = s) → find L s = (0, false)
  | [], _, _ => rfl
  | a :: r, s, h => by rw [find, if_neg (h a (by simp)), find_not (fun x hx => h x (by simp [hx]))]
/-! step by step -/
theorem right_step {L : List Ent} {k : Nat} (h : k + 1 < L.length) : right (L.drop k) = (decide (lt (L[k]'(by omega)).1 (L[k + 1]).1) && right (L.drop (k + 1))) := by
  rw [List.drop_eq_getElem_cons (by omega), List.drop_eq_getElem_cons h, right]
theorem right_last {L : List Ent} {k : Nat} (h : ¬ k + 1 < L.length) : right (L.drop k) = true := by
  have : (L.drop k).length ≤ 1 := by rw [List.length_drop]; omega
  match L.drop k, this with
  | [], _ => rfl
  | [a], _ => rfl
theorem take_at {L : List Ent} {k : Nat} (h : k < L.length) : L.take (k + 1) = L.take k ++ [L[k]] := List.take_succ_eq_append_getElem h
theorem putL_len (L : List Ent) (e : Ent) : (putL L e).length ≤ L.length + 1 := by
  unfold putL
  have h0 : (cutL L e.1).length ≤ L.length := List.length_filter_le _ _
  have h1 : ∀ M : List Ent, (M.filter (fun a => decide (lt a.1 e.1))).length + (M.filter (fun a => decide (lt e.1 a.1))).length ≤ M.length := by
    intro M
    induction M with
    | nil => simp
    | cons a M ih =>
      by_cases h : lt a.1 e.1
      · rw [List.filter_cons_of_pos (by simpa using h), List.filter_cons_of_neg (by simpa using lt_asymm h)]
        simp only [List.length_cons]; omega
      · rw [List.filter_cons_of_neg (by simpa using h)]
        have := List.filter_cons (p := fun (b : Ent) => decide (lt e.1 b.1)) (x := a) (xs := M)
        rw [this]
        split <;> simp only [List.length_cons] <;> omega
  have := h1 (cutL L e.1)
  simp only [List.length_append, List.length_cons]; omega
theorem all_len (L : List Ent) : (all L).length ≤ L.length := by unfold all; split <;> simp
theorem put_len (L : List Ent) (e : Ent) : (put L e).length ≤ L.length + 1 := by
  have := putL_len (all L) e; have := all_len L; unfold put; omega
theorem cut_len (L : List Ent) (s : List UInt8) : (cut L s).length ≤ L.length := Nat.le_trans (List.length_filter_le _ _) (all_len L)
theorem fold_len : ∀ (L out : List Ent), (L.foldl put out).length ≤ out.length + L.length
  | [], out => by simp
  | x :: L, out => by
    have h1 := fold_len L (put out x); have h2 := put_len out x
    rw [List.foldl_cons, List.length_cons]; omega
end Go.Proofs.YtmbpgjncioegdaaGreatDoor.M06
/-
  Plain mathematics for layer 7 (tree): nodes by their numbers, what acts come to; lists alone. No condition but those that each theorem bears.
-/
namespace Go.Proofs.YtmbpgjncioegdaaGreatDoor.M07
open Go.Proofs.YtmbpgjncioegdaaGreatDoor.M03 (check)
open Go.Proofs.YtmbpgjncioegdaaGreatDoor.M06 (Ent)

abbrev Bytes := List UInt8
structure Nd where
  num : Int
  up : Int
  name : Bytes
  kind : Int
  data : Bytes
deriving DecidableEq
structure Tr where
  L : List Nd
  last : Int
def zero : Nd := ⟨0, 0, [], 0, []⟩
def new : Tr := ⟨[⟨1, 1, [], 1, []⟩], 1⟩
/-- a node by its number -/
def nodeAt : List Nd → Int → Nd
  | [], _ => zero
  | a :: r, n => if a.num = n then a else nodeAt r n
/-- the node of a name in a directory -/
def inDir : List Nd → Int → Bytes → Int
  | [], _, _ => 0
  | a :: r, d, s => if a.up = d ∧ a.name = s ∧ a.num ≠ 1 then a.num else inDir r d s
def stands (d : Int) (a : Nd) : Bool := decide (a.up = d) && decide (a.num ≠ 1)
def entOf (a : Nd) : Ent := (a.name, a.num)
/-- a directory's entries -/
def listDir (L : List Nd) (d : Int) : List Ent := ((L.filter (stands d)).map entOf).foldl M06.put []
def dirErr (L : List Nd) (n : Int) : Int := if (nodeAt L n).kind = 0 then 5 else if (nodeAt L n).kind = 1 then 0 else 7
def mayErr (kind : Int) (data : Bytes) : Int :=
  if kind < 1 ∨ 3 < kind then 2 else if (kind = 1 ∧ data ≠ []) ∨ (kind = 3 ∧ data = []) then 3 else if 65536 < data.length then 4 else 0
def putErr (t : Tr) (d : Int) (name : Bytes) (kind : Int) (data : Bytes) : Int :=
  if dirErr t.L d ≠ 0 then dirErr t.L d else if check name ≠ 0 then check name else if 0 < inDir t.L d name then 6 else if mayErr kind data ≠ 0 then mayErr kind data else if 4096 ≤ t.L.length then 12 else 0
def put (t : Tr) (d : Int) (name : Bytes) (kind : Int) (data : Bytes) : Tr × Int × Int :=
  if putErr t d name kind data ≠ 0 then (t, 0, putErr t d name kind data) else (⟨t.L ++ [⟨t.last + 1, d, name, kind, data⟩], t.last + 1⟩, t.last + 1, 0)
def withNode (t : Tr) (x : Nd) : Tr := ⟨t.L.map (fun a => if a.num = x.num then x else a), t.last⟩
def set (t : Tr) (n : Int) (data : Bytes) : Tr × Int :=
  if (nodeAt t.L n).kind = 0 then (t, 5) else if (nodeAt t.L n).kind = 1 then (t, 8) else if mayErr (nodeAt t.L n).kind data ≠ 0 then (t, mayErr (nodeAt t.L n).kind data) else (withNode t { nodeAt t.L n with data := data }, 0)
def cut (t : Tr) (d : Int) (name : Bytes) : Tr × Int :=
  if dirErr t.L d ≠ 0 then (t, dirErr t.L d) else if inDir t.L d name = 0 then (t, 5) else if listDir t.L (inDir t.L d name) ≠ [] then (t, 9) else (⟨t.L.filter (fun a => decide (a.num ≠ inDir t.L d name)), t.last⟩, 0)

theorem at_here {L : List Nd} {n : Int} {k : Nat} (hk : k < L.length) (h : (L[k]).num = n) : nodeAt (L.drop k) n = L[k] := by
  rw [List.drop_eq_getElem_cons hk, nodeAt, if_pos h]
theorem at_on {L : List Nd} {n : Int} {k : Nat} (hk : k < L.length) (h : ¬ (L[k]).num = n) : nodeAt (L.drop k) n = nodeAt (L.drop (k + 1)) n := by
  rw [List.drop_eq_getElem_cons hk, nodeAt, if_neg h]
theorem at_end {L : List Nd} {n : Int} {k : Nat} (hk : ¬ k < L.length) : nodeAt (L.drop k) n = zero := by rw [List.drop_of_length_le (by omega)]; rfl
theorem in_here {L : List Nd} {d : Int} {s : Bytes} {k : Nat} (hk : k < L.length) (h : (L[k]).up = d ∧ (L[k]).name = s ∧ (L[k]).num ≠ 1) : inDir (L.drop k) d s = (L[k]).num := by
  rw [List.drop_eq_getElem_cons hk, inDir, if_pos h]
theorem in_on {L : List Nd} {d : Int} {s : Bytes} {k : Nat} (hk : k < L.length) (h : ¬ ((L[k]).up = d ∧ (L[k]).name = s ∧ (L[k]).num ≠ 1)) : inDir (L.drop k) d s = inDir (L.drop (k + 1)) d s := by
  rw [List.drop_eq_getElem_cons hk, inDir, if_neg h]
theorem in_end {L : List Nd} {d : Int} {s : Bytes} {k : Nat} (hk : ¬ k < L.length) : inDir (L.drop k) d s = 0 := by rw [List.drop_of_length_le (by omega)]; rfl
theorem list_in {L : List Nd} {d : Int} {k : Nat} (hk : k < L.length) (h : stands d L[k] = true) : listDir (L.take (k + 1)) d = M06.put (listDir (L.take k) d) (entOf L[k]) := by
  unfold listDir
  rw [List.take_succ_eq_append_getElem hk, List.filter_append, List.map_append, List.foldl_append]
  simp [h]
theorem list_out {L : List Nd} {d : Int} {k : Nat} (hk : k < L.length) (h : stands d L[k] = false) : listDir (L.take (k + 1)) d = listDir (L.take k) d := by
  unfold listDir
  rw [List.take_succ_eq_append_getElem hk, List.filter_append, List.map_append, List.foldl_append]
  simp [h]
theorem list_len (L : List Nd) (d : Int) : (listDir L d).length ≤ L.length := by
  unfold listDir
  have h1 := M06.fold_len ((L.filter (stands d)).map entOf) []
  have h2 : (L.filter (stands d)).length ≤ L.length := List.length_filter_le _ _
  rw [List.length_map] at h1
  simp at h1; omega
end Go.Proofs.YtmbpgjncioegdaaGreatDoor.M07
