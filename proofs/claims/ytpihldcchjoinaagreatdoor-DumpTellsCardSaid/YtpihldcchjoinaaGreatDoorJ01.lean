/-
  Texts joined, in build order, each with its own comment and its own conditions: Strs, Recs, OpenRecs, Kit, W03Math, W06Math, W07Math, W07Right.
-/
import Derived.WalkKit
import Derived.Below
import Derived.Laws.OwnMore
import Derived.Deep.AppendLies
import Derived.Deep.Draws
import Derived.Lib.Strings
import Derived.Lib.Hide
import Derived.ProofKit
import Derived.Deep.SlicePairs
import Derived.Lib.SmallJoins
import Derived.SizedLaws
import Derived.Deep.QuietTactic
import Derived.Laws.BytesArg
import Derived.Lib.Bytealg
import Derived.Laws.Strings
/-
  Slices of strings: when a slice value reads as a list of texts in a world, how the reading is kept by what a call lays and writes, and what a row of the call's own gives. Plain lemmas on worlds, for every program; no condition but those that each theorem bears.
-/
namespace Go.Proofs.YtpihldcchjoinaaGreatDoor.Strs
open Go Go.RowKit

theorem block_add (a : Addr) (n : Nat) : (a.add n).block = a.block := by unfold Addr.add; split <;> rfl
/-- a text's value -/
def strV (l : List UInt8) : Value := .string ⟨l.toArray⟩
/-- The slice value v reads as the texts L, below block B. -/
def Texts (B : Nat) (w : World) (v : Value) (L : List (List UInt8)) : Prop :=
  ∃ (A : Option Addr) (c : Nat), v = .slice A L.length c ∧ L.length ≤ c ∧ c ≤ maxLen ∧
    (0 < L.length → ∃ ad, A = some ad ∧ ad.block < B ∧ ∀ k, k < L.length → w.cell? (ad.add k) = some (strV (L.getD k [])))
section
variable {B B' : Nat} {w w' : World} {v : Value} {L : List (List UInt8)}
theorem Texts.keep (h : Texts B w v L) (hk : ∀ p : Addr, p.block < B → w'.cell? p = w.cell? p) : Texts B w' v L := by
  obtain ⟨A, c, e, h1, h2, h3⟩ := h
  exact ⟨A, c, e, h1, h2, fun hn => by
    obtain ⟨ad, e2, hb, hc⟩ := h3 hn
    exact ⟨ad, e2, hb, fun k hk2 => (hk _ (by rw [block_add]; exact hb)).trans (hc k hk2)⟩⟩
theorem Texts.more (h : Texts B w v L) (hB : B ≤ B') : Texts B' w v L := by
  obtain ⟨A, c, e, h1, h2, h3⟩ := h
  exact ⟨A, c, e, h1, h2, fun hn => by
    obtain ⟨ad, e2, hb, hc⟩ := h3 hn
    exact ⟨ad, e2, by omega, hc⟩⟩
theorem Texts.below (h : Texts B w v L) (hb : Below B w w') : Texts B w' v L := h.keep fun _ hp => hb.cell hp
theorem Texts.alloc (h : Texts B w v L) (hB : B ≤ w.heap.size) (o : Obj) : Texts B (w.alloc o) v L := h.keep fun p hp => World.cell?_alloc_lt w o p (by omega)
theorem Texts.drewN (h : Texts B w v L) (k : Nat) : Texts B (w.drewN k) v L := h
theorem Texts.len (h : Texts B w v L) : L.length ≤ maxLen := by
  obtain ⟨A, c, e, h1, h2, h3⟩ := h
  omega
/-- the value, written out -/
theorem Texts.form (h : Texts B w v L) : ∃ A c, v = .slice A L.length c ∧ L.length ≤ c ∧ c ≤ maxLen := by
  obtain ⟨A, c, e, h1, h2, h3⟩ := h
  exact ⟨A, c, e, h1, h2⟩
/-- the cell at a place -/
theorem Texts.at_ {A : Option Addr} {n c : Nat} (h : Texts B w (.slice A n c) L) {k : Nat} (hk : k < n) : ∃ ad s, A = some ad ∧ ad.block < B ∧ w.cell? (ad.add k) = some (.string s) ∧ s.data.toList = L.getD k [] := by
  obtain ⟨A', c', e, h1, h2, h3⟩ := h
  injection e with e1 e2 e3
  subst e1 e2 e3
  obtain ⟨ad, e2, hb, hc⟩ := h3 (by omega)
  exact ⟨ad, _, e2, hb, hc k hk, rfl⟩
theorem Texts.count {A : Option Addr} {n c : Nat} (h : Texts B w (.slice A n c) L) : n = L.length ∧ n ≤ c ∧ c ≤ maxLen := by
  obtain ⟨A', c', e, h1, h2, h3⟩ := h
  injection e with e1 e2 e3
  subst e1 e2 e3
  exact ⟨rfl, h1, h2⟩
theorem texts_nil (B : Nat) (w : World) : Texts B w (.slice none 0 0) [] := ⟨none, 0, rfl, Nat.le_refl _, Nat.zero_le _, fun h => absurd h (by simp)⟩
/-- a row of the call's own -/
theorem Texts.of_own {base : Nat} {e : TypeId} {n : Nat} (h : w.ownsRow base e 1 v n (L.map strV)) : Texts w.heap.size w v L := by
  have hl : n = L.length := by have := h.1; simpa using this.symm
  subst hl
  rcases h.2 with ⟨rfl, h0⟩ | ⟨g, cap, cur, rfl, hg, hh, hn, hcap, hsz, htk⟩
  · have : L = [] := by simpa using h0
    subst this
    exact texts_nil _ _
  · refine ⟨_, _, rfl, by omega, by omega, fun hn0 => ⟨_, rfl, ?_, fun k hk => ?_⟩⟩
    · rcases Nat.lt_or_ge g w.heap.size with hlt | hge
      · exact hlt
      · rw [Array.getElem?_eq_none hge] at hh; cases hh
    · have := h.cells (g := g) rfl k (strV (L.getD k [])) (by rw [List.getElem?_map, List.getElem?_eq_getElem hk]; simp [hk])
      exact this
end
end Go.Proofs.YtpihldcchjoinaaGreatDoor.Strs
/-
  Slices of records: when a slice value reads as a list of records (each so many cells) in a world, how the reading is kept by what a call lays and writes, and what a row of the call's own gives. Plain lemmas on worlds, for every program; no condition but those that each theorem bears.
-/
namespace Go.Proofs.YtpihldcchjoinaaGreatDoor.Recs
open Go Go.RowKit
open Go.Proofs.YtpihldcchjoinaaGreatDoor.Strs (block_add strV)

/-- The slice value v reads as the records L, each of sz cells, below block B. -/
def Recs {α : Type} (enc : α → List Value) (sz : Nat) (B : Nat) (w : World) (v : Value) (L : List α) : Prop :=
  ∃ (A : Option Addr) (c : Nat), v = .slice A L.length c ∧ L.length ≤ c ∧ c ≤ maxLen ∧
    (0 < L.length → ∃ ad, A = some ad ∧ ad.block < B ∧ ∀ k (h : k < L.length) j, j < sz → w.cell? (ad.add (k * sz + j)) = (enc L[k])[j]?)
section
variable {α : Type} {enc : α → List Value} {sz B B' : Nat} {w w' : World} {v : Value} {L : List α}
theorem Recs.keep (h : Recs enc sz B w v L) (hk : ∀ p : Addr, p.block < B → w'.cell? p = w.cell? p) : Recs enc sz B w' v L := by
  obtain ⟨A, c, e, h1, h2, h3⟩ := h
  exact ⟨A, c, e, h1, h2, fun hn => by
    obtain ⟨ad, e2, hb, hc⟩ := h3 hn
    exact ⟨ad, e2, hb, fun k hk2 j hj => (hk _ (by rw [block_add]; exact hb)).trans (hc k hk2 j hj)⟩⟩
theorem Recs.more (h : Recs enc sz B w v L) (hB : B ≤ B') : Recs enc sz B' w v L := by
  obtain ⟨A, c, e, h1, h2, h3⟩ := h
  exact ⟨A, c, e, h1, h2, fun hn => by
    obtain ⟨ad, e2, hb, hc⟩ := h3 hn
    exact ⟨ad, e2, by omega, hc⟩⟩
theorem Recs.below (h : Recs enc sz B w v L) (hb : Below B w w') : Recs enc sz B w' v L := h.keep fun _ hp => hb.cell hp
theorem Recs.alloc (h : Recs enc sz B w v L) (hB : B ≤ w.heap.size) (o : Obj) : Recs enc sz B (w.alloc o) v L := h.keep fun p hp => World.cell?_alloc_lt w o p (by omega)
theorem Recs.drewN (h : Recs enc sz B w v L) (k : Nat) : Recs enc sz B (w.drewN k) v L := h
theorem Recs.len (h : Recs enc sz B w v L) : L.length ≤ maxLen := by
  obtain ⟨A, c, e, h1, h2, h3⟩ := h
  omega
theorem Recs.form (h : Recs enc sz B w v L) : ∃ A c, v = .slice A L.length c ∧ L.length ≤ c ∧ c ≤ maxLen := by
  obtain ⟨A, c, e, h1, h2, h3⟩ := h
  exact ⟨A, c, e, h1, h2⟩
theorem Recs.at_ {A : Option Addr} {n c : Nat} (h : Recs enc sz B w (.slice A n c) L) {k : Nat} (hk : k < n) : ∃ (ad : Addr) (hl : k < L.length), A = some ad ∧ ad.block < B ∧ ∀ j, j < sz → w.cell? (ad.add (k * sz + j)) = (enc L[k])[j]? := by
  obtain ⟨A', c', e, h1, h2, h3⟩ := h
  injection e with e1 e2 e3
  subst e1 e2 e3
  obtain ⟨ad, e2, hb, hc⟩ := h3 (by omega)
  exact ⟨ad, hk, e2, hb, hc k hk⟩
/-- the same, by plain addresses -/
theorem Recs.flat_ {A : Option Addr} {n c : Nat} (h : Recs enc sz B w (.slice A n c) L) (he : ∀ x : α, (enc x).length = sz) (h0 : 0 < sz) {k : Nat} (hk : k < n) : ∃ (b o : Nat) (hl : k < L.length), A = some ⟨b, o, none⟩ ∧ b < B ∧ ∀ j, j < sz → w.cell? ⟨b, o + k * sz + j, none⟩ = (enc L[k])[j]? := by
  obtain ⟨ad, hl, rfl, hb, hc⟩ := h.at_ hk
  obtain ⟨b, o, sp⟩ := ad
  have hsp : sp = none := by
    obtain ⟨ad2, hl2, e2, -, hc2⟩ := h.at_ (k := 0) (by omega)
    cases e2
    have := hc2 0 h0
    rw [List.getElem?_eq_getElem (by rw [he]; exact h0)] at this
    simpa [Addr.add] using World.cell?_spot this
  subst hsp
  refine ⟨b, o, hl, rfl, hb, fun j hj => ?_⟩
  have := hc j hj
  rw [show (⟨b, o, none⟩ : Addr).add (k * sz + j) = ⟨b, o + k * sz + j, none⟩ by unfold Addr.add; split <;> simp_all <;> omega] at this
  exact this
theorem recs_nil (enc : α → List Value) (sz B : Nat) (w : World) : Recs enc sz B w (.slice none 0 0) [] := ⟨none, 0, rfl, Nat.le_refl _, Nat.zero_le _, fun h => absurd h (by simp)⟩
theorem flat_at (he : ∀ x : α, (enc x).length = sz) : ∀ (L : List α) (k : Nat) (h : k < L.length) (j : Nat), j < sz → (L.flatMap enc)[k * sz + j]? = (enc L[k])[j]?
  | [], k, h, _, _ => by simp at h
  | x :: L, 0, h, j, hj => by
    rw [List.flatMap_cons, Nat.zero_mul, Nat.zero_add, List.getElem?_append_left (by rw [he]; exact hj)]; rfl
  | x :: L, k + 1, h, j, hj => by
    rw [List.flatMap_cons, List.getElem?_append_right (by rw [he, Nat.succ_mul]; omega), he]
    have := flat_at he L k (by simpa using h) j hj
    rw [show (k + 1) * sz + j - sz = k * sz + j by rw [Nat.succ_mul]; omega, this]; rfl
theorem flat_len (he : ∀ x : α, (enc x).length = sz) (L : List α) : (L.flatMap enc).length = L.length * sz := by
  induction L with
  | nil => simp
  | cons x L ih => rw [List.flatMap_cons, List.length_append, ih, he, List.length_cons, Nat.succ_mul]; omega
/-- a row of the call's own -/
theorem Recs.of_own (he : ∀ x : α, (enc x).length = sz) {base : Nat} {e : TypeId} {n : Nat} (hn : n = L.length) (h : w.ownsRow base e sz v n (L.flatMap enc)) : Recs enc sz w.heap.size w v L := by
  subst hn
  rcases h.2 with ⟨rfl, h0⟩ | ⟨g, cap, cur, rfl, hg, hh, hn, hcap, hsz, htk⟩
  · have : L = [] := List.length_eq_zero_iff.1 h0
    subst this
    exact recs_nil _ _ _ _
  · refine ⟨_, _, rfl, by omega, by omega, fun hn0 => ⟨_, rfl, ?_, fun k hk j hj => ?_⟩⟩
    · rcases Nat.lt_or_ge g w.heap.size with hlt | hge
      · exact hlt
      · rw [Array.getElem?_eq_none hge] at hh; cases hh
    · have hf := flat_at he L k hk j hj
      have hlt : j < (enc L[k]).length := by rw [he]; exact hj
      rw [List.getElem?_eq_getElem hlt] at hf ⊢
      have := h.cells (g := g) rfl (k * sz + j) ((enc L[k])[j]) hf
      exact this
theorem Recs.other {g o n c : Nat} (h : Recs enc sz B w (.slice (some ⟨g, o, none⟩) n c) L) (hk : ∀ p : Addr, p.block = g → w'.cell? p = w.cell? p) : Recs enc sz B w' (.slice (some ⟨g, o, none⟩) n c) L := by
  obtain ⟨A, c', e, h1, h2, h3⟩ := h
  injection e with e1 e2 e3
  subst e1 e2 e3
  exact ⟨_, _, rfl, h1, h2, fun hn => by
    obtain ⟨ad, e2, hb, hc⟩ := h3 hn
    cases e2
    exact ⟨_, rfl, hb, fun k hk2 j hj => (hk _ (by rw [block_add])).trans (hc k hk2 j hj)⟩⟩
/-- all the cells of a slice of records, one by one -/
theorem Recs.news {A : Option Addr} {n c : Nat} (h : Recs enc sz B w (.slice A n c) L) (he : ∀ x : α, (enc x).length = sz) (h0 : 0 < sz) (hn : 0 < n) : ∃ b o : Nat, A = some ⟨b, o, none⟩ ∧ b < B ∧ ∀ j u, (L.flatMap enc)[j]? = some u → w.cell? ((⟨b, o, none⟩ : Addr).add j) = some u := by
  obtain ⟨b, o, hl0, rfl, hb, -⟩ := h.flat_ he h0 hn
  have hln : n = L.length := by obtain ⟨A', c', e, _⟩ := h; injection e
  refine ⟨b, o, rfl, hb, fun j u hj => ?_⟩
  have hjl : j < L.length * sz := by
    rw [← flat_len he L]
    rcases Nat.lt_or_ge j (L.flatMap enc).length with hlt | hge
    · exact hlt
    · rw [List.getElem?_eq_none hge] at hj; cases hj
  have hk : j / sz < n := by rw [hln]; exact (Nat.div_lt_iff_lt_mul h0).2 hjl
  obtain ⟨b', o', hl, e, -, hc⟩ := h.flat_ he h0 hk
  cases e
  have hi : j % sz < sz := Nat.mod_lt _ h0
  have h1 := hc (j % sz) hi
  have h2 := flat_at he L (j / sz) hl (j % sz) hi
  have e2 : j / sz * sz + j % sz = j := by rw [Nat.mul_comm]; exact Nat.div_add_mod j sz
  rw [e2, hj] at h2
  rw [show (⟨b, o, none⟩ : Addr).add j = ⟨b, o + j / sz * sz + j % sz, none⟩ by unfold Addr.add; split <;> simp_all <;> omega]
  rw [h1, ← h2]
end
/-- the cells of a block just laid -/
theorem cells_new (w : World) (cs : List Value) (t : TypeId) : ∀ j u, cs[j]? = some u → (w.alloc (.cells cs.toArray t)).cell? ((⟨w.heap.size, 0, none⟩ : Addr).add j) = some u := by
  intro j u hj
  have hadd : (⟨w.heap.size, 0, none⟩ : Addr).add j = ⟨w.heap.size, j, none⟩ := by unfold Addr.add; split <;> simp_all
  rw [hadd]
  simp [hj]
end Go.Proofs.YtpihldcchjoinaaGreatDoor.Recs
/-
  An argument that is a slice of records, opened: it reads as a list of records below the heap's size, where each element's cells read as a record. For every program; the conditions stand in the statement.
-/
namespace Go.Proofs.YtpihldcchjoinaaGreatDoor.Recs
open Go Go.RowKit Go.ChangeShapes Go.WideShapes Go.Deep
open Go.Proofs.YtpihldcchjoinaaGreatDoor.Strs (strV)

theorem choose_list {α : Type} {P : Nat → α → Prop} : ∀ n : Nat, (∀ i, i < n → ∃ x, P i x) → ∃ L : List α, L.length = n ∧ ∀ i (h : i < L.length), P i L[i]
  | 0, _ => ⟨[], rfl, fun i h => by simp at h⟩
  | n + 1, h => by
    obtain ⟨L, hl, hL⟩ := choose_list n (fun i hi => h i (by omega))
    obtain ⟨x, hx⟩ := h n (by omega)
    refine ⟨L ++ [x], by rw [List.length_append, hl]; rfl, fun i hi => ?_⟩
    rcases Nat.lt_or_ge i L.length with h1 | h1
    · rw [List.getElem_append_left h1]; exact hL i h1
    · have : i = L.length := by rw [List.length_append] at hi; simp at hi; omega
      subst this
      rw [List.getElem_append_right (Nat.le_refl _)]
      simp only [Nat.sub_self, List.getElem_cons_zero]
      rw [hl]; exact hx
theorem open_recs {α : Type} {encA : α → List Value} {sz : Nat} {Q : α → Prop} {H : Type} {enc : TypeId × Value → H} {P : Program} {W : World} {base : Nat} {t e : TypeId} {v : Value} {d : DataW H} {p : List MemPlace}
    (ht : P.underlying t = some (.slice e)) (hc : P.cellsOf e = sz) (h0 : 0 < sz)
    (hel : ∀ (n : Nat) (cs : List Value) (x : DataW H × List MemPlace), cs.length = sz → DataW.trod enc P W 0 (fun _ => true) true n e cs = some x → ∃ r : α, cs = encA r ∧ Q r)
    (hok : Value.okWide P W .any base t v) (h : DataW.Trod enc P W 0 (fun _ => true) true t v d p) (hlt : ∀ x ∈ p, x.block < W.heap.size) :
    ∃ L : List α, Recs encA sz W.heap.size W v L ∧ ∀ r ∈ L, Q r := by
  obtain ⟨a0, len, cap, rfl⟩ := okWide_slice ht hok
  obtain ⟨fuel, hf⟩ := h
  rcases open_slice ht hf with ⟨hcs, hx⟩ | ⟨a, len', cap', m, n, D, Pl, hcs, _, hl, hm, hz, hx, hi⟩
  · simp [Value.cells] at hcs
    obtain ⟨rfl, rfl, rfl⟩ := hcs
    exact ⟨[], recs_nil _ _ _ _, fun r hr => by simp at hr⟩
  · simp [Value.cells] at hcs
    obtain ⟨rfl, rfl, rfl⟩ := hcs
    simp only [Prod.mk.injEq] at hx
    obtain ⟨rfl, rfl⟩ := hx
    simp only [if_true] at hz
    subst hz
    have each : ∀ i, i < len → ∃ r : α, (∀ j, j < sz → W.cell? (a.add (i * sz + j)) = (encA r)[j]?) ∧ Q r := by
      intro i hi2
      obtain ⟨cs', h1, h2⟩ := hi i (by omega)
      rw [hc] at h1
      obtain ⟨_, hlen, hcell⟩ := World.cells?_some h1
      obtain ⟨r, hr, hq⟩ := hel _ _ _ hlen h2
      refine ⟨r, fun j hj => ?_, hq⟩
      have := hcell j hj
      rw [hr, Go.Deep.add_add] at this
      exact this
    obtain ⟨L, hL, hP⟩ := choose_list len each
    refine ⟨L, ⟨some a, m, by rw [hL], by rw [hL]; exact hl, hm, fun hn => ⟨a, rfl, ?_, fun k hk j hj => (hP k hk).1 j hj⟩⟩, fun r hr => ?_⟩
    · rw [hL] at hn
      obtain ⟨b, off, spot⟩ := a
      refine hlt (.cell b off) (List.mem_append_left _ (MemPlace.mem_row.2 ⟨0, ?_, by simp⟩))
      rw [hc]
      exact Nat.mul_pos (by omega) h0
    · obtain ⟨i, hi2, e⟩ := List.getElem_of_mem hr
      rw [← e]; exact (hP i hi2).2
end Go.Proofs.YtpihldcchjoinaaGreatDoor.Recs
/-
  Plain lemmas that walks over texts use: a text's bytes, cuts, sums, emptiness in the walk's spelling; what a call returns; draws. No condition but those that each theorem bears.
-/
namespace Go.Proofs.YtpihldcchjoinaaGreatDoor.Kit
open Go Go.RowKit

theorem ret_int {k : IntKind} {a b : Int} (h : a = b) : Ending.returned (.int k a) = .returned (.int k b) := by rw [h]
theorem ret_bool {a b : Bool} (h : a = b) : Ending.returned (.bool a) = .returned (.bool b) := by rw [h]
theorem ret_str {a b : ByteArray} (h : a = b) : Ending.returned (.string a) = .returned (.string b) := by rw [h]
theorem mk_bytes (t : ByteArray) : (⟨t.data.toList.toArray⟩ : ByteArray) = t := by obtain ⟨⟨l⟩⟩ := t; rfl
theorem mk_of {d : ByteArray} {l : List UInt8} (h : d.data.toList = l) : (⟨l.toArray⟩ : ByteArray) = d := by rw [← h, mk_bytes]
theorem ba_ext {a b : ByteArray} (h : a.data.toList = b.data.toList) : a = b := by rw [← mk_bytes a, h, mk_bytes b]
theorem bytes_nil {t : ByteArray} (h : ¬ 0 < t.size) : t.data.toList = [] := List.length_eq_zero_iff.1 (by rw [← Lib.size_eq]; omega)
theorem bytes_cons {t : ByteArray} (h : 0 < t.size) : t.data.toList = t[0] :: (t.extract 1 t.size).data.toList := by
  rw [Lib.extract_data]
  have h2 : 0 < t.data.toList.length := by rw [← Lib.size_eq]; exact h
  rw [List.take_of_length_le (by rw [List.length_drop, ← Lib.size_eq]; omega)]
  conv => lhs; rw [← List.drop_zero (l := t.data.toList), List.drop_eq_getElem_cons h2]
  rfl
theorem bytes_ne {s : ByteArray} (h : 0 < s.size) : s.data.toList ≠ [] := by rw [bytes_cons h]; simp
theorem byte_get (s : ByteArray) (k : Nat) (h : k < s.size) : s.data.toList.getD k 0 = s[k] := by
  have h2 : k < s.data.toList.length := by rw [← Lib.size_eq]; exact h
  rw [List.getD_eq_getElem?_getD, List.getElem?_eq_getElem h2]
  rfl
theorem cat_bytes (a b : ByteArray) : (a ++ b).data.toList = a.data.toList ++ b.data.toList := by
  rw [ByteArray.data_append, Array.toList_append]
theorem drop_bytes (s : ByteArray) (k : Nat) : (s.extract k s.size).data.toList = s.data.toList.drop k := by
  rw [Lib.extract_data, List.take_of_length_le (by rw [List.length_drop, ← Lib.size_eq]; exact Nat.le_refl _)]
theorem take_bytes (s : ByteArray) (k : Nat) : (s.extract 0 k).data.toList = s.data.toList.take k := by
  rw [Lib.extract_data, List.drop_zero]; rfl
theorem one_byte (s : ByteArray) (k : Nat) (h : k < s.size) : (s.extract k (k + 1)).data.toList = [s[k]] := by
  have h2 : k < s.data.toList.length := by rw [← Lib.size_eq]; exact h
  rw [Lib.extract_data, List.drop_eq_getElem_cons h2, show k + 1 - k = 1 by omega]
  rfl
theorem one_size (s : ByteArray) (k : Nat) (h : k < s.size) : (s.extract k (k + 1)).size = 1 := by rw [ByteArray.size_extract]; omega
theorem drop_next (s : ByteArray) (k : Nat) (h : k < s.size) : s.data.toList.drop k = s[k] :: s.data.toList.drop (k + 1) := by
  have h2 : k < s.data.toList.length := by rw [← Lib.size_eq]; exact h
  rw [List.drop_eq_getElem_cons h2]
  rfl
theorem drop_end (s : ByteArray) (k : Nat) (h : ¬ k < s.size) : s.data.toList.drop k = [] := by
  rw [List.drop_eq_nil_iff, ← Lib.size_eq]; omega
theorem take_next (s : ByteArray) (k : Nat) (h : k < s.size) : s.data.toList.take (k + 1) = s.data.toList.take k ++ [s[k]] := by
  have h2 : k < s.data.toList.length := by rw [← Lib.size_eq]; exact h
  rw [List.take_succ_eq_append_getElem h2]
  rfl
theorem take_end (s : ByteArray) (k : Nat) (h : ¬ k < s.size) : s.data.toList.take k = s.data.toList := by
  rw [List.take_of_length_le (by rw [← Lib.size_eq]; omega)]
theorem list_full {s : ByteArray} (h : 0 < s.size) : s.toList.isEmpty = false := by rw [Lib.toList_data, bytes_cons h]; rfl
theorem list_ne {s : ByteArray} (h : 0 < s.size) : ¬ s.toList = [] := by rw [Lib.toList_data, bytes_cons h]; simp
theorem list_none {s : ByteArray} (h : ¬ 0 < s.size) : s.toList.isEmpty = true := by rw [Lib.toList_data, bytes_nil h]; rfl
theorem list_nil {s : ByteArray} (h : ¬ 0 < s.size) : s.toList = [] := by rw [Lib.toList_data, bytes_nil h]
theorem head_of {s : ByteArray} (h : 0 < s.size) : s.data.toList.headD 0 = s[0] := by rw [bytes_cons h]; rfl
theorem byte_eq {c d : UInt8} (h : (c.toNat : Int) = (d.toNat : Int)) : c = d := UInt8.toNat_inj.1 (by omega)
theorem byte_ne {c d : UInt8} (h : ¬ (c.toNat : Int) = (d.toNat : Int)) : ¬ c = d := fun e => h (by rw [e])
theorem below_draws (w : World) (n : Nat) : Below w.heap.size w (w.drewN n) := ⟨rfl, rfl, rfl, Nat.le_refl _, fun _ _ => rfl⟩
theorem on {a b c : World} (h : Below a.heap.size a b) (k : Below b.heap.size b c) : Below a.heap.size a c := h.trans (k.mono h.size)
theorem one_num (x : Int) : (strOfNums [x]).data.toList = [UInt8.ofNat x.toNat] := rfl
end Go.Proofs.YtpihldcchjoinaaGreatDoor.Kit
/-
  Plain mathematics for layer 3 (name): which names may be, which are plain; an order of texts byte by byte; lists of texts that rise. Lists alone; no condition but those that each theorem bears.
-/
namespace Go.Proofs.YtpihldcchjoinaaGreatDoor.M03
open Go

def badByte (c : UInt8) : Bool := decide (c = 0) || decide (c = 47)
/-- a name's error -/
def check (l : List UInt8) : Int := if l.length = 0 then 5 else if 64 < l.length then 11 else if l.any badByte = true then 11 else if l = [46] ∨ l = [46, 46] then 6 else 0
def plainByte (c : UInt8) : Bool := (decide (97 ≤ c.toNat) && decide (c.toNat ≤ 122)) || (decide (65 ≤ c.toNat) && decide (c.toNat ≤ 90)) || (decide (48 ≤ c.toNat) && decide (c.toNat ≤ 57)) || decide (c = 46) || decide (c = 95) || decide (c = 43) || decide (c = 45)
/-- a plain name -/
def plain (l : List UInt8) : Bool := decide (check l = 0) && decide (l.headD 0 ≠ 45) && l.all plainByte
theorem plain_right {l : List UInt8} (h : plain l = true) : check l = 0 := by
  simp only [plain, Bool.and_eq_true, decide_eq_true_eq] at h; exact h.1.1

/-- a stands ahead of b -/
def lt (a b : List UInt8) : Prop := Lib.compareBytes a b = -1
instance (a b : List UInt8) : Decidable (lt a b) := by unfold lt; infer_instance
theorem cmp_self (a : List UInt8) : Lib.compareBytes a a = 0 := by
  induction a with
  | nil => rfl
  | cons c r ih => simp only [Lib.compareBytes, UInt8.lt_irrefl, if_false, ih]
theorem cmp_zero : ∀ {a b : List UInt8}, Lib.compareBytes a b = 0 → a = b
  | [], [], _ => rfl
  | [], _ :: _, h => by simp [Lib.compareBytes] at h
  | _ :: _, [], h => by simp [Lib.compareBytes] at h
  | c :: r, d :: s, h => by
    simp only [Lib.compareBytes] at h
    split at h
    · simp at h
    · split at h
      · simp at h
      · rename_i h1 h2
        have e : c = d := UInt8.le_antisymm (UInt8.not_lt.1 h2) (UInt8.not_lt.1 h1)
        rw [e, cmp_zero h]
theorem cmp_swap : ∀ (a b : List UInt8), Lib.compareBytes b a = -Lib.compareBytes a b
  | [], [] => rfl
  | [], _ :: _ => rfl
  | _ :: _, [] => rfl
  | c :: r, d :: s => by
    have ih := cmp_swap r s
    simp only [Lib.compareBytes]
    by_cases h1 : c < d
    · have h2 : ¬ d < c := UInt8.not_lt.2 (UInt8.le_of_lt h1)
      simp only [h1, h2, if_true, if_false]
      rfl
    · by_cases h2 : d < c
      · simp only [h1, h2, if_true, if_false]
      · simp only [h1, h2, if_false, ih]
theorem cmp_three : ∀ (a b : List UInt8), Lib.compareBytes a b = -1 ∨ Lib.compareBytes a b = 0 ∨ Lib.compareBytes a b = 1
  | [], [] => Or.inr (Or.inl rfl)
  | [], _ :: _ => Or.inl rfl
  | _ :: _, [] => Or.inr (Or.inr rfl)
  | c :: r, d :: s => by
    simp only [Lib.compareBytes]
    split
    · exact Or.inl rfl
    · split
      · exact Or.inr (Or.inr rfl)
      · exact cmp_three r s
theorem less_cmp : ∀ (a b : List UInt8), Op.bytesLess a b = decide (lt a b)
  | [], [] => by decide
  | [], _ :: _ => by simp [Op.bytesLess, Lib.compareBytes, lt]
  | _ :: _, [] => by simp [Op.bytesLess, Lib.compareBytes, lt]
  | c :: r, d :: s => by
    have ih := less_cmp r s
    simp only [Op.bytesLess, Lib.compareBytes, ih, lt]
    by_cases h1 : c < d
    · simp [h1]
    · by_cases h2 : d < c
      · have : ¬ c = d := fun e => by subst e; exact h1 h2
        simp [h1, h2, this]
      · have e : c = d := UInt8.le_antisymm (UInt8.not_lt.1 h2) (UInt8.not_lt.1 h1)
        subst e
        simp
theorem lt_trans : ∀ {a b c : List UInt8}, lt a b → lt b c → lt a c
  | [], [], _, h, _ => by simp [lt, Lib.compareBytes] at h
  | [], _ :: _, [], _, h => by simp [lt, Lib.compareBytes] at h
  | [], _ :: _, _ :: _, _, _ => rfl
  | _ :: _, [], _, h, _ => by simp [lt, Lib.compareBytes] at h
  | _ :: _, _ :: _, [], _, h => by simp [lt, Lib.compareBytes] at h
  | x :: a, y :: b, z :: c, h1, h2 => by
    have ih := @lt_trans a b c
    unfold lt at *
    simp only [Lib.compareBytes] at *
    by_cases xy : x < y
    · by_cases yz : y < z
      · rw [if_pos (UInt8.lt_trans xy yz)]
      · rw [if_neg yz] at h2
        by_cases zy : z < y
        · rw [if_pos zy] at h2; simp at h2
        · have e : y = z := UInt8.le_antisymm (UInt8.not_lt.1 zy) (UInt8.not_lt.1 yz)
          subst e; rw [if_pos xy]
    · rw [if_neg xy] at h1
      by_cases yx : y < x
      · rw [if_pos yx] at h1; simp at h1
      · have e : x = y := UInt8.le_antisymm (UInt8.not_lt.1 yx) (UInt8.not_lt.1 xy)
        subst e
        rw [if_neg yx] at h1
        by_cases yz : x < z
        · rw [if_pos yz]
        · rw [if_neg yz] at h2 ⊢
          by_cases zy : z < x
          · rw [if_pos zy] at h2; simp at h2
          · rw [if_neg zy] at h2 ⊢
            exact ih h1 h2
theorem lt_irrefl (a : List UInt8) : ¬ lt a a := by unfold lt; rw [cmp_self]; decide
theorem lt_asymm {a b : List UInt8} (h : lt a b) : ¬ lt b a := fun e => lt_irrefl _ (lt_trans h e)
theorem lt_total (a b : List UInt8) : lt a b ∨ a = b ∨ lt b a := by
  rcases cmp_three a b with h | h | h
  · exact Or.inl h
  · exact Or.inr (Or.inl (cmp_zero h))
  · right; right; unfold lt; rw [cmp_swap, h]

/-- where a text stands in a list, and whether it is there -/
def find : List (List UInt8) → List UInt8 → Nat × Bool
  | [], _ => (0, false)
  | a :: l, s => if lt a s then ((find l s).1 + 1, (find l s).2) else (0, decide (a = s))
end Go.Proofs.YtpihldcchjoinaaGreatDoor.M03
/-
  Plain mathematics for layer 6 (ents): entries by their names: lists alone. No condition but those that each theorem bears.
-/
namespace Go.Proofs.YtpihldcchjoinaaGreatDoor.M06
open Go.Proofs.YtpihldcchjoinaaGreatDoor.M03

abbrev Ent := List UInt8 × Int
/-- do names rise? -/
def right : List Ent → Bool
  | a :: b :: r => decide (lt a.1 b.1) && right (b :: r)
  | _ => true
def all (L : List Ent) : List Ent := if right L = true then L else []
def find : List Ent → List UInt8 → Int × Bool
  | [], _ => (0, false)
  | a :: r, s => if a.1 = s then (a.2, true) else find r s
def cutL (L : List Ent) (s : List UInt8) : List Ent := L.filter (fun a => decide (¬ a.1 = s))
def putL (L : List Ent) (e : Ent) : List Ent := (cutL L e.1).filter (fun a => decide (lt a.1 e.1)) ++ e :: (cutL L e.1).filter (fun a => decide (lt e.1 a.1))
def cut (L : List Ent) (s : List UInt8) : List Ent := cutL (all L) s
def put (L : List Ent) (e : Ent) : List Ent := putL (all L) e
def next : List Ent → List UInt8 → Ent × Bool
  | [], _ => (([], 0), false)
  | a :: r, s => if lt s a.1 then (a, true) else next r s
def names (L : List Ent) : List (List UInt8) := (all L).map (·.1)

theorem right_iff : ∀ L : List Ent, right L = true ↔ L.Pairwise (fun a b => lt a.1 b.1)
  | [] => by simp [right]
  | [a] => by simp [right]
  | a :: b :: r => by
    have ih := right_iff (b :: r)
    rw [right, Bool.and_eq_true, decide_eq_true_eq, ih, List.pairwise_cons (l := b :: r)]
    constructor
    · rintro ⟨h1, h2⟩
      refine ⟨fun x hx => ?_, h2⟩
      rcases List.mem_cons.1 hx with e | e
      · subst e; exact h1
      · rw [List.pairwise_cons] at h2; exact lt_trans h1 (h2.1 x e)
    · rintro ⟨h1, h2⟩
      exact ⟨h1 b (by simp), h2⟩
theorem right_all (L : List Ent) : right (all L) = true := by
  unfold all; split
  · assumption
  · rfl
theorem all_right {L : List Ent} (h : right L = true) : all L = L := by unfold all; rw [if_pos h]
theorem right_filter {L : List Ent} (p : Ent → Bool) (h : right L = true) : right (L.filter p) = true := (right_iff _).2 (((right_iff _).1 h).filter p)
theorem right_putL {L : List Ent} (e : Ent) (h : right L = true) : right (putL L e) = true := by
  rw [right_iff]
  have hc := (right_iff _).1 (right_filter (fun a => decide (¬ a.1 = e.1)) h)
  unfold putL cutL
  rw [List.pairwise_append, List.pairwise_cons]
  refine ⟨hc.filter _, ⟨fun b hb => ?_, hc.filter _⟩, fun a ha b hb => ?_⟩
  · have := (List.mem_filter.1 hb).2; simpa using this
  · have h1 : lt a.1 e.1 := by have := (List.mem_filter.1 ha).2; simpa using this
    rcases List.mem_cons.1 hb with e1 | e1
    · subst e1; exact h1
    · have h2 : lt e.1 b.1 := by have := (List.mem_filter.1 e1).2; simpa using this
      exact lt_trans h1 h2
theorem right_put (L : List Ent) (e : Ent) : right (put L e) = true := right_putL e (right_all L)
theorem right_fold : ∀ (L out : List Ent), right out = true → right (L.foldl put out) = true
  | [], _, h => h
  | x :: L, out, _ => right_fold L (put out x) (right_put out x)
theorem find_not : ∀ {L : List Ent} {s : List UInt8}, (∀ x ∈ L, ¬ x.1 = s) → find L s = (0, false)
  | [], _, _ => rfl
  | a :: r, s, h => by rw [find, if_neg (h a (by simp)), find_not (fun x hx => h x (by simp [hx]))]
/-! step by step -/
theorem right_step {L : List Ent} {k : Nat} (h : k + 1 < L.length) : right (L.drop k) = (decide (lt (L[k]'(by omega)).1 (L[k + 1]).1) && right (L.drop (k + 1))) := by
  rw [List.drop_eq_getElem_cons (by omega), List.drop_eq_getElem_cons h, right]
theorem right_last {L : List Ent} {k : Nat} (h : ¬ k + 1 < L.length) : right (L.drop k) = true := by
  have : (L.drop k).length ≤ 1 := by rw [List.length_drop]; omega
  match L.drop k, this with
  | [], _ => rfl
  | [a], _ => rfl
theorem take_at {L : List Ent} {k : Nat} (h : k < L.length) : L.take (k + 1) = L.take k ++ [L[k]] := List.take_succ_eq_append_getElem h
theorem putL_len (L : List Ent) (e : Ent) : (putL L e).length ≤ L.length + 1 := by
  unfold putL
  have h0 : (cutL L e.1).length ≤ L.length := List.length_filter_le _ _
  have h1 : ∀ M : List Ent, (M.filter (fun a => decide (lt a.1 e.1))).length + (M.filter (fun a => decide (lt e.1 a.1))).length ≤ M.length := by
    intro M
    induction M with
    | nil => simp
    | cons a M ih =>
      by_cases h : lt a.1 e.1
      · rw [List.filter_cons_of_pos (by simpa using h), List.filter_cons_of_neg (by simpa using lt_asymm h)]
        simp only [List.length_cons]; omega
      · rw [List.filter_cons_of_neg (by simpa using h)]
        have := List.filter_cons (p := fun (b : Ent) => decide (lt e.1 b.1)) (x := a) (xs := M)
        rw [this]
        split <;> simp only [List.length_cons] <;> omega
  have := h1 (cutL L e.1)
  simp only [List.length_append, List.length_cons]; omega
theorem all_len (L : List Ent) : (all L).length ≤ L.length := by unfold all; split <;> simp
theorem put_len (L : List Ent) (e : Ent) : (put L e).length ≤ L.length + 1 := by
  have := putL_len (all L) e; have := all_len L; unfold put; omega
theorem cut_len (L : List Ent) (s : List UInt8) : (cut L s).length ≤ L.length := Nat.le_trans (List.length_filter_le _ _) (all_len L)
theorem fold_len : ∀ (L out : List Ent), (L.foldl put out).length ≤ out.length + L.length
  | [], out => by simp
  | x :: L, out => by
    have h1 := fold_len L (put out x); have h2 := put_len out x
    rw [List.foldl_cons, List.length_cons]; omega
end Go.Proofs.YtpihldcchjoinaaGreatDoor.M06
/-
  Plain mathematics for layer 7 (tree): nodes by their numbers, what acts come to; lists alone. No condition but those that each theorem bears.
-/
namespace Go.Proofs.YtpihldcchjoinaaGreatDoor.M07
open Go.Proofs.YtpihldcchjoinaaGreatDoor.M03 (check)
open Go.Proofs.YtpihldcchjoinaaGreatDoor.M06 (Ent)

abbrev Bytes := List UInt8
structure Nd where
  num : Int
  up : Int
  name : Bytes
  kind : Int
  data : Bytes
deriving DecidableEq
structure Tr where
  L : List Nd
  last : Int
def zero : Nd := ⟨0, 0, [], 0, []⟩
def new : Tr := ⟨[⟨1, 1, [], 1, []⟩], 1⟩
/-- a node by its number -/
def nodeAt : List Nd → Int → Nd
  | [], _ => zero
  | a :: r, n => if a.num = n then a else nodeAt r n
/-- the node of a name in a directory -/
def inDir : List Nd → Int → Bytes → Int
  | [], _, _ => 0
  | a :: r, d, s => if a.up = d ∧ a.name = s ∧ a.num ≠ 1 then a.num else inDir r d s
def stands (d : Int) (a : Nd) : Bool := decide (a.up = d) && decide (a.num ≠ 1)
def entOf (a : Nd) : Ent := (a.name, a.num)
/-- a directory's entries -/
def listDir (L : List Nd) (d : Int) : List Ent := ((L.filter (stands d)).map entOf).foldl M06.put []
def dirErr (L : List Nd) (n : Int) : Int := if (nodeAt L n).kind = 0 then 5 else if (nodeAt L n).kind = 1 then 0 else 7
def mayErr (kind : Int) (data : Bytes) : Int :=
  if kind < 1 ∨ 3 < kind then 2 else if (kind = 1 ∧ data ≠ []) ∨ (kind = 3 ∧ data = []) then 3 else if 65536 < data.length then 4 else 0
def putErr (t : Tr) (d : Int) (name : Bytes) (kind : Int) (data : Bytes) : Int :=
  if dirErr t.L d ≠ 0 then dirErr t.L d else if check name ≠ 0 then check name else if 0 < inDir t.L d name then 6 else if mayErr kind data ≠ 0 then mayErr kind data else if 4096 ≤ t.L.length then 12 else 0
def put (t : Tr) (d : Int) (name : Bytes) (kind : Int) (data : Bytes) : Tr × Int × Int :=
  if putErr t d name kind data ≠ 0 then (t, 0, putErr t d name kind data) else (⟨t.L ++ [⟨t.last + 1, d, name, kind, data⟩], t.last + 1⟩, t.last + 1, 0)
def withNode (t : Tr) (x : Nd) : Tr := ⟨t.L.map (fun a => if a.num = x.num then x else a), t.last⟩
def set (t : Tr) (n : Int) (data : Bytes) : Tr × Int :=
  if (nodeAt t.L n).kind = 0 then (t, 5) else if (nodeAt t.L n).kind = 1 then (t, 8) else if mayErr (nodeAt t.L n).kind data ≠ 0 then (t, mayErr (nodeAt t.L n).kind data) else (withNode t { nodeAt t.L n with data := data }, 0)
def cut (t : Tr) (d : Int) (name : Bytes) : Tr × Int :=
  if dirErr t.L d ≠ 0 then (t, dirErr t.L d) else if inDir t.L d name = 0 then (t, 5) else if listDir t.L (inDir t.L d name) ≠ [] then (t, 9) else (⟨t.L.filter (fun a => decide (a.num ≠ inDir t.L d name)), t.last⟩, 0)

theorem at_here {L : List Nd} {n : Int} {k : Nat} (hk : k < L.length) (h : (L[k]).num = n) : nodeAt (L.drop k) n = L[k] := by
  rw [List.drop_eq_getElem_cons hk, nodeAt, if_pos h]
theorem at_on {L : List Nd} {n : Int} {k : Nat} (hk : k < L.length) (h : ¬ (L[k]).num = n) : nodeAt (L.drop k) n = nodeAt (L.drop (k + 1)) n := by
  rw [List.drop_eq_getElem_cons hk, nodeAt, if_neg h]
theorem at_end {L : List Nd} {n : Int} {k : Nat} (hk : ¬ k < L.length) : nodeAt (L.drop k) n = zero := by rw [List.drop_of_length_le (by omega)]; rfl
theorem in_here {L : List Nd} {d : Int} {s : Bytes} {k : Nat} (hk : k < L.length) (h : (L[k]).up = d ∧ (L[k]).name = s ∧ (L[k]).num ≠ 1) : inDir (L.drop k) d s = (L[k]).num := by
  rw [List.drop_eq_getElem_cons hk, inDir, if_pos h]
theorem in_on {L : List Nd} {d : Int} {s : Bytes} {k : Nat} (hk : k < L.length) (h : ¬ ((L[k]).up = d ∧ (L[k]).name = s ∧ (L[k]).num ≠ 1)) : inDir (L.drop k) d s = inDir (L.drop (k + 1)) d s := by
  rw [List.drop_eq_getElem_cons hk, inDir, if_neg h]
theorem in_end {L : List Nd} {d : Int} {s : Bytes} {k : Nat} (hk : ¬ k < L.length) : inDir (L.drop k) d s = 0 := by rw [List.drop_of_length_le (by omega)]; rfl
theorem list_in {L : List Nd} {d : Int} {k : Nat} (hk : k < L.length) (h : stands d L[k] = true) : listDir (L.take (k + 1)) d = M06.put (listDir (L.take k) d) (entOf L[k]) := by
  unfold listDir
  rw [List.take_succ_eq_append_getElem hk, List.filter_append, List.map_append, List.foldl_append]
  simp [h]
theorem list_out {L : List Nd} {d : Int} {k : Nat} (hk : k < L.length) (h : stands d L[k] = false) : listDir (L.take (k + 1)) d = listDir (L.take k) d := by
  unfold listDir
  rw [List.take_succ_eq_append_getElem hk, List.filter_append, List.map_append, List.foldl_append]
  simp [h]
theorem list_len (L : List Nd) (d : Int) : (listDir L d).length ≤ L.length := by
  unfold listDir
  have h1 := M06.fold_len ((L.filter (stands d)).map entOf) []
  have h2 : (L.filter (stands d)).length ≤ L.length := List.length_filter_le _ _
  rw [List.length_map] at h1
  simp at h1; omega
end Go.Proofs.YtpihldcchjoinaaGreatDoor.M07
/-
  Plain mathematics for layer 7 (tree): what a right tree is; from each of its nodes the directories lead up to Root; Move; each act keeps a tree right. Lists alone. No condition but those that each theorem bears.
-/
namespace Go.Proofs.YtpihldcchjoinaaGreatDoor.M07
open Go.Proofs.YtpihldcchjoinaaGreatDoor.M03 (check)
open Go.Proofs.YtpihldcchjoinaaGreatDoor.M06 (Ent)

/-- the directory that a node stands in -/
def upOf (L : List Nd) (n : Int) : Int := (nodeAt L n).up
def upN (L : List Nd) : Nat → Int → Int
  | 0, n => n
  | k + 1, n => upN L k (upOf L n)
/-- whether n is come to from k upwards, ahead of Root or there -/
def Inside (L : List Nd) (n k : Int) : Prop := ∃ j, upN L j k = n ∧ ∀ i, i < j → upN L i k ≠ 1
theorem least {p : Nat → Prop} (h : ∃ k, p k) : ∃ k, p k ∧ ∀ i, p i → k ≤ i := by
  obtain ⟨k, hk⟩ := h
  induction k using Nat.strongRecOn with
  | ind k ih =>
    by_cases h2 : ∃ i, i < k ∧ p i
    · obtain ⟨i, hi, hp⟩ := h2
      exact ih i hi hp
    · refine ⟨k, hk, fun i hi => ?_⟩
      rcases Nat.lt_or_ge i k with hlt | hge
      · exact absurd ⟨i, hlt, hi⟩ h2
      · exact hge
open Classical in
/-- how many steps it is to Root -/
noncomputable def height (L : List Nd) (n : Int) : Nat := if h : ∃ k, upN L k n = 1 then Classical.choose (least h) else 0
theorem height_up {L : List Nd} {n : Int} (h : ∃ k, upN L k n = 1) (h1 : n ≠ 1) : (∃ k, upN L k (upOf L n) = 1) ∧ height L (upOf L n) < height L n := by
  classical
  have h2 : ∃ k, upN L k (upOf L n) = 1 := by
    obtain ⟨k, hk⟩ := h
    cases k with
    | zero => exact absurd hk h1
    | succ k => exact ⟨k, hk⟩
  refine ⟨h2, ?_⟩
  unfold height
  rw [dif_pos h, dif_pos h2]
  have e := (Classical.choose_spec (least h)).1
  have e2 := (Classical.choose_spec (least h2)).2
  cases hf : Classical.choose (least h) with
  | zero => rw [hf] at e; exact absurd e h1
  | succ k =>
    rw [hf] at e
    have := e2 k e
    omega

/-! Move -/
def moveErr (L : List Nd) (src : Int) (name : Bytes) (dst : Int) (nw : Bytes) : Int :=
  if dirErr L src ≠ 0 then dirErr L src else if dirErr L dst ≠ 0 then dirErr L dst else if inDir L src name = 0 then 5 else check nw
/-- a node in another place -/
def placed (t : Tr) (x : Nd) (dst : Int) (nw : Bytes) : Tr := withNode t { x with up := dst, name := nw }
/-- behind the checks: the node n goes to dst, by as -/
def moveOn (t : Tr) (n : Int) (dst : Int) (nw : Bytes) : Tr × Int :=
  if inDir t.L dst nw = n then (t, 0)
  else if 0 < inDir t.L dst nw then
    if (nodeAt t.L (inDir t.L dst nw)).kind = 1 ∧ (nodeAt t.L n).kind ≠ 1 then (t, 8)
    else if (nodeAt t.L (inDir t.L dst nw)).kind ≠ 1 ∧ (nodeAt t.L n).kind = 1 then (t, 7)
    else if (cut t dst nw).2 ≠ 0 then (t, (cut t dst nw).2)
    else (placed (cut t dst nw).1 (nodeAt t.L n) dst nw, 0)
  else (placed t (nodeAt t.L n) dst nw, 0)
open Classical in
noncomputable def move (t : Tr) (src : Int) (name : Bytes) (dst : Int) (nw : Bytes) : Tr × Int :=
  if moveErr t.L src name dst nw ≠ 0 then (t, moveErr t.L src name dst nw)
  else if (nodeAt t.L (inDir t.L src name)).kind = 1 ∧ Inside t.L (inDir t.L src name) dst then (t, 14)
  else moveOn t (inDir t.L src name) dst nw

/-! a right tree -/
structure Right (t : Tr) : Prop where
  root : ∃ r, t.L = ⟨1, 1, [], 1, []⟩ :: r
  rise : t.L.Pairwise (fun a b => a.num < b.num)
  ends : ∀ a ∈ t.L, 1 ≤ a.num ∧ a.num ≤ t.last
  kind : ∀ a ∈ t.L, a.kind ≠ 0
  up : ∀ a ∈ t.L, (nodeAt t.L a.up).kind = 1
  once : ∀ a ∈ t.L, ∀ b ∈ t.L, a.num ≠ 1 → b.num ≠ 1 → a.up = b.up → a.name = b.name → a = b
  low : ∀ a ∈ t.L, ∃ k, upN t.L k a.num = 1
theorem at_some : ∀ {L : List Nd} {n : Int}, (nodeAt L n).kind ≠ 0 → nodeAt L n ∈ L ∧ (nodeAt L n).num = n
  | [], n, h => absurd rfl h
  | a :: r, n, h => by
    unfold nodeAt at h ⊢
    by_cases e : a.num = n
    · rw [if_pos e]; exact ⟨List.mem_cons_self, e⟩
    · rw [if_neg e] at h ⊢
      have := at_some h
      exact ⟨List.mem_cons_of_mem _ this.1, this.2⟩
theorem at_mem : ∀ {L : List Nd} {a : Nd}, L.Pairwise (fun a b => a.num < b.num) → a ∈ L → nodeAt L a.num = a
  | [], a, _, h => absurd h (by simp)
  | b :: r, a, hp, h => by
    rw [List.pairwise_cons] at hp
    unfold nodeAt
    rcases List.mem_cons.1 h with rfl | h
    · rw [if_pos rfl]
    · rw [if_neg (by have := hp.1 a h; omega)]
      exact at_mem hp.2 h
theorem at_none : ∀ {L : List Nd} {n : Int}, (∀ a ∈ L, a.num ≠ n) → nodeAt L n = zero
  | [], _, _ => rfl
  | a :: r, n, h => by
    unfold nodeAt
    rw [if_neg (h a List.mem_cons_self)]
    exact at_none fun b hb => h b (List.mem_cons_of_mem _ hb)
theorem at_append {L : List Nd} {x : Nd} {n : Int} (h : n ≠ x.num) : nodeAt (L ++ [x]) n = nodeAt L n := by
  induction L with
  | nil => show (if x.num = n then x else zero) = zero; rw [if_neg (fun e => h e.symm)]
  | cons a r ih =>
    show (if a.num = n then a else nodeAt (r ++ [x]) n) = (if a.num = n then a else nodeAt r n)
    rw [ih]
theorem at_last {L : List Nd} {x : Nd} (h : ∀ a ∈ L, a.num ≠ x.num) : nodeAt (L ++ [x]) x.num = x := by
  induction L with
  | nil => show (if x.num = x.num then x else zero) = x; rw [if_pos rfl]
  | cons a r ih =>
    show (if a.num = x.num then a else nodeAt (r ++ [x]) x.num) = x
    rw [if_neg (h a List.mem_cons_self)]
    exact ih fun b hb => h b (List.mem_cons_of_mem _ hb)
theorem at_map {L : List Nd} {f : Nd → Nd} (hf : ∀ a, (f a).num = a.num) {n : Int} (h : (nodeAt L n).kind ≠ 0) : nodeAt (L.map f) n = f (nodeAt L n) := by
  induction L with
  | nil => exact absurd rfl h
  | cons a r ih =>
    unfold nodeAt at h
    show (if (f a).num = n then f a else nodeAt (r.map f) n) = f (if a.num = n then a else nodeAt r n)
    rw [hf]
    by_cases e : a.num = n
    · rw [if_pos e, if_pos e]
    · rw [if_neg e] at h
      rw [if_neg e, if_neg e]; exact ih h
theorem in_found : ∀ {L : List Nd} {d : Int} {s : Bytes}, inDir L d s ≠ 0 → ∃ a ∈ L, a.num = inDir L d s ∧ a.up = d ∧ a.name = s ∧ a.num ≠ 1
  | [], _, _, h => absurd rfl h
  | a :: r, d, s, h => by
    unfold inDir at h ⊢
    by_cases e : a.up = d ∧ a.name = s ∧ a.num ≠ 1
    · rw [if_pos e]; exact ⟨a, List.mem_cons_self, rfl, e⟩
    · rw [if_neg e] at h ⊢
      obtain ⟨b, hb, h1⟩ := in_found h
      exact ⟨b, List.mem_cons_of_mem _ hb, h1⟩
theorem in_not : ∀ {L : List Nd} {d : Int} {s : Bytes}, (∀ a ∈ L, 1 ≤ a.num) → inDir L d s = 0 → ∀ a ∈ L, a.num ≠ 1 → ¬ (a.up = d ∧ a.name = s)
  | [], _, _, _, _, a, ha, _ => absurd ha (by simp)
  | b :: r, d, s, hp, h, a, ha, h1 => by
    unfold inDir at h
    by_cases e : b.up = d ∧ b.name = s ∧ b.num ≠ 1
    · rw [if_pos e] at h
      have := hp b List.mem_cons_self
      omega
    · rw [if_neg e] at h
      rcases List.mem_cons.1 ha with rfl | ha
      · exact fun e2 => e ⟨e2.1, e2.2, h1⟩
      · exact in_not (fun c hc => hp c (List.mem_cons_of_mem _ hc)) h a ha h1
theorem in_pos {L : List Nd} {d : Int} {s : Bytes} (hp : ∀ a ∈ L, 1 ≤ a.num) : 0 ≤ inDir L d s := by
  by_cases h : inDir L d s = 0
  · omega
  · obtain ⟨a, ha, e, _⟩ := in_found h
    have := hp a ha; omega
theorem dir_zero {L : List Nd} {n : Int} (h : dirErr L n = 0) : (nodeAt L n).kind = 1 := by
  unfold dirErr at h
  split at h
  · omega
  · split at h
    · assumption
    · omega
theorem new_right : Right new where
  root := ⟨[], rfl⟩
  rise := List.pairwise_singleton _ _
  ends := by intro a ha; simp [new] at ha; subst ha; exact ⟨by decide, by decide⟩
  kind := by intro a ha; simp [new] at ha; subst ha; decide
  up := by intro a ha; simp [new] at ha; subst ha; rfl
  once := by intro a ha b hb h1; simp [new] at ha; subst ha; exact absurd rfl h1
  low := by intro a ha; simp [new] at ha; subst ha; exact ⟨0, rfl⟩
theorem Right.at_root {t : Tr} (h : Right t) : nodeAt t.L 1 = ⟨1, 1, [], 1, []⟩ := by
  obtain ⟨r, e⟩ := h.root
  rw [e]; rfl
/-- a node's directory is a node of the tree -/
theorem Right.up_mem {t : Tr} (h : Right t) {a : Nd} (ha : a ∈ t.L) : ∃ b ∈ t.L, b.num = a.up ∧ b.kind = 1 := by
  have hk := h.up a ha
  have := at_some (L := t.L) (n := a.up) (by rw [hk]; decide)
  exact ⟨_, this.1, this.2, hk⟩
theorem Right.at_ {t : Tr} (h : Right t) {a : Nd} (ha : a ∈ t.L) : nodeAt t.L a.num = a := at_mem h.rise ha
theorem Right.upOf_ {t : Tr} (h : Right t) {a : Nd} (ha : a ∈ t.L) : upOf t.L a.num = a.up := by unfold upOf; rw [h.at_ ha]
/-- another list in which the nodes on the way up lead on as they did -/
theorem low_same {t : Tr} (h : Right t) {M : List Nd} (P : Int → Prop) (hs : ∀ a ∈ t.L, P a.num → upOf M a.num = a.up ∧ (a.num ≠ 1 → P a.up)) : ∀ (k : Nat) {a : Nd}, a ∈ t.L → P a.num → upN t.L k a.num = 1 → ∃ j, upN M j a.num = 1
  | 0, a, _, _, hk => ⟨0, hk⟩
  | k + 1, a, ha, hp, hk => by
    by_cases h1 : a.num = 1
    · exact ⟨0, h1⟩
    · have hk' : upN t.L k a.up = 1 := by rw [← h.upOf_ ha]; exact hk
      obtain ⟨b, hb, e, _⟩ := h.up_mem ha
      obtain ⟨e1, e2⟩ := hs a ha hp
      obtain ⟨j, hj⟩ := low_same h P hs k hb (by rw [e]; exact e2 h1) (by rw [e]; exact hk')
      rw [e] at hj
      exact ⟨j + 1, by show upN M j (upOf M a.num) = 1; rw [e1]; exact hj⟩

theorem put_right {t : Tr} (h : Right t) {d kind : Int} {name data : Bytes} : Right (put t d name kind data).1 := by
  unfold put
  split
  · exact h
  · rename_i he
    have he : putErr t d name kind data = 0 := by simpa using he
    have hd : dirErr t.L d = 0 := by
      unfold putErr at he
      split at he
      · rename_i h1; exact absurd he h1
      · rename_i h1; simpa using h1
    have hin : inDir t.L d name = 0 := by
      have := in_pos (L := t.L) (d := d) (s := name) (fun a ha => (h.ends a ha).1)
      unfold putErr at he
      split at he
      · omega
      · split at he
        · omega
        · split at he
          · omega
          · omega
    have hk : kind ≠ 0 := by
      intro e
      subst e
      unfold putErr at he
      rw [if_neg (by simpa using hd)] at he
      split at he
      · omega
      · split at he
        · omega
        · rw [if_pos (by unfold mayErr; rw [if_pos (Or.inl (by decide))]; decide)] at he
          unfold mayErr at he
          rw [if_pos (Or.inl (by decide))] at he
          omega
    have hdk := dir_zero hd
    have hds := at_some (L := t.L) (n := d) (by rw [hdk]; decide)
    have hnum : ∀ a ∈ t.L, a.num ≠ t.last + 1 := fun a ha => by have := (h.ends a ha).2; omega
    have hdl : d ≠ t.last + 1 := by rw [← hds.2]; exact hnum _ hds.1
    obtain ⟨r, hr⟩ := h.root
    obtain ⟨x, hx⟩ : ∃ x : Nd, (⟨t.last + 1, d, name, kind, data⟩ : Nd) = x := ⟨_, rfl⟩
    have hxn : x.num = t.last + 1 := by rw [← hx]
    have hxu : x.up = d := by rw [← hx]
    have hl1 : 1 ≤ t.last := by have := h.ends ⟨1, 1, [], 1, []⟩ (by rw [hr]; exact List.mem_cons_self); exact this.2
    have hat : ∀ a ∈ t.L, nodeAt (t.L ++ [x]) a.num = nodeAt t.L a.num := fun a ha => at_append (by rw [hxn]; exact hnum a ha)
    have hup : ∀ a ∈ t.L, nodeAt (t.L ++ [x]) a.up = nodeAt t.L a.up := fun a ha => by
      obtain ⟨b, hb, e, _⟩ := h.up_mem ha
      rw [← e]; exact hat b hb
    have hlow : ∀ a ∈ t.L, ∃ k, upN (t.L ++ [x]) k a.num = 1 := fun a ha => by
      obtain ⟨k, hk⟩ := h.low a ha
      exact low_same h (fun _ => True) (fun b hb _ => ⟨by unfold upOf; rw [hat b hb, h.at_ hb], fun _ => trivial⟩) k ha trivial hk
    rw [hx]
    constructor
    · exact ⟨r ++ [x], by show t.L ++ [x] = _; rw [hr]; rfl⟩
    · show (t.L ++ [x]).Pairwise _
      rw [List.pairwise_append]
      refine ⟨h.rise, List.pairwise_singleton _ _, fun a ha b hb => ?_⟩
      simp only [List.mem_singleton] at hb
      subst hb
      rw [hxn]; have := (h.ends a ha).2; omega
    · intro a ha
      show 1 ≤ a.num ∧ a.num ≤ t.last + 1
      rcases List.mem_append.1 ha with ha | ha
      · have := h.ends a ha; omega
      · simp only [List.mem_singleton] at ha; subst ha; omega
    · intro a ha
      rcases List.mem_append.1 ha with ha | ha
      · exact h.kind a ha
      · simp only [List.mem_singleton] at ha; subst ha; rw [← hx]; exact hk
    · intro a ha
      show (nodeAt (t.L ++ [x]) a.up).kind = 1
      rcases List.mem_append.1 ha with ha | ha
      · rw [hup a ha]; exact h.up a ha
      · simp only [List.mem_singleton] at ha; subst ha
        rw [hxu, at_append (by rw [hxn]; exact hdl)]; exact hdk
    · intro a ha b hb ha1 hb1 hu hn
      have hno := in_not (fun a ha => (h.ends a ha).1) hin
      rcases List.mem_append.1 ha with hA | hA <;> rcases List.mem_append.1 hb with hB | hB
      · exact h.once a hA b hB ha1 hb1 hu hn
      · have e := List.mem_singleton.1 hB
        exact absurd ⟨by rw [hu, e, hxu], by rw [hn, e, ← hx]⟩ (hno a hA ha1)
      · have e := List.mem_singleton.1 hA
        exact absurd ⟨by rw [← hu, e, hxu], by rw [← hn, e, ← hx]⟩ (hno b hB hb1)
      · rw [List.mem_singleton.1 hA, List.mem_singleton.1 hB]
    · intro a ha
      show ∃ k, upN (t.L ++ [x]) k a.num = 1
      rcases List.mem_append.1 ha with ha | ha
      · exact hlow a ha
      · simp only [List.mem_singleton] at ha; subst ha
        obtain ⟨k, hk⟩ := hlow _ hds.1
        refine ⟨k + 1, ?_⟩
        show upN (t.L ++ [a]) k (upOf (t.L ++ [a]) a.num) = 1
        unfold upOf
        rw [at_last (by intro b hb; rw [hxn]; exact hnum b hb), hxu, ← hds.2]
        exact hk

/-- a node's bytes alone turned -/
theorem map_right {t : Tr} (h : Right t) {f : Nd → Nd} (hf : ∀ a, (f a).num = a.num ∧ (f a).up = a.up ∧ (f a).name = a.name ∧ (f a).kind = a.kind) (h1 : ∀ a, a.num = 1 → f a = a) : Right ⟨t.L.map f, t.last⟩ := by
  have hn : ∀ a, (f a).num = a.num := fun a => (hf a).1
  have hat : ∀ a ∈ t.L, nodeAt (t.L.map f) a.num = f a := fun a ha => by
    have e := h.at_ ha
    rw [at_map hn (by rw [e]; exact h.kind a ha), e]
  constructor
  · obtain ⟨r, hr⟩ := h.root
    refine ⟨r.map f, ?_⟩
    show t.L.map f = _
    rw [hr, List.map_cons, h1 _ rfl]
  · show (t.L.map f).Pairwise _
    rw [List.pairwise_map]
    exact h.rise.imp fun {a b} hab => by rw [hn, hn]; exact hab
  · intro a ha
    obtain ⟨b, hb, rfl⟩ := List.mem_map.1 ha
    rw [hn]; exact h.ends b hb
  · intro a ha
    obtain ⟨b, hb, rfl⟩ := List.mem_map.1 ha
    rw [(hf b).2.2.2]; exact h.kind b hb
  · intro a ha
    obtain ⟨b, hb, rfl⟩ := List.mem_map.1 ha
    show (nodeAt (t.L.map f) (f b).up).kind = 1
    obtain ⟨c, hc, e, ek⟩ := h.up_mem hb
    rw [(hf b).2.1, ← e, hat c hc, (hf c).2.2.2]; exact ek
  · intro a ha b hb ha1 hb1 hu hnm
    obtain ⟨a', ha', rfl⟩ := List.mem_map.1 ha
    obtain ⟨b', hb', rfl⟩ := List.mem_map.1 hb
    rw [hn] at ha1 hb1
    rw [(hf a').2.1, (hf b').2.1] at hu
    rw [(hf a').2.2.1, (hf b').2.2.1] at hnm
    rw [h.once a' ha' b' hb' ha1 hb1 hu hnm]
  · intro a ha
    obtain ⟨b, hb, rfl⟩ := List.mem_map.1 ha
    rw [hn]
    obtain ⟨k, hk⟩ := h.low b hb
    exact low_same h (fun _ => True) (fun c hc _ => ⟨by unfold upOf; rw [hat c hc, (hf c).2.1], fun _ => trivial⟩) k hb trivial hk
theorem set_right {t : Tr} (h : Right t) {n : Int} {data : Bytes} : Right (set t n data).1 := by
  unfold set
  split
  · exact h
  · rename_i hk0
    split
    · exact h
    · rename_i hk1
      split
      · exact h
      · obtain ⟨hm, hn⟩ := at_some hk0
        show Right (withNode t { nodeAt t.L n with data := data })
        -- the node of that number is the one that is turned
        have e : t.L.map (fun a => if a.num = ({ nodeAt t.L n with data := data } : Nd).num then { nodeAt t.L n with data := data } else a) = t.L.map (fun a => if a.num = n then { a with data := data } else a) := by
          apply List.map_congr_left
          intro a ha
          show (if a.num = (nodeAt t.L n).num then _ else a) = _
          rw [hn]
          by_cases ea : a.num = n
          · rw [if_pos ea, if_pos ea, ← ea, h.at_ ha]
          · rw [if_neg ea, if_neg ea]
        unfold withNode
        rw [e]
        refine map_right h (fun a => ?_) (fun a ha => ?_)
        · split <;> exact ⟨rfl, rfl, rfl, rfl⟩
        · rw [if_neg]
          intro e2
          rw [ha] at e2
          rw [← e2, h.at_root] at hk1
          exact hk1 rfl
/-! a node in another place -/
/-- from a directory upwards Root is come to -/
theorem Right.reach {t : Tr} (h : Right t) {n : Int} (hk : (nodeAt t.L n).kind ≠ 0) : ∃ k, upN t.L k n = 1 := by
  obtain ⟨hm, e⟩ := at_some hk
  have := h.low _ hm
  rw [e] at this
  exact this
end Go.Proofs.YtpihldcchjoinaaGreatDoor.M07
