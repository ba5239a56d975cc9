/-
  Layer 7 (tree): what the laws ask of the program's calls, as one structure of contracts over any reading of a tree ('Trees'); and the laws' acts as records. No condition but those that each theorem bears.
-/
import Derived.Test.YtelphegeeiocnaaW07New
import Derived.Test.YtelphegeeiocnaaRange
namespace Go.Proofs.Ytelphegeeiocnaa.W07
open Go Go.RowKit Go.Proofs.Ytelphegeeiocnaa.Strs Go.Proofs.Ytelphegeeiocnaa.Recs Go.Proofs.Ytelphegeeiocnaa.M07 Go.Proofs.Ytelphegeeiocnaa.Range
open Go.Proofs.Ytelphegeeiocnaa.M06 (Ent)
open Go.Proofs.Ytelphegeeiocnaa.W06 (Ents HandsE)
open Go.Proofs.Ytelphegeeiocnaa.Kit (ret_str ret_bool ret_int mk_of mk_bytes ba_ext below_draws on)

def Small (t : Tr) : Prop := t.L.length ≤ 1048576 ∧ t.last ≤ 1048576
/-- behind a call that may have written the tree of the blocks F: it reads as t', in blocks of F and new ones; no other block has turned -/
def Wrote (Rep : (Nat → Prop) → World → Value → Tr → Prop) (F : Nat → Prop) (v : Value) (t' : Tr) (w w' : World) : Prop := ∃ F', Rep F' w' v t' ∧ Turns F w w' ∧ ∀ k, F' k → F k ∨ w.heap.size ≤ k
/-- what a directory's List tells -/
def listed (t : Tr) (n : Int) : List Ent := if (nodeAt t.L n).kind = 1 then listDir t.L n else []
/-- entries are handed out that lie in the tree's blocks, or in new ones -/
def HandsIn (F : Nat → Prop) (w : World) (L : List Ent) (e : Ending) (w' : World) : Prop := ∃ v, e = .returned v ∧ Ents w'.heap.size w' v L ∧ (∀ b o n c, v = .slice (some ⟨b, o, none⟩) n c → F b ∨ w.heap.size ≤ b) ∧ Below w.heap.size w w'
/-- the contracts of the program's calls: Rep F w v t: in w the pointer v leads to a tree that reads as t and lies in the blocks of F -/
structure Trees (Rep : (Nat → Prop) → World → Value → Tr → Prop) : Prop where
  keep : ∀ {F w w' v t}, Rep F w v t → (∀ k, F k → w'.heap[k]? = w.heap[k]?) → w.heap.size ≤ w'.heap.size → Rep F w' v t
  low : ∀ {F w v t}, Rep F w v t → ∀ k, F k → k < w.heap.size
  right : ∀ {F w v t}, Rep F w v t → Right t
  new : ∀ w, Calls Try.prog 8 #[] w fun e w' => ∃ v F, e = .returned v ∧ Rep F w' v M07.new ∧ (∀ k, F k → w.heap.size ≤ k) ∧ Below w.heap.size w w'
  kind : ∀ {F w v t}, Rep F w v t → Small t → ∀ n : Int, Calls Try.prog 17 #[v, .int .i64 n] w fun e w' => e = .returned (.int .i64 (nodeAt t.L n).kind) ∧ Below w.heap.size w w'
  data : ∀ {F w v t}, Rep F w v t → Small t → ∀ n : Int, Calls Try.prog 21 #[v, .int .i64 n] w fun e w' => e = .returned (.string ⟨(nodeAt t.L n).data.toArray⟩) ∧ Below w.heap.size w w'
  up : ∀ {F w v t}, Rep F w v t → Small t → ∀ n : Int, Calls Try.prog 16 #[v, .int .i64 n] w fun e w' => e = .returned (.int .i64 (nodeAt t.L n).up) ∧ Below w.heap.size w w'
  len : ∀ {F w v t}, Rep F w v t → Small t → Calls Try.prog 18 #[v] w fun e w' => e = .returned (.int .i64 t.L.length) ∧ Below w.heap.size w w'
  lists : ∀ {F w v t}, Rep F w v t → Small t → ∀ n : Int, Calls Try.prog 15 #[v, .int .i64 n] w (HandsIn F w (listed t n))
  put : ∀ {F w v t}, Rep F w v t → Small t → ∀ (d : Int) (s : ByteArray) (kind : Int) (x : ByteArray), x.size ≤ maxLen → Calls Try.prog 11 #[v, .int .i64 d, .string s, .int .i64 kind, .string x] w fun e w' => e = .returned (.tuple #[.int .i64 (put t d s.data.toList kind x.data.toList).2.1, .int .i64 (put t d s.data.toList kind x.data.toList).2.2]) ∧ Wrote Rep F v (put t d s.data.toList kind x.data.toList).1 w w'
  set : ∀ {F w v t}, Rep F w v t → Small t → ∀ (n : Int) (x : ByteArray), x.size ≤ maxLen → Calls Try.prog 19 #[v, .int .i64 n, .string x] w fun e w' => e = .returned (.int .i64 (set t n x.data.toList).2) ∧ Wrote Rep F v (set t n x.data.toList).1 w w'
  cut : ∀ {F w v t}, Rep F w v t → Small t → ∀ (d : Int) (s : ByteArray), Calls Try.prog 12 #[v, .int .i64 d, .string s] w fun e w' => e = .returned (.int .i64 (cut t d s.data.toList).2) ∧ Wrote Rep F v (cut t d s.data.toList).1 w w'
  move : ∀ {F w v t}, Rep F w v t → Small t → ∀ (src : Int) (s : ByteArray) (dst : Int) (a : ByteArray), Calls Try.prog 20 #[v, .int .i64 src, .string s, .int .i64 dst, .string a] w fun e w' => e = .returned (.int .i64 (M07.move t src s.data.toList dst a.data.toList).2) ∧ Wrote Rep F v (M07.move t src s.data.toList dst a.data.toList).1 w w'
  copy : ∀ {F w v t}, Rep F w v t → Small t → Calls Try.prog 10 #[v] w fun e w' => ∃ v' F', e = .returned v' ∧ Rep F' w' v' t ∧ (∀ k, F' k → w.heap.size ≤ k) ∧ Below w.heap.size w w'
section
variable {Rep : (Nat → Prop) → World → Value → Tr → Prop} {F : Nat → Prop} {w w' : World} {v : Value} {t : Tr}
theorem Trees.list (C : Trees Rep) (h : Rep F w v t) (hs : Small t) (n : Int) : Calls Try.prog 15 #[v, .int .i64 n] w (HandsE w (listed t n)) :=
  (C.lists h hs n).mono fun _ _ ⟨u, he, hu, _, hb⟩ => ⟨u, he, hu, hb⟩
theorem Trees.below (C : Trees Rep) (h : Rep F w v t) (hb : Below w.heap.size w w') : Rep F w' v t := C.keep h (fun k hk => hb.block k (C.low h k hk)) hb.size
end

/-! acts -/
structure Ac where
  act : Int
  dir : Int
  to : Int
  name : Bytes
  alias : Bytes
  kind : Int
  data : Bytes
def actC (x : Ac) : List Value := [.int .i64 x.act, .int .i64 x.dir, .int .i64 x.to, strV x.name, strV x.alias, .int .i64 x.kind, strV x.data]
theorem actC_len (x : Ac) : (actC x).length = 7 := rfl
abbrev Acts (B : Nat) (w : World) (v : Value) (L : List Ac) : Prop := Recs actC 7 B w v L
theorem Acts.at_ {B : Nat} {w : World} {L : List Ac} {A : Option Addr} {n c : Nat} (h : Acts B w (.slice A n c) L) {k : Nat} (hk : k < n) : ∃ (b o : Nat) (hl : k < L.length), A = some ⟨b, o, none⟩ ∧ b < B ∧ w.cell? ⟨b, o + k * 7, none⟩ = some (.int .i64 (L[k]).act) ∧ w.cell? ⟨b, o + k * 7 + 1, none⟩ = some (.int .i64 (L[k]).dir) ∧ w.cell? ⟨b, o + k * 7 + 2, none⟩ = some (.int .i64 (L[k]).to) ∧ w.cell? ⟨b, o + k * 7 + 3, none⟩ = some (.string ⟨(L[k]).name.toArray⟩) ∧ w.cell? ⟨b, o + k * 7 + 4, none⟩ = some (.string ⟨(L[k]).alias.toArray⟩) ∧ w.cell? ⟨b, o + k * 7 + 5, none⟩ = some (.int .i64 (L[k]).kind) ∧ w.cell? ⟨b, o + k * 7 + 6, none⟩ = some (.string ⟨(L[k]).data.toArray⟩) := by
  obtain ⟨b, o, hl, rfl, hb, hc⟩ := Recs.flat_ h actC_len (by omega) hk
  exact ⟨b, o, hl, rfl, hb, hc 0 (by omega), hc 1 (by omega), hc 2 (by omega), hc 3 (by omega), hc 4 (by omega), hc 5 (by omega), hc 6 (by omega)⟩
def isShort (l : List Ac) : Bool := l.all (fun x => decide (x.data.length ≤ 70000)) && decide (l.length ≤ 60)
def shortTo (l : List Ac) (k : Nat) : Prop := ∀ x ∈ l.take k, x.data.length ≤ 70000
theorem short_next {l : List Ac} {k : Nat} (hk : k < l.length) (h : shortTo l k) (h2 : (l[k]).data.length ≤ 70000) : shortTo l (k + 1) := by
  intro x hx
  rw [List.take_succ_eq_append_getElem hk] at hx
  rcases List.mem_append.1 hx with hx | hx
  · exact h x hx
  · rw [List.mem_singleton.1 hx]; exact h2
theorem short_end {l : List Ac} {k : Nat} (hk : ¬ k < l.length) (h : shortTo l k) : isShort l = decide (l.length ≤ 60) := by
  unfold shortTo at h
  rw [List.take_of_length_le (by omega)] at h
  unfold isShort
  rw [List.all_eq_true.2 (fun x hx => by simpa using h x hx), Bool.true_and]
theorem short_no {l : List Ac} {k : Nat} (hk : k < l.length) (h2 : ¬ (l[k]).data.length ≤ 70000) : isShort l = false := by
  unfold isShort
  rw [Bool.and_eq_false_iff]
  left
  rw [List.all_eq_false]
  exact ⟨l[k], List.getElem_mem hk, by simpa using h2⟩
set_option maxHeartbeats 1000000 in
theorem short_any (v : Value) (L : List Ac) (B : Nat) (w : World) (h : Acts B w v L) : Calls Try.prog 6 #[v] w fun e w' => e = .returned (.bool (isShort L)) ∧ w' = w := by
  have H := Lib.hid h
  obtain ⟨A, c, rfl, hA1, hA2⟩ := h.form
  unfold maxLen at hA2
  clear h
  generalize hm : L.length = m at *
  have HM := Lib.hid hm
  clear hm
  go_enter Try.func6, Try.ntmps6
  go_wp2_with fail
  go_loop [3] (fun i => ∃ k : Nat, k ≤ m ∧ i = .int .i64 k ∧ Hid (shortTo L k)) (fun i => m - (intOf i).toNat)
  case atStart => exact ⟨0, Nat.zero_le _, rfl, fun x hx => by simp at hx⟩
  case round =>
    obtain ⟨k, hk, rfl, hr⟩ := hrel
    by_cases hlt : k < m
    · obtain ⟨b, o, hl1, rfl, hbl, hc0, hc1, hc2, hc3, hc4, hc5, hc6⟩ := Acts.at_ H.out hlt
      by_cases hd : (L[k]).data.length ≤ 70000
      · have HX := Lib.hid (short_next hl1 hr.out hd)
        have td : ((L[k]).data.length : Int) ≤ 70000 := by omega
        clear hd
        go_wp2_with fail
        go_round
        case rel => exact ⟨k + 1, by omega, by go_num, HX⟩
        case measure => simp [intOf]; omega
      · have HX := Lib.hid (short_no hl1 hd)
        have td : (70000 : Int) < ((L[k]).data.length : Int) := by omega
        clear hd
        go_wp2_with fail
        go_ret
        exact ⟨ret_bool HX.out.symm, rfl⟩
    · have HX := Lib.hid (short_end (by rw [HM.out]; exact hlt) hr.out)
      rw [HM.out] at HX
      go_wp2_with fail
      go_ret
      exact ⟨ret_bool (by rw [HX.out]; congr 1; simp; omega), rfl⟩
end Go.Proofs.Ytelphegeeiocnaa.W07
