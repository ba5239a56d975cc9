/-
  Texts joined, in build order, each with its own comment and its own conditions: W08Abs, OpenNodes, W04Parts, W04Clean, W04Join, W04Under.
-/
import Derived.Test.YtmpjjfhmkfchfaaDoorJ04
import Derived.Test.YtmpjjfhmkfchfaaDoorJ05
import Derived.Test.YtmpjjfhmkfchfaaDoorJ01
import Derived.Test.YtmpjjfhmkfchfaaDoorJ02
import Derived.WalkSpells
import Derived.WalkLawsBesides
import Derived.BigQuiet
import Derived.Deep.QuietTactic
/-
  Layer 8 (seek): what the laws ask of the program's calls, as a structure of contracts over any reading of a tree ('Seeks'); the laws' nodes as records, Few; what Made makes. No condition but those that each theorem bears.
-/
namespace Go.Proofs.YtmpjjfhmkfchfaaDoor.W08
set_option maxRecDepth 100000
open Go Go.RowKit Go.Proofs.YtmpjjfhmkfchfaaDoor.Strs Go.Proofs.YtmpjjfhmkfchfaaDoor.Recs Go.Proofs.YtmpjjfhmkfchfaaDoor.Range
open Go.Proofs.YtmpjjfhmkfchfaaDoor.M07 (Tr nodeAt inDir Right put put_right)
open Go.Proofs.YtmpjjfhmkfchfaaDoor.M08
open Go.Proofs.YtmpjjfhmkfchfaaDoor.W07 (Small Trees)
open Go.Proofs.YtmpjjfhmkfchfaaDoor.Kit (ret_str ret_bool ret_int mk_of mk_bytes ba_ext below_draws on)

abbrev Bytes := List UInt8
/-- a tree of few nodes, few bytes, names that may be -/
structure Good (t : Tr) : Prop where
  small : Small t
  fit : Fit t
  named : Named t
structure Seeks (Rep : (Nat → Prop) → World → Value → Tr → Prop) : Prop where
  find : ∀ {F w v t}, Rep F w v t → Good t → ∀ (p : ByteArray) (last : Bool), p.size ≤ 1048576 → Calls Tryd.prog 9 #[v, .string p, .bool last] w fun e w' => e = .returned (.tuple #[.int .i64 (M08.find t p.data.toList last).1, .int .i64 (M08.find t p.data.toList last).2]) ∧ Below w.heap.size w w'
  spot : ∀ {F w v t}, Rep F w v t → Good t → ∀ (p : ByteArray), p.size ≤ 1048576 → Calls Tryd.prog 11 #[v, .string p] w fun e w' => e = .returned (.tuple #[.int .i64 (spot t p.data.toList).1, .string ⟨(spot t p.data.toList).2.1.toArray⟩, .int .i64 (spot t p.data.toList).2.2]) ∧ Below w.heap.size w w'
  real : ∀ {F w v t}, Rep F w v t → Good t → ∀ (n : Int), Calls Tryd.prog 13 #[v, .int .i64 n] w fun e w' => e = .returned (.tuple #[.string ⟨(real t n).1.toArray⟩, .bool (real t n).2]) ∧ Below w.heap.size w w'
  straight : ∀ {F w v t}, Rep F w v t → Good t → ∀ (p : ByteArray), p.size ≤ 1048576 → Calls Tryd.prog 15 #[v, .string p] w fun e w' => e = .returned (.bool (straight t p.data.toList)) ∧ Below w.heap.size w w'
/-- the calls of a nil pointer -/
structure NoSeek : Prop where
  find : ∀ w (p : ByteArray) (last : Bool), Calls Tryd.prog 9 #[.pointer none, .string p, .bool last] w fun e w' => e = .returned (.tuple #[.int .i64 0, .int .i64 1]) ∧ Below w.heap.size w w'
  spot : ∀ w (p : ByteArray), Calls Tryd.prog 11 #[.pointer none, .string p] w fun e w' => e = .returned (.tuple #[.int .i64 0, .string ⟨#[]⟩, .int .i64 1]) ∧ Below w.heap.size w w'
  real : ∀ w (n : Int), Calls Tryd.prog 13 #[.pointer none, .int .i64 n] w fun e w' => e = .returned (.tuple #[.string ⟨#[]⟩, .bool false]) ∧ Below w.heap.size w w'
  straight : ∀ w (p : ByteArray), Calls Tryd.prog 15 #[.pointer none, .string p] w fun e w' => e = .returned (.bool false) ∧ Below w.heap.size w w'

/-! the laws' nodes -/
structure Sn where
  inn : Int
  name : Bytes
  kind : Int
  data : Bytes
def snC (x : Sn) : List Value := [.int .i64 x.inn, strV x.name, .int .i64 x.kind, strV x.data]
theorem snC_len (x : Sn) : (snC x).length = 4 := rfl
abbrev Snodes (B : Nat) (w : World) (v : Value) (L : List Sn) : Prop := Recs snC 4 B w v L
theorem Snodes.at_ {B : Nat} {w : World} {L : List Sn} {A : Option Addr} {n c : Nat} (h : Snodes B w (.slice A n c) L) {k : Nat} (hk : k < n) : ∃ (b o : Nat) (hl : k < L.length), A = some ⟨b, o, none⟩ ∧ b < B ∧ w.cell? ⟨b, o + k * 4, none⟩ = some (.int .i64 (L[k]).inn) ∧ w.cell? ⟨b, o + k * 4 + 1, none⟩ = some (.string ⟨(L[k]).name.toArray⟩) ∧ w.cell? ⟨b, o + k * 4 + 2, none⟩ = some (.int .i64 (L[k]).kind) ∧ w.cell? ⟨b, o + k * 4 + 3, none⟩ = some (.string ⟨(L[k]).data.toArray⟩) := by
  obtain ⟨b, o, hl, rfl, hb, hc⟩ := Recs.flat_ h snC_len (by omega) hk
  exact ⟨b, o, hl, rfl, hb, hc 0 (by omega), hc 1 (by omega), hc 2 (by omega), hc 3 (by omega)⟩
def isFew (l : List Sn) : Bool := l.all (fun x => decide (x.data.length ≤ 2000)) && decide (l.length ≤ 60)
def fewTo (l : List Sn) (k : Nat) : Prop := ∀ x ∈ l.take k, x.data.length ≤ 2000
theorem few_next {l : List Sn} {k : Nat} (hk : k < l.length) (h : fewTo l k) (h2 : (l[k]).data.length ≤ 2000) : fewTo l (k + 1) := by
  intro x hx
  rw [List.take_succ_eq_append_getElem hk] at hx
  rcases List.mem_append.1 hx with hx | hx
  · exact h x hx
  · rw [List.mem_singleton.1 hx]; exact h2
theorem few_end {l : List Sn} {k : Nat} (hk : ¬ k < l.length) (h : fewTo l k) : isFew l = decide (l.length ≤ 60) := by
  unfold fewTo at h
  rw [List.take_of_length_le (by omega)] at h
  unfold isFew
  rw [List.all_eq_true.2 (fun x hx => by simpa using h x hx), Bool.true_and]
theorem few_no {l : List Sn} {k : Nat} (hk : k < l.length) (h2 : ¬ (l[k]).data.length ≤ 2000) : isFew l = false := by
  unfold isFew
  rw [Bool.and_eq_false_iff]
  left
  rw [List.all_eq_false]
  exact ⟨l[k], List.getElem_mem hk, by simpa using h2⟩
theorem few_is {l : List Sn} (h : isFew l = true) : (∀ x ∈ l, x.data.length ≤ 2000) ∧ l.length ≤ 60 := by
  unfold isFew at h
  simp only [Bool.and_eq_true, decide_eq_true_eq, List.all_eq_true] at h
  exact h
set_option maxHeartbeats 1000000 in
theorem few_any (v : Value) (L : List Sn) (B : Nat) (w : World) (h : Snodes B w v L) : Calls Tryd.prog 6 #[v] w fun e w' => e = .returned (.bool (isFew L)) ∧ w' = w := by
  have H := Lib.hid h
  obtain ⟨A, c, rfl, hA1, hA2⟩ := h.form
  unfold maxLen at hA2
  clear h
  generalize hm : L.length = m at *
  have HM := Lib.hid hm
  clear hm
  go_enter Tryd.func6, Tryd.ntmps6
  go_wp2_with fail
  go_loop [3] (fun i => ∃ k : Nat, k ≤ m ∧ i = .int .i64 k ∧ Hid (fewTo L k)) (fun i => m - (intOf i).toNat)
  case atStart => exact ⟨0, Nat.zero_le _, rfl, fun x hx => by simp at hx⟩
  case round =>
    obtain ⟨k, hk, rfl, hr⟩ := hrel
    by_cases hlt : k < m
    · obtain ⟨b, o, hl1, rfl, hbl, hc0, hc1, hc2, hc3⟩ := Snodes.at_ H.out hlt
      by_cases hd : (L[k]).data.length ≤ 2000
      · have HX := Lib.hid (few_next hl1 hr.out hd)
        have td : ((L[k]).data.length : Int) ≤ 2000 := by omega
        clear hd
        go_wp2_with fail
        go_round
        case rel => exact ⟨k + 1, by omega, by go_num, HX⟩
        case measure => simp [intOf]; omega
      · have HX := Lib.hid (few_no hl1 hd)
        have td : (2000 : Int) < ((L[k]).data.length : Int) := by omega
        clear hd
        go_wp2_with fail
        go_ret
        exact ⟨ret_bool HX.out.symm, rfl⟩
    · have HX := Lib.hid (few_end (by rw [HM.out]; exact hlt) hr.out)
      rw [HM.out] at HX
      go_wp2_with fail
      go_ret
      exact ⟨ret_bool (by rw [HX.out]; congr 1; simp; omega), rfl⟩

/-! what Made makes -/
def madeDir (nums : List Int) (inn : Int) : Int := if 0 ≤ inn ∧ inn < (nums.length : Int) then nums.getD inn.toNat 0 else 1
def madeOn (st : Tr × List Int) (x : Sn) : Tr × List Int := ((put st.1 (madeDir st.2 x.inn) x.name x.kind x.data).1, st.2 ++ [(put st.1 (madeDir st.2 x.inn) x.name x.kind x.data).2.1])
def made (l : List Sn) : Tr × List Int := l.foldl madeOn (M07.new, [])
theorem made_next {l : List Sn} {k : Nat} (hk : k < l.length) : made (l.take (k + 1)) = madeOn (made (l.take k)) l[k] := by
  unfold made
  rw [List.take_succ_eq_append_getElem hk, List.foldl_append]; rfl
theorem put_more (t : Tr) (d : Int) (s : Bytes) (k : Int) (x : Bytes) : (put t d s k x).1.L.length ≤ t.L.length + 1 ∧ (put t d s k x).1.last ≤ t.last + 1 ∧ t.last ≤ (put t d s k x).1.last := by
  unfold M07.put
  split
  · exact ⟨by show t.L.length ≤ _; omega, by show t.last ≤ _; omega, Int.le_refl _⟩
  · exact ⟨by show (t.L ++ _).length ≤ _; simp, by show t.last + 1 ≤ _; omega, by show t.last ≤ t.last + 1; omega⟩
structure MadeIs (t : Tr) (nums : List Int) (k : Nat) : Prop where
  right : Right t
  fit : Fit t
  named : Named t
  len : t.L.length ≤ k + 1
  last : t.last ≤ k + 1
  count : nums.length = k
theorem MadeIs.start : MadeIs M07.new [] 0 := ⟨M07.new_right, fit_new, named_new, by decide, by decide, rfl⟩
theorem MadeIs.next {t : Tr} {nums : List Int} {k : Nat} (h : MadeIs t nums k) (x : Sn) : MadeIs (madeOn (t, nums) x).1 (madeOn (t, nums) x).2 (k + 1) := by
  have := put_more t (madeDir nums x.inn) x.name x.kind x.data
  have h1 := h.len
  have h2 := h.last
  exact ⟨put_right h.right, fit_put h.fit _ _ _ _, named_put h.named _ _ _ _, by show (put t (madeDir nums x.inn) x.name x.kind x.data).1.L.length ≤ _; omega, by show (put t (madeDir nums x.inn) x.name x.kind x.data).1.last ≤ _; omega, by show (nums ++ [_]).length = _; rw [List.length_append, h.count]; rfl⟩
theorem made_is (l : List Sn) : ∀ k, k ≤ l.length → MadeIs (made (l.take k)).1 (made (l.take k)).2 k
  | 0, _ => by rw [List.take_zero]; exact MadeIs.start
  | k + 1, hk => by
    rw [made_next (by omega)]
    exact (made_is l k (by omega)).next _
theorem made_good {l : List Sn} (h : l.length ≤ 60) : Good (made l).1 ∧ Right (made l).1 := by
  have := made_is l l.length (Nat.le_refl _)
  rw [List.take_length] at this
  have h1 := this.len
  have h2 := this.last
  exact ⟨⟨⟨by omega, by omega⟩, this.fit, this.named⟩, this.right⟩
end Go.Proofs.YtmpjjfhmkfchfaaDoor.W08
/-
  Arguments that are slices of layer 8's nodes, opened. For this program's types; no condition but those that each theorem bears.
-/
namespace Go.Proofs.YtmpjjfhmkfchfaaDoor.W08
open Go Go.RowKit Go.ChangeShapes Go.WideShapes Go.Deep Go.Joins
open Go.Proofs.YtmpjjfhmkfchfaaDoor.Strs (strV)
open Go.Proofs.YtmpjjfhmkfchfaaDoor.Recs
open Go.Proofs.YtmpjjfhmkfchfaaDoor.Kit (mk_bytes)

theorem sn_struct : ∃ f0 f1 f2 f3 : Field, Tryd.prog.underlying 51 = some (.struct #[f0, f1, f2, f3]) ∧ f0.type = 3 ∧ f1.type = 9 ∧ f2.type = 3 ∧ f3.type = 9 ∧ oneCellFields Tryd.prog #[f0, f1, f2, f3] = true :=
  ⟨_, _, _, _, Tryd.underlying51, rfl, rfl, rfl, rfl, by kernel_rfl⟩
theorem sn_cells : Tryd.prog.cellsOf 51 = 4 := by kernel_rfl
theorem four {α : Type} : ∀ {l : List α}, l.length = 4 → ∃ a b c d, l = [a, b, c, d]
  | [a, b, c, d], _ => ⟨a, b, c, d, rfl⟩
section
variable {H : Type} {enc : TypeId × Value → H} {W : World} {base : Nat}
theorem sn_read (n : Nat) (cs : List Value) (x : DataW H × List MemPlace) (hl : cs.length = 4) (h : DataW.trod enc Tryd.prog W 0 (fun _ => true) true n 51 cs = some x) : ∃ r : Sn, cs = snC r ∧ r.data.length ≤ maxLen := by
  obtain ⟨f0, f1, f2, f3, hs, e0, e1, e2, e3, hone⟩ := sn_struct
  obtain ⟨o0, k0⟩ := hone_of hone 0 f0 rfl
  obtain ⟨o1, k1⟩ := hone_of hone 1 f1 rfl
  obtain ⟨o2, k2⟩ := hone_of hone 2 f2 rfl
  obtain ⟨o3, k3⟩ := hone_of hone 3 f3 rfl
  obtain ⟨xs, m, _, _, _, hxl, hf⟩ := DataW.trod_struct hs h
  have hxl4 : xs.length = 4 := hxl
  have g0 := hf 0 f0 rfl
  have g1 := hf 1 f1 rfl
  have g2 := hf 2 f2 rfl
  have g3 := hf 3 f3 rfl
  rw [o0, k0, e0, List.getElem?_eq_getElem (by omega)] at g0
  rw [o1, k1, e1, List.getElem?_eq_getElem (by omega)] at g1
  rw [o2, k2, e2, List.getElem?_eq_getElem (by omega)] at g2
  rw [o3, k3, e3, List.getElem?_eq_getElem (by omega)] at g3
  obtain ⟨c0, c1, c2, c3, rfl⟩ := four hl
  obtain ⟨z0, q0, _, _⟩ := DataW.trod_int Tryd.underlying3 g0
  obtain ⟨s1, q1, _, _⟩ := DataW.trod_string Tryd.underlying9 g1
  obtain ⟨z2, q2, _, _⟩ := DataW.trod_int Tryd.underlying3 g2
  obtain ⟨s3, q3, _, hm⟩ := DataW.trod_string Tryd.underlying9 g3
  simp at q0 q1 q2 q3
  subst q0 q1 q2 q3
  refine ⟨⟨z0, s1.data.toList, z2, s3.data.toList⟩, ?_, by rw [← Lib.size_eq]; exact hm⟩
  show _ = [_, strV s1.data.toList, _, strV s3.data.toList]
  unfold strV
  rw [mk_bytes, mk_bytes]
set_option maxRecDepth 100000 in
theorem open_sns {v : Value} {d : DataW H} {p : List MemPlace} (hok : Value.okWide Tryd.prog W .any base 22 v) (h : DataW.Trod enc Tryd.prog W 0 (fun _ => true) true 22 v d p) (hlt : ∀ x ∈ p, x.block < W.heap.size) :
    ∃ L : List Sn, Snodes W.heap.size W v L ∧ ∀ r ∈ L, r.data.length ≤ maxLen :=
  open_recs Tryd.underlying22 sn_cells (by omega) sn_read hok h hlt
end
end Go.Proofs.YtmpjjfhmkfchfaaDoor.W08
/-
  Layer 4 (path), a walk: the plain answer's Parts: a text's parts, in new memory, at every text of at most 2^40 bytes; nothing that was there is changed.
-/
namespace Go.Proofs.YtmpjjfhmkfchfaaDoor.W04
set_option maxRecDepth 100000
open Go Go.RowKit Go.Proofs.YtmpjjfhmkfchfaaDoor.Strs Go.Proofs.YtmpjjfhmkfchfaaDoor.M04
open Go.Proofs.YtmpjjfhmkfchfaaDoor.Kit (drop_next drop_end mk_bytes one_size one_byte cat_bytes byte_eq byte_ne list_full list_ne list_none list_nil bytes_nil bytes_cons)

/-- what stands at a round's head -/
def Pst (l : Bytes) (k : Nat) (out : List Bytes) (now : Bytes) : Prop := (k ≤ l.length ∧ out ++ pgo (l.drop k) now = parts l) ∨ (k = l.length + 1 ∧ out = parts l)
def Going (s : ByteArray) (k : Nat) (out : List Bytes) (now : ByteArray) : Prop := Pst s.data.toList k out now.data.toList
theorem going_start (s : ByteArray) : Going s 0 [] ⟨#[]⟩ := Or.inl ⟨Nat.zero_le _, rfl⟩
section
variable {s : ByteArray} {k : Nat} {out : List Bytes} {now : ByteArray}
theorem going_in (h : Going s k out now) (hk : k < s.size) : out ++ pgo (s[k] :: s.data.toList.drop (k + 1)) now.data.toList = parts s.data.toList := by
  rw [Lib.size_eq] at hk
  rcases h with ⟨_, h⟩ | ⟨h, _⟩
  · rw [drop_next s k (by rw [Lib.size_eq]; exact hk)] at h; exact h
  · omega
theorem going_char (h : Going s k out now) (hk : k < s.size) (hc : ¬ s[k] = 47) : Going s (k + 1) out (now ++ s.extract k (k + 1)) := by
  have := going_in h hk
  left
  refine ⟨by rw [← Lib.size_eq]; omega, ?_⟩
  rw [pgo, if_neg hc] at this
  rw [cat_bytes, one_byte s k hk]; exact this
theorem going_slash (h : Going s k out now) (hk : k < s.size) (hc : s[k] = 47) : Going s (k + 1) (out ++ flush now.data.toList) ⟨#[]⟩ := by
  have := going_in h hk
  left
  refine ⟨by rw [← Lib.size_eq]; omega, ?_⟩
  rw [pgo, if_pos hc] at this
  rw [List.append_assoc]; exact this
theorem going_end (h : Going s k out now) (hk : k = s.size) : Going s (k + 1) (out ++ flush now.data.toList) ⟨#[]⟩ := by
  right
  refine ⟨by rw [hk, Lib.size_eq], ?_⟩
  rcases h with ⟨_, h⟩ | ⟨h, _⟩
  · rw [hk, drop_end s s.size (Nat.lt_irrefl _)] at h; exact h
  · rw [Lib.size_eq] at hk; omega
theorem going_stop (h : Going s k out now) (hk : s.size < k) : out = parts s.data.toList := by
  rcases h with ⟨h, _⟩ | ⟨_, h⟩
  · rw [Lib.size_eq] at hk; omega
  · exact h
theorem flush_keep (h : 0 < now.size) (h2 : (now.toList == [46]) = false) : flush now.data.toList = [now.data.toList] := by
  unfold flush
  rw [if_neg]
  rintro (e | e)
  · rw [bytes_cons h] at e; simp at e
  · rw [Lib.toList_data, e] at h2; simp at h2
theorem flush_void (h : ¬ 0 < now.size) : flush now.data.toList = [] := by unfold flush; rw [if_pos (Or.inl (bytes_nil h))]
theorem flush_point (h2 : (now.toList == [46]) = true) : flush now.data.toList = [] := by
  unfold flush; rw [if_pos (Or.inr (by rw [← Lib.toList_data]; exact beq_iff_eq.1 h2))]
end
/-- what a call returns that makes a row of texts -/
def Makes (w : World) (L : List Bytes) (e : Ending) (w' : World) : Prop := ∃ v, e = .returned v ∧ w'.ownsRow w.heap.size 9 1 v L.length (L.map strV) ∧ Below w.heap.size w w'
theorem makes_done {w w' : World} {L out : List Bytes} {v : Value} (h : out = L) (hown : w'.ownsRow w.heap.size 9 1 v out.length (out.map strV)) (hb : Below w.heap.size w w') : Makes w L (.returned v) w' := by
  subst h; exact ⟨v, rfl, hown, hb⟩

set_option maxHeartbeats 1000000 in
theorem refParts_any (s : ByteArray) (hs : s.size ≤ 1099511627776) (w : World) :
    Calls Tryd.prog 27 #[.string s] w (Makes w (parts s.data.toList)) := by
  obtain ⟨i0, hi, hz0, hz1, hz2⟩ := info_parts text_info
  go_enter Tryd.func27, Tryd.ntmps27
  go_wp2
  go_loopw [3, 4, 5] (fun v d i wr => ∃ (k : Nat) (out : List Bytes) (now : ByteArray), k ≤ s.size + 1 ∧ i = .int .i64 k ∧ d = .string now ∧ now.size ≤ k ∧ out.length ≤ k ∧ Hid (Going s k out now) ∧ Hid (wr.ownsRow w.heap.size 9 1 v out.length (out.map strV)) ∧ Below w.heap.size w wr) (fun _ _ i _ => s.size + 1 - (intOf i).toNat)
  case atStart => exact ⟨0, [], ⟨#[]⟩, Nat.zero_le _, rfl, rfl, Nat.zero_le _, Nat.le_refl _, going_start s, World.ownsRow_nil _ _ _ _, Below.refl _ _⟩
  case round =>
    obtain ⟨k, out, now, hk, rfl, rfl, hnow, hout, hg, hown, hb⟩ := hrel
    have hbs := hb.size
    by_cases hlt : k < s.size
    · by_cases h47 : (s[k].toNat : Int) = 47
      · have HG := Lib.hid (going_slash hg.out hlt (byte_eq (d := 47) h47))
        have t47 : ((s[k].toNat : Int) != 47) = false := by simp [h47]
        clear h47
        by_cases h0 : 0 < now.size
        · have hn := list_ne h0
          have hf := list_full h0
          cases hp : (now.toList == [46]) with
          | true =>
            have HX : Hid (Going s (k + 1) out ⟨#[]⟩) := by have := HG.out; rw [flush_point hp, List.append_nil] at this; exact this
            have hpe := beq_iff_eq.1 hp
            go_wp2
            go_roundw
            case rel => exact ⟨k + 1, out, ⟨#[]⟩, by omega, by go_num, rfl, Nat.zero_le _, by omega, HX, hown, hb⟩
            case measure => simp [intOf]; omega
          | false =>
            have HX : Hid (Going s (k + 1) (out ++ [now.data.toList]) ⟨#[]⟩) := by have := HG.out; rw [flush_keep h0 hp] at this; exact this
            have hpe := beq_eq_false_iff_ne.1 hp
            go_wp2_with (at_builtin; refine wpList_append_own _ rfl (.tmp 35) (.tmp 37) 60 rfl w.heap.size 9 i0 (.string ⟨#[]⟩) 1 16 Tryd.underlying60 hi hz0 hz1 hz2 rfl (by decide) _ _ _ rfl (hown.out.alloc _) ⟨_, 0, none⟩ 1 1 [.string now] rfl rfl (cell_one_new _ _ _) (by intro u hu; simp at hu; subst hu; rfl) (by unfold maxLen; omega) (by omega) (by simp; omega) ?_; intro v1 w1 hown1 hgrow1 _)
            have B1 := Lib.hid (below_more hb hown.out hgrow1)
            have O1 := Lib.hid (own_more hown1)
            clear hown1 hgrow1
            go_wp2
            go_roundw
            case rel => exact ⟨k + 1, out ++ [now.data.toList], ⟨#[]⟩, by omega, by go_num, rfl, Nat.zero_le _, by rw [List.length_append]; simp; omega, HX, O1, B1.out⟩
            case measure => simp [intOf]; omega
        · have hn := list_nil h0
          have hf := list_none h0
          have HX : Hid (Going s (k + 1) out ⟨#[]⟩) := by have := HG.out; rw [flush_void h0, List.append_nil] at this; exact this
          go_wp2
          go_roundw
          case rel => exact ⟨k + 1, out, ⟨#[]⟩, by omega, by go_num, rfl, Nat.zero_le _, by omega, HX, hown, hb⟩
          case measure => simp [intOf]; omega
      · have HG := Lib.hid (going_char hg.out hlt (byte_ne (d := 47) h47))
        have t47 : ((s[k].toNat : Int) != 47) = true := by simp [h47]
        have h1 := one_size s k hlt
        clear h47
        go_wp2
        go_roundw
        case rel => exact ⟨k + 1, out, _, by omega, by go_num, rfl, by rw [ByteArray.size_append]; omega, by omega, HG, hown, hb⟩
        case measure => simp [intOf]; omega
    · by_cases hke : k = s.size
      · have HG := Lib.hid (going_end hg.out hke)
        by_cases h0 : 0 < now.size
        · have hn := list_ne h0
          have hf := list_full h0
          cases hp : (now.toList == [46]) with
          | true =>
            have HX : Hid (Going s (k + 1) out ⟨#[]⟩) := by have := HG.out; rw [flush_point hp, List.append_nil] at this; exact this
            have hpe := beq_iff_eq.1 hp
            go_wp2
            go_roundw
            case rel => exact ⟨k + 1, out, ⟨#[]⟩, by omega, by go_num, rfl, Nat.zero_le _, by omega, HX, hown, hb⟩
            case measure => simp [intOf]; omega
          | false =>
            have HX : Hid (Going s (k + 1) (out ++ [now.data.toList]) ⟨#[]⟩) := by have := HG.out; rw [flush_keep h0 hp] at this; exact this
            have hpe := beq_eq_false_iff_ne.1 hp
            go_wp2_with (at_builtin; refine wpList_append_own _ rfl (.tmp 35) (.tmp 37) 60 rfl w.heap.size 9 i0 (.string ⟨#[]⟩) 1 16 Tryd.underlying60 hi hz0 hz1 hz2 rfl (by decide) _ _ _ rfl (hown.out.alloc _) ⟨_, 0, none⟩ 1 1 [.string now] rfl rfl (cell_one_new _ _ _) (by intro u hu; simp at hu; subst hu; rfl) (by unfold maxLen; omega) (by omega) (by simp; omega) ?_; intro v1 w1 hown1 hgrow1 _)
            have B1 := Lib.hid (below_more hb hown.out hgrow1)
            have O1 := Lib.hid (own_more hown1)
            clear hown1 hgrow1
            go_wp2
            go_roundw
            case rel => exact ⟨k + 1, out ++ [now.data.toList], ⟨#[]⟩, by omega, by go_num, rfl, Nat.zero_le _, by rw [List.length_append]; simp; omega, HX, O1, B1.out⟩
            case measure => simp [intOf]; omega
        · have hn := list_nil h0
          have hf := list_none h0
          have HX : Hid (Going s (k + 1) out ⟨#[]⟩) := by have := HG.out; rw [flush_void h0, List.append_nil] at this; exact this
          go_wp2
          go_roundw
          case rel => exact ⟨k + 1, out, ⟨#[]⟩, by omega, by go_num, rfl, Nat.zero_le _, by omega, HX, hown, hb⟩
          case measure => simp [intOf]; omega
      · have HE := Lib.hid (going_stop hg.out (by omega))
        go_wp2
        go_ret
        exact makes_done HE.out hown.out hb
end Go.Proofs.YtmpjjfhmkfchfaaDoor.W04
/-
  Layer 4 (path), walks: the plain answers text, Clean, Join, Dir and Base: what each returns at texts of at most 2^40 bytes; new memory may be laid, nothing that was there is changed.
-/
namespace Go.Proofs.YtmpjjfhmkfchfaaDoor.W04
set_option maxRecDepth 100000
open Go Go.RowKit Go.Proofs.YtmpjjfhmkfchfaaDoor.Strs Go.Proofs.YtmpjjfhmkfchfaaDoor.M04
open Go.Proofs.YtmpjjfhmkfchfaaDoor.Kit (ret_str mk_of mk_bytes ba_ext cat_bytes list_full list_ne list_none list_nil bytes_nil bytes_cons byte_eq byte_ne below_draws on)

theorem flat_next {L : List Bytes} {k : Nat} (hk : k < L.length) : (L.take (k + 1)).flatMap (fun p => 47 :: p) = (L.take k).flatMap (fun p => 47 :: p) ++ 47 :: L.getD k [] := by
  rw [List.take_succ_eq_append_getElem hk, List.flatMap_append]
  simp [hk]
theorem flat_all {L : List Bytes} {k : Nat} (hk : ¬ k < L.length) : (L.take k).flatMap (fun p => 47 :: p) = L.flatMap (fun p => 47 :: p) := by rw [List.take_of_length_le (by omega)]
theorem flat_bound (L : List Bytes) (k : Nat) : ((L.take k).flatMap (fun p => 47 :: p)).length ≤ total L := by
  rw [flat_total]
  conv => rhs; rw [← List.take_append_drop k L, total_append]
  omega
theorem part_bound {L : List Bytes} {k : Nat} (hk : k < L.length) : (L.getD k []).length ≤ total L := by
  induction L generalizing k with
  | nil => simp at hk
  | cons p L ih =>
    rw [total_cons]
    cases k with
    | zero => simp; omega
    | succ k =>
      have := ih (k := k) (by simpa using hk)
      simp at this ⊢; omega
theorem text_full {L : List Bytes} (h : L ≠ []) : text L = L.flatMap (fun p => 47 :: p) := by unfold text; rw [if_neg h]
theorem flat_none {L : List Bytes} (h : ¬ 0 < L.length) : L = [] := List.length_eq_zero_iff.1 (by omega)
theorem flat_some {L : List Bytes} (h : 0 < (L.flatMap (fun p => 47 :: p)).length) : L ≠ [] := by rintro rfl; simp at h

set_option maxHeartbeats 400000 in
theorem refText_any (v : Value) (L : List Bytes) (B : Nat) (w : World) (h : Texts B w v L) (hl : total L ≤ 4398046511104) :
    Calls Tryd.prog 43 #[v] w fun e w' => e = .returned (.string ⟨(text L).toArray⟩) ∧ ∃ n, w' = w.drewN n := by
  obtain ⟨A, c, rfl, hA1, hA2⟩ := h.form
  have H := Lib.hid h
  unfold maxLen at hA2
  clear h
  generalize hm : L.length = n at *
  have HM := Lib.hid hm
  clear hm
  go_enter Tryd.func43, Tryd.ntmps43
  go_wp2
  go_loopw [3, 4] (fun d i wr => ∃ (k : Nat) (t : ByteArray), k ≤ n ∧ i = .int .i64 k ∧ d = .string t ∧ Hid (t.data.toList = (L.take k).flatMap (fun p => 47 :: p)) ∧ ∃ q, wr = w.drewN q) (fun _ i _ => n - (intOf i).toNat)
  case atStart => exact ⟨0, ⟨#[]⟩, Nat.zero_le _, rfl, rfl, rfl, 0, rfl⟩
  case round =>
    obtain ⟨k, t, hk, rfl, rfl, ht, q, rfl⟩ := hrel
    have hsz : t.size ≤ 4398046511104 := by rw [Lib.size_eq, ht.out]; exact Nat.le_trans (flat_bound L k) hl
    by_cases hlt : k < n
    · obtain ⟨ad, s, rfl, hbl, hc, hs⟩ := H.out.at_ hlt
      have hss : s.size ≤ 4398046511104 := by rw [Lib.size_eq, hs]; exact Nat.le_trans (part_bound (by rw [HM.out]; exact hlt)) hl
      have HT : Hid ((t ++ (⟨#[47]⟩ ++ s)).data.toList = (L.take (k + 1)).flatMap (fun p => 47 :: p)) := by
        show _ = _
        rw [flat_next (by rw [HM.out]; exact hlt), cat_bytes, cat_bytes, ht.out, hs]; rfl
      clear hs
      go_wp2
      go_roundw
      case rel => exact ⟨k + 1, _, by omega, by go_num, rfl, HT, q, rfl⟩
      case measure => simp [intOf]; omega
    · have HT := Lib.hid (ht.out.trans (flat_all (by rw [HM.out]; exact hlt)))
      by_cases h0 : 0 < t.size
      · have hf := list_full h0
        have hn := list_ne h0
        go_wp2
        go_ret
        refine ⟨ret_str (mk_of ?_).symm, q, rfl⟩
        rw [text_full]
        · exact HT.out
        · exact flat_some (by rw [← HT.out, ← Lib.size_eq]; exact h0)
      · have hf := list_none h0
        have hn := list_nil h0
        go_wp2
        go_ret
        refine ⟨ret_str ?_, q, rfl⟩
        have : L = [] := by
          have e := HT.out
          rw [bytes_nil h0] at e
          cases L with
          | nil => rfl
          | cons p L => simp at e
        rw [this]; rfl

/-! ### Clean -/
theorem fold_next {L : List Bytes} {k : Nat} (hk : k < L.length) : (L.take (k + 1)).foldl cstep [] = cstep ((L.take k).foldl cstep []) (L.getD k []) := by
  rw [List.take_succ_eq_append_getElem hk, List.foldl_append]
  simp [hk]
theorem fold_all {L : List Bytes} {k : Nat} (hk : ¬ k < L.length) : (L.take k).foldl cstep [] = cparts L := by rw [List.take_of_length_le (by omega)]; rfl
theorem fold_count : ∀ (L out : List Bytes), (L.foldl cstep out).length ≤ out.length + L.length
  | [], out => by simp
  | p :: L, out => by
    have h := fold_count L (cstep out p)
    have h2 : (cstep out p).length ≤ out.length + 1 := by unfold cstep; split <;> simp; omega
    rw [List.foldl_cons, List.length_cons]; omega
theorem clean_total (L : List Bytes) : total (cparts L) ≤ total L := by
  have := fold_total L []
  have e : total [] = 0 := rfl
  unfold cparts; omega
theorem take_drop_map {out : List Bytes} {n : Nat} (h : out.length = n + 1) : (out.map strV).take n = out.dropLast.map strV := by
  rw [List.dropLast_eq_take, h, List.map_take]; rfl

set_option maxHeartbeats 1000000 in
theorem refClean_any (s d : ByteArray) (hd : d.data.toList = clean s.data.toList) (hs : s.size ≤ 1099511627776) (w : World) :
    Calls Tryd.prog 18 #[.string s] w fun e w' => e = .returned (.string d) ∧ Below w.heap.size w w' := by
  obtain ⟨i0, hi, hz0, hz1, hz2⟩ := info_parts text_info
  have HD := Lib.hid hd
  have HP := Lib.hid (refParts_any s hs)
  have HC := Lib.hid (parts_count s.data.toList)
  have HTO := Lib.hid (parts_total s.data.toList)
  have HS := Lib.hid (Lib.size_eq s)
  clear hd
  have HDD : Hid (d.data.toList = text (cparts (parts s.data.toList))) := HD.out
  clear HD
  generalize parts s.data.toList = L at *
  have hn : L.length ≤ 1099511627777 := by have := HC.out; have := HS.out; omega
  go_enter Tryd.func18, Tryd.ntmps18
  go_wp2_with fail
  refine (HP.out _).mono ?_
  rintro e w1 ⟨v, rfl, hown1, hb1⟩
  have T1 := Lib.hid (Texts.of_own hown1)
  have B1 := Lib.hid hb1
  clear hown1 hb1
  obtain ⟨A, c, rfl, hA1, hA2⟩ := T1.out.form
  unfold maxLen at hA2
  generalize hm : L.length = n at *
  have HM := Lib.hid hm
  clear hm
  go_wp2
  go_loopw [4, 5] (fun u i wr => ∃ (k : Nat) (out : List Bytes), k ≤ n ∧ i = .int .i64 k ∧ out.length ≤ k ∧ Hid (out = (L.take k).foldl cstep []) ∧ Hid (wr.ownsRow w1.heap.size 9 1 u out.length (out.map strV)) ∧ Below w1.heap.size w1 wr) (fun _ i _ => n - (intOf i).toNat)
  case atStart => exact ⟨0, [], Nat.zero_le _, rfl, Nat.le_refl _, rfl, World.ownsRow_nil _ _ _ _, Below.refl _ _⟩
  case round =>
    obtain ⟨k, out, hk, rfl, hout, hf, hown, hb⟩ := hrel
    have hbs := hb.size
    by_cases hlt : k < n
    · obtain ⟨ad, p, rfl, hbl, hc, hp⟩ := (T1.out.below hb).at_ hlt
      have HF := Lib.hid (fold_next (L := L) (k := k) (by rw [HM.out]; exact hlt))
      rw [← hp, ← hf.out] at HF
      clear hp
      cases hdd : (p.toList == [46, 46]) with
      | true =>
        have hpe := beq_iff_eq.1 hdd
        have HX : Hid ((L.take (k + 1)).foldl cstep [] = out.dropLast) := by
          show _ = _
          rw [HF.out]; unfold cstep; rw [if_pos (by rw [← Lib.toList_data]; exact hpe)]
        by_cases h0 : 0 < out.length
        · obtain ⟨m, hm1⟩ : ∃ m, out.length = m + 1 := ⟨out.length - 1, by omega⟩
          have hown2 := hown.out
          rw [hm1] at hown2
          obtain ⟨g, cc, rfl, hc1, hc2, hless⟩ := own_less hown2
          rw [take_drop_map hm1] at hless
          have O : Hid (wr.ownsRow w1.heap.size 9 1 (.slice (some ⟨g, 0, none⟩) m cc) out.dropLast.length (out.dropLast.map strV)) := by
            show World.ownsRow _ _ _ _ _ _ _
            rw [List.length_dropLast, hm1]; exact hless
          have HL : Hid (out.dropLast.length = m) := by show _ = _; rw [List.length_dropLast, hm1]; rfl
          clear hless hown2
          unfold maxLen at hc2
          go_wp2
          go_roundw
          case rel => exact ⟨k + 1, out.dropLast, by omega, by go_num, by rw [HL.out]; omega, HX.out.symm, O, hb⟩
          case measure => simp [intOf]; omega
        · have e0 : out = [] := flat_none h0
          subst e0
          have hv := hown.out
          rcases hv.2 with ⟨rfl, -⟩ | ⟨g, cc, cur, rfl, -, -, -, -, -, -⟩ <;>
          · clear hv
            go_wp2
            go_roundw
            case rel => exact ⟨k + 1, [], by omega, by go_num, Nat.zero_le _, HX.out.symm, hown, hb⟩
            case measure => simp [intOf]; omega
      | false =>
        have hpe := beq_eq_false_iff_ne.1 hdd
        have HX : Hid ((L.take (k + 1)).foldl cstep [] = out ++ [p.data.toList]) := by
          show _ = _
          rw [HF.out]; unfold cstep; rw [if_neg (by rw [← Lib.toList_data]; exact hpe)]
        go_wp2_with (at_builtin; refine wpList_append_own _ rfl (.tmp 19) (.tmp 24) 60 rfl w1.heap.size 9 i0 (.string ⟨#[]⟩) 1 16 Tryd.underlying60 hi hz0 hz1 hz2 rfl (by decide) _ _ _ rfl (hown.out.alloc _) ⟨_, 0, none⟩ 1 1 [.string p] rfl rfl (cell_one_new _ _ _) (by intro u hu; simp at hu; subst hu; rfl) (by unfold maxLen; omega) (by omega) (by simp; omega) ?_; intro v1 w2 hown1 hgrow1 _)
        have B2 := Lib.hid (below_more hb hown.out hgrow1)
        have O1 := Lib.hid (own_more hown1)
        clear hown1 hgrow1
        go_wp2
        go_roundw
        case rel => exact ⟨k + 1, out ++ [p.data.toList], by omega, by go_num, by rw [List.length_append]; simp; omega, HX.out.symm, O1, B2.out⟩
        case measure => simp [intOf]; omega
    · have HX := Lib.hid (hf.out.trans (fold_all (by rw [HM.out]; exact hlt)))
      have T2 := Lib.hid (Texts.of_own hown.out)
      have HL : Hid (total out ≤ 4398046511104) := by
        show _ ≤ _
        rw [HX.out]
        have := clean_total L; have := HTO.out; have := HS.out; omega
      go_wp2_with fail
      refine (refText_any _ out _ _ T2.out HL.out).mono ?_
      rintro e w2 ⟨rfl, q, rfl⟩
      go_wp2_with fail
      go_ret
      exact ⟨ret_str (by rw [HX.out]; exact mk_of HDD.out), on B1.out (hb.trans ((below_draws _ _).mono hb.size))⟩
end Go.Proofs.YtmpjjfhmkfchfaaDoor.W04
/-
  Layer 4 (path), walks: the plain answers Join, Dir, Base and Is: what each returns at texts of at most 2^40 bytes; new memory may be laid, nothing that was there is changed.
-/
namespace Go.Proofs.YtmpjjfhmkfchfaaDoor.W04
open Go Go.RowKit Go.Proofs.YtmpjjfhmkfchfaaDoor.Strs Go.Proofs.YtmpjjfhmkfchfaaDoor.M04
open Go.Proofs.YtmpjjfhmkfchfaaDoor.M03 (check)
open Go.Proofs.YtmpjjfhmkfchfaaDoor.Kit (ret_str ret_bool mk_of mk_bytes ba_ext cat_bytes list_full list_ne list_none list_nil bytes_nil bytes_cons byte_eq byte_ne below_draws on)

theorem clean_size {s d : ByteArray} (hd : d.data.toList = clean s.data.toList) : d.size ≤ s.size + 2 := by
  rw [Lib.size_eq, hd, Lib.size_eq]; exact clean_len _
theorem join_rooted {dir s : ByteArray} (h0 : 0 < s.size) (h : s[0] = 47) : join dir.data.toList s.data.toList = clean s.data.toList := by
  unfold join; rw [if_pos]; rw [bytes_cons h0, h]; rfl
theorem join_from {dir s : ByteArray} (h : ∀ h0 : 0 < s.size, ¬ s[0] = 47) : join dir.data.toList s.data.toList = clean (dir ++ ⟨#[47]⟩ ++ s).data.toList := by
  unfold join
  rw [if_neg, cat_bytes, cat_bytes, List.append_assoc]
  · rfl
  · intro e
    by_cases h0 : 0 < s.size
    · rw [bytes_cons h0] at e
      exact h h0 (by simpa using e)
    · rw [bytes_nil h0] at e; simp at e


end Go.Proofs.YtmpjjfhmkfchfaaDoor.W04
/-
  Layer 4 (path), walks: the plain answers Is and Under: what each returns at texts of at most 2^40 bytes; new memory may be laid, nothing that was there is changed.
-/
namespace Go.Proofs.YtmpjjfhmkfchfaaDoor.W04
set_option maxRecDepth 100000
open Go Go.RowKit Go.Proofs.YtmpjjfhmkfchfaaDoor.Strs Go.Proofs.YtmpjjfhmkfchfaaDoor.M04
open Go.Proofs.YtmpjjfhmkfchfaaDoor.M03 (check)
open Go.Proofs.YtmpjjfhmkfchfaaDoor.Kit (ret_str ret_bool mk_of mk_bytes ba_ext cat_bytes list_full list_ne list_none list_nil bytes_nil bytes_cons byte_eq byte_ne below_draws on)

theorem ne_bytes {a b : ByteArray} (h : ¬ a.data.toList = b.data.toList) : (a.toList == b.toList) = false := by
  rw [Lib.toList_data, Lib.toList_data]; simpa using h
theorem eq_bytes {a b : ByteArray} (h : a.data.toList = b.data.toList) : (a.toList == b.toList) = true := by
  rw [Lib.toList_data, Lib.toList_data]; simpa using h
theorem is_text {l : Bytes} (h : ¬ l = text (parts l)) : isPath l = false := by simp [isPath, h]
theorem is_long {l : Bytes} (h : 1024 < l.length) : isPath l = false := by
  have : ¬ l.length ≤ 1024 := by omega
  simp [isPath, this]
theorem is_all {l : Bytes} (h : l = text (parts l)) (h2 : l.length ≤ 1024) : isPath l = (parts l).all (fun p => decide (check p = 0)) := by
  unfold isPath; rw [decide_eq_true h, decide_eq_true h2]; rfl
theorem all_next {L : List Bytes} {k : Nat} (hk : k < L.length) (h : (L.take k).all (fun p => decide (check p = 0)) = true) (hc : check (L.getD k []) = 0) : (L.take (k + 1)).all (fun p => decide (check p = 0)) = true := by
  rw [List.take_succ_eq_append_getElem hk, List.all_append, h]
  have e : L[k] = L.getD k [] := by simp [hk]
  rw [e]
  simp only [List.all_cons, List.all_nil, Bool.and_true, Bool.true_and, decide_eq_true_eq]
  exact hc
theorem all_not {L : List Bytes} {k : Nat} (hk : k < L.length) (hc : ¬ check (L.getD k []) = 0) : L.all (fun p => decide (check p = 0)) = false := by
  rw [List.all_eq_false]
  refine ⟨L.getD k [], ?_, by simpa using hc⟩
  have e : L.getD k [] = L[k] := by simp [hk]
  rw [e]; exact List.getElem_mem hk

set_option maxHeartbeats 1000000 in
theorem refIs_any (s : ByteArray) (hs : s.size ≤ 1099511627776) (w : World) :
    Calls Tryd.prog 38 #[.string s] w fun e w' => e = .returned (.bool (isPath s.data.toList)) ∧ Below w.heap.size w w' := by
  obtain ⟨t, ht⟩ : ∃ t : ByteArray, t.data.toList = text (parts s.data.toList) := ⟨⟨(text (parts s.data.toList)).toArray⟩, rfl⟩
  have HP := Lib.hid (refParts_any s hs)
  have HL : Hid (total (parts s.data.toList) ≤ 4398046511104) := by
    show _ ≤ _
    have h2 := parts_total s.data.toList
    rw [← Lib.size_eq] at h2
    omega
  have H1 := Lib.hid (is_text (l := s.data.toList))
  have H2 := Lib.hid (is_long (l := s.data.toList))
  have H3 := Lib.hid (is_all (l := s.data.toList))
  generalize isPath s.data.toList = R at *
  generalize parts s.data.toList = L at *
  have HT := Lib.hid ht
  have HTX := Lib.hid (mk_of ht)
  clear ht
  have HS := Lib.hid (Lib.size_eq s)
  go_enter Tryd.func38, Tryd.ntmps38
  go_wp2_with fail
  refine (HP.out _).mono ?_
  rintro e w1 ⟨v, rfl, hown1, hb1⟩
  have T1 := Lib.hid (Texts.of_own hown1)
  have B1 := Lib.hid hb1
  clear hown1 hb1
  obtain ⟨A, c, rfl, hA1, hA2⟩ := T1.out.form
  unfold maxLen at hA2
  go_wp2_with fail
  refine (refText_any _ L _ _ T1.out HL.out).mono ?_
  rintro e w2 ⟨rfl, q, rfl⟩
  rw [HTX.out]
  by_cases hst : s.data.toList = t.data.toList
  · have hne := eq_bytes hst
    have HST : Hid (s.data.toList = text L) := hst.trans HT.out
    clear hst
    by_cases hlong : (1024 : Int) < s.size
    · go_wp2_with fail
      go_ret
      exact ⟨ret_bool (H2.out (by rw [← HS.out]; omega)).symm, B1.out.trans ((below_draws w1 q).mono B1.out.size)⟩
    · have hsh : (s.size : Int) ≤ 1024 := by omega
      have HA := Lib.hid (H3.out HST.out (by rw [← HS.out]; omega))
      clear hlong
      generalize hm : L.length = n at *
      have HM := Lib.hid hm
      clear hm
      go_wp2_with fail
      go_loopw [4] (fun i wr => ∃ k : Nat, k ≤ n ∧ i = .int .i64 k ∧ Hid ((L.take k).all (fun p => decide (check p = 0)) = true) ∧ wr = w1.drewN q) (fun i _ => n - (intOf i).toNat)
      case atStart => exact ⟨0, Nat.zero_le _, rfl, rfl, rfl⟩
      case round =>
        obtain ⟨k, hk, rfl, hr, rfl⟩ := hrel
        by_cases hlt : k < n
        · obtain ⟨ad, p, rfl, hbl, hc, hp⟩ := T1.out.at_ hlt
          by_cases h0 : check p.data.toList = 0
          · have HX := Lib.hid (all_next (by rw [HM.out]; exact hlt) hr.out (by rw [← hp]; exact h0))
            have HC := Lib.hid (W03.refCheck_any p)
            rw [h0] at HC
            clear h0 hp
            go_wp2_with fail
            refine (HC.out _).mono ?_
            rintro e w3 ⟨rfl, rfl⟩
            go_wp2_with fail
            go_roundw
            case rel => exact ⟨k + 1, by omega, by go_num, HX, by trivial⟩
            case measure => simp [intOf]; omega
          · have HX := Lib.hid (all_not (L := L) (k := k) (by rw [HM.out]; exact hlt) (by rw [← hp]; exact h0))
            have HC := Lib.hid (W03.refCheck_any p)
            have hz : (check p.data.toList != 0) = true := by simpa using h0
            clear h0 hp
            generalize check p.data.toList = z at *
            go_wp2_with fail
            refine (HC.out _).mono ?_
            rintro e w3 ⟨rfl, rfl⟩
            go_wp2_with fail
            go_ret
            exact ⟨ret_bool (HA.out.trans HX.out).symm, B1.out.trans ((below_draws w1 q).mono B1.out.size)⟩
        · have HX : Hid (L.all (fun p => decide (check p = 0)) = true) := by
            have := hr.out
            rw [List.take_of_length_le (by rw [HM.out]; omega)] at this; exact this
          go_wp2_with fail
          go_ret
          exact ⟨ret_bool (HA.out.trans HX.out).symm, B1.out.trans ((below_draws w1 q).mono B1.out.size)⟩
  · have hne := ne_bytes hst
    have HST : Hid (¬ s.data.toList = text L) := fun e => hst (e.trans HT.out.symm)
    clear hst
    go_wp2_with fail
    go_ret
    exact ⟨ret_bool (H1.out HST.out).symm, B1.out.trans ((below_draws w1 q).mono B1.out.size)⟩

/-! ### Under -/
theorem under_not {s d : Bytes} (h : isUnder s d = false) : under s d = ([], false) := by unfold under; rw [h]; rfl
theorem under_first {s d : Bytes} (h : ¬ clean s = s) : under s d = ([], false) := under_not (by simp [isUnder, h])
theorem under_second {s d : Bytes} (h : ¬ clean d = d) : under s d = ([], false) := under_not (by simp [isUnder, h])
theorem under_short {s d : Bytes} (h : (parts s).length < (parts d).length) : under s d = ([], false) := under_not (by
  have : (parts d).isPrefixOf (parts s) = false := by
    rw [Bool.eq_false_iff]
    intro e
    have := (List.isPrefixOf_iff_prefix.1 e).length_le
    omega
  simp [isUnder, this])
theorem under_differ {s d : Bytes} {k : Nat} (h : k < (parts d).length) (h2 : ¬ (parts s).getD k [] = (parts d).getD k []) : under s d = ([], false) := under_not (by
  have : (parts d).isPrefixOf (parts s) = false := by
    rw [Bool.eq_false_iff]
    intro e
    obtain ⟨t, ht⟩ := List.isPrefixOf_iff_prefix.1 e
    apply h2
    rw [← ht, List.getD_eq_getElem?_getD, List.getElem?_append_left h, ← List.getD_eq_getElem?_getD]
  simp [isUnder, this])
theorem prefix_of {a b : List Bytes} (hl : b.length ≤ a.length) (h : ∀ j, j < b.length → a.getD j [] = b.getD j []) : b.isPrefixOf a = true := by
  rw [List.isPrefixOf_iff_prefix, List.prefix_iff_eq_take]
  apply List.ext_getElem (by rw [List.length_take]; omega)
  intro i h1 h2
  have := h i h1
  have h3 : i < a.length := by omega
  rw [List.getElem_take]
  simpa [List.getD_eq_getElem?_getD, h1, h3] using this.symm
theorem under_yes {s d : Bytes} (hs : clean s = s) (hd : clean d = d) (hl : ¬ (parts s).length < (parts d).length) (h : ∀ j, j < (parts d).length → (parts s).getD j [] = (parts d).getD j []) : under s d = (slashed ((parts s).drop (parts d).length), true) := by
  unfold under
  rw [if_pos]
  simp [isUnder, hs, hd, prefix_of (by omega) h]
theorem slashed_snoc (L : List Bytes) (x : Bytes) (h : L ≠ []) : slashed (L ++ [x]) = slashed L ++ 47 :: x := by
  induction L with
  | nil => exact absurd rfl h
  | cons a L ih =>
    cases L with
    | nil => rfl
    | cons b r =>
      have := ih (by simp)
      show a ++ 47 :: slashed (b :: r ++ [x]) = (a ++ 47 :: slashed (b :: r)) ++ 47 :: x
      rw [this]; simp
theorem slashed_len : ∀ L : List Bytes, (slashed L).length ≤ total L
  | [] => by simp [slashed]
  | [p] => by simp [slashed, total]
  | p :: q :: r => by
    have := slashed_len (q :: r)
    show (p ++ 47 :: slashed (q :: r)).length ≤ _
    rw [total_cons, List.length_append, List.length_cons]; omega
theorem drop_total (L : List Bytes) (n k : Nat) : total ((L.drop n).take k) ≤ total L := by
  have h1 : total L = total (L.take n) + total (L.drop n) := by rw [← total_append, List.take_append_drop]
  have h2 : total (L.drop n) = total ((L.drop n).take k) + total ((L.drop n).drop k) := by rw [← total_append, List.take_append_drop]
  omega
/-- what has been put together when k parts are gone through -/
def sofar (a : List Bytes) (n k : Nat) : Bytes := slashed ((a.drop n).take (k - n))
theorem sofar_below {a : List Bytes} {n k : Nat} (h : k < n) : sofar a n (k + 1) = sofar a n k := by
  unfold sofar; rw [show k + 1 - n = 0 by omega, show k - n = 0 by omega]
theorem sofar_first {a : List Bytes} {n : Nat} (h : n < a.length) : sofar a n (n + 1) = a.getD n [] := by
  unfold sofar
  rw [show n + 1 - n = 1 by omega, List.drop_eq_getElem_cons h, List.take_succ_cons, List.take_zero]
  show a[n] = _
  simp [h]
theorem sofar_more {a : List Bytes} {n k : Nat} (h : n < k) (hk : k < a.length) : sofar a n (k + 1) = sofar a n k ++ 47 :: a.getD k [] := by
  unfold sofar
  have h1 : k - n < (a.drop n).length := by rw [List.length_drop]; omega
  rw [show k + 1 - n = k - n + 1 by omega, List.take_succ_eq_append_getElem h1, slashed_snoc]
  · rw [List.getElem_drop]
    have : n + (k - n) = k := by omega
    simp [this, hk]
  · intro e
    have := congrArg List.length e
    rw [List.length_take, List.length_nil] at this
    omega
theorem sofar_start (a : List Bytes) (n : Nat) : sofar a n n = [] := by unfold sofar; rw [Nat.sub_self]; rfl
theorem sofar_zero (a : List Bytes) (n : Nat) : sofar a n 0 = [] := by unfold sofar; rw [Nat.zero_sub]; rfl
theorem sofar_end {a : List Bytes} {n k : Nat} (h : ¬ k < a.length) : sofar a n k = slashed (a.drop n) := by
  unfold sofar; rw [List.take_of_length_le (by rw [List.length_drop]; omega)]
theorem sofar_len (a : List Bytes) (n k : Nat) : (sofar a n k).length ≤ total a := Nat.le_trans (slashed_len _) (drop_total a n _)
theorem ret_under {a b : ByteArray} {c d : Bool} (h : a = b) (h2 : c = d) : Ending.returned (.tuple #[.string a, .bool c]) = .returned (.tuple #[.string b, .bool d]) := by rw [h, h2]

end Go.Proofs.YtmpjjfhmkfchfaaDoor.W04
