/-
  Texts joined, in build order, each with its own comment and its own conditions: W03May, W04Last, W04Pieces, W04Seq, W04Iter, W04Buf, W04Walk.
-/
import Derived.Test.YtpihldcchjoinaaGreatDoorJ16
import Derived.Test.YtpihldcchjoinaaGreatDoorJ01
import Derived.Test.YtpihldcchjoinaaGreatDoorChecked
import Derived.Lib.AppendStr
import Derived.Test.YtpihldcchjoinaaGreatDoorJ02
import Derived.Lib.Bytealg
import Derived.Test.YtpihldcchjoinaaGreatDoorJ06
import Derived.Test.YtpihldcchjoinaaGreatDoorJ09
import Derived.RangeFuncBound
import Derived.Shelf.Abstract
import Derived.Shelf.RegionOpen
import Derived.WalkKit
import Derived.OwnWalkIn
import Derived.TacticsInMore
import Derived.LoopNIn
import Derived.LoopIn
import Derived.RangeFuncBox
import Derived.Test.YtpihldcchjoinaaGreatDoorJ03
import Derived.Room.AppendFits
import Derived.Test.YtpihldcchjoinaaGreatDoorJ04
import Derived.Maps.AppendAt
import Derived.Deep.Onto
/-
  Layer 3 (name), walks of what is asked of a rune (mayStand, isPlain), and of hasOnly with each. No condition but those that each theorem bears.
-/
namespace Go.Proofs.YtpihldcchjoinaaGreatDoor.W03
set_option maxRecDepth 100000
open Go Go.RowKit Go.Proofs.YtpihldcchjoinaaGreatDoor.Strs Go.Proofs.YtpihldcchjoinaaGreatDoor.M03
open Go.Proofs.YtpihldcchjoinaaGreatDoor.Kit (ret_str ret_bool ret_int mk_of below_draws on take_next take_end byte_eq byte_ne)

def mayR (r : Nat) : Bool := decide (r ≠ 0) && decide (r ≠ 47)
def goodB (c : UInt8) : Bool := !badByte c
theorem may_alike : Alike mayR goodB true where
  low := fun c hc => by
    have h0 : (c = 0) ↔ c.toNat = 0 := ⟨fun e => by rw [e]; rfl, fun e => UInt8.toNat_inj.1 e⟩
    have h1 : (c = 47) ↔ c.toNat = 47 := ⟨fun e => by rw [e]; rfl, fun e => UInt8.toNat_inj.1 e⟩
    simp only [goodB, badByte, mayR, h0, h1]
    by_cases a : c.toNat = 0 <;> by_cases b : c.toNat = 47 <;> simp [a, b]
  high := fun c hc => by
    have h0 : ¬ c = 0 := fun e => by rw [e] at hc; revert hc; decide
    have h1 : ¬ c = 47 := fun e => by rw [e] at hc; revert hc; decide
    simp [goodB, badByte, h0, h1]
  rune := fun r hr => by
    have h0 : ¬ r = 0 := by omega
    have h1 : ¬ r = 47 := by omega
    simp [mayR, h0, h1]
theorem may_any (r : Nat) (w : World) :
    Calls Tryz.prog 105 #[.int .i32 r] w fun e w' => e = .returned (.bool (mayR r)) ∧ w' = w := by
  by_cases h0 : r = 0
  · subst h0
    go_enter Tryz.func105, Tryz.ntmps105
    go_wp2
    go_ret
    exact ⟨rfl, rfl⟩
  · have t0 : ((r : Int) != 0) = true := by rw [bne_iff_ne]; omega
    by_cases h1 : r = 47
    · subst h1
      go_enter Tryz.func105, Tryz.ntmps105
      go_wp2
      go_ret
      exact ⟨rfl, rfl⟩
    · have t1 : ((r : Int) != 47) = true := by rw [bne_iff_ne]; omega
      have HE : Hid (mayR r = true) := by show mayR r = true; simp [mayR, h0, h1]
      clear h0 h1
      go_enter Tryz.func105, Tryz.ntmps105
      go_wp2
      go_ret
      exact ⟨ret_bool HE.out.symm, rfl⟩
theorem hasOnly_may (s : ByteArray) (w : World) :
    Calls Tryz.prog 104 #[.string s, .func (.func 105) #[] #[]] w fun e w' => e = .returned (.bool (s.data.toList.all goodB)) ∧ Below w.heap.size w w' := by
  have HF := Lib.hid (fun (r : Nat) (w : World) (_ : r ≤ 2147483647) => may_any r w)
  have A := may_alike
  generalize mayR = q at HF A
  generalize goodB = p at A ⊢
  go_enter Tryz.func104, Tryz.ntmps104
  go_wp2
  go_loopw [] (fun w' => ∃ pos : Nat, pos ≤ s.size ∧ w' = w.iter s pos ∧ Hid ((s.data.toList.take pos).all p = true)) (fun w' => s.size - w'.iterPos w.heap.size)
  case atStart => exact ⟨0, Nat.zero_le _, rfl, Lib.hid rfl⟩
  case round =>
    obtain ⟨pos, hp, rfl, ha⟩ := hrel
    by_cases hlt : pos < s.size
    · have hnx : ∀ ty, (Instr.next (.pointer (some ⟨w.heap.size, 0, none⟩)) true ty).run Tryz.prog (w.iter s pos) = _ := fun ty => run_next_any w s pos ty hlt
      have hwd := width_pos s pos hlt
      have hle := decode_le s pos
      have HQ := Lib.hid (fun h => alike_no A hlt h)
      have HY := Lib.hid (fun h => alike_yes A hlt h ha.out)
      generalize Utf8.decode s pos = d at *
      obtain ⟨r, n⟩ := d
      cases hq : q r with
      | true =>
        have HR := HF.out r
        rw [hq] at HR
        have HR := Lib.hid HR
        obtain ⟨hs, hn⟩ := HY.out hq
        have HN := Lib.hid hn
        clear hn hq
        go_wp2_with fail
        refine (HR.out _ (by omega)).mono ?_
        rintro e w' ⟨rfl, rfl⟩
        go_wp2
        go_roundw
        case rel => exact ⟨pos + n, hs, rfl, HN⟩
        case measure => simp; omega
      | false =>
        have HR := HF.out r
        rw [hq] at HR
        have HR := Lib.hid HR
        have HN := Lib.hid (HQ.out hq)
        clear hq
        go_wp2_with fail
        refine (HR.out _ (by omega)).mono ?_
        rintro e w' ⟨rfl, rfl⟩
        go_wp2
        go_ret
        exact ⟨ret_bool HN.out.symm, (Below.refl _ w).alloc (Nat.le_refl _) _⟩
    · have hnx : ∀ ty, (Instr.next (.pointer (some ⟨w.heap.size, 0, none⟩)) true ty).run Tryz.prog (w.iter s pos) = _ := fun ty => run_next_end w s pos ty hlt
      have HN : Hid (s.data.toList.all p = true) := by
        have := ha.out
        rw [take_end s pos hlt] at this
        exact this
      go_wp2
      go_ret
      exact ⟨ret_bool HN.out.symm, (Below.refl _ w).alloc (Nat.le_refl _) _⟩
end Go.Proofs.YtpihldcchjoinaaGreatDoor.W03
/-
  The place of the last slash in a text and in a row of bytes: what Go's strings.LastIndexByte and bytes.LastIndexByte return at a slash. No condition but those that each theorem bears.
-/
namespace Go.Proofs.YtpihldcchjoinaaGreatDoor.W04
set_option maxRecDepth 100000
open Go Go.RowKit
open Go.Proofs.YtpihldcchjoinaaGreatDoor.Kit (ret_str ret_bool ret_int byte_eq byte_ne drop_next drop_end)

/-- the place of the last slash; -1 where there is none -/
def lastSlash (l : List UInt8) : Int := if (47 : UInt8) ∈ l then ((l.length - 1 - (l.reverse.idxOf 47) : Nat) : Int) else -1
theorem last_at {l : List UInt8} {k : Nat} (hk : k < l.length) (h : l.getD k 0 = 47) (h2 : (47 : UInt8) ∉ l.drop (k + 1)) : lastSlash l = k := by
  have e : l = l.take k ++ 47 :: l.drop (k + 1) := by
    conv => lhs; rw [← List.take_append_drop k l, List.drop_eq_getElem_cons hk]
    rw [List.getD_eq_getElem?_getD, List.getElem?_eq_getElem hk] at h
    simp at h
    rw [h]
  have hm : (47 : UInt8) ∈ l := by rw [e]; simp
  have hr : l.reverse = (l.drop (k + 1)).reverse ++ 47 :: (l.take k).reverse := by conv => lhs; rw [e]; simp
  have hi : l.reverse.idxOf 47 = (l.drop (k + 1)).length := by
    rw [hr, List.idxOf_append, if_neg (by simpa using h2)]
    simp
  unfold lastSlash
  rw [if_pos hm, hi, List.length_drop]
  congr 1; omega
theorem last_none {l : List UInt8} (h : (47 : UInt8) ∉ l) : lastSlash l = -1 := by unfold lastSlash; rw [if_neg h]
theorem last_le (l : List UInt8) : -1 ≤ lastSlash l ∧ lastSlash l ≤ l.length := by unfold lastSlash; split <;> omega
theorem drop_zero_no {l : List UInt8} (h : (47 : UInt8) ∉ l.drop 0) : (47 : UInt8) ∉ l := by simpa using h
theorem drop_more {s : ByteArray} {k : Nat} (hk : k < s.size) (h : (47 : UInt8) ∉ s.data.toList.drop (k + 1)) (hc : ¬ s[k] = 47) : (47 : UInt8) ∉ s.data.toList.drop k := by
  rw [drop_next s k hk]
  simp only [List.mem_cons, not_or]
  exact ⟨fun e => hc e.symm, h⟩

theorem cells_get (d : ByteArray) (k : Nat) (hk : k < d.size) : (Lib.strCells d)[k]? = some (.int .u8 (d[k].toNat : Int)) := by
  have h2 : k < d.data.toList.length := by rw [← Lib.size_eq]; exact hk
  unfold Lib.strCells
  rw [List.getElem?_map, List.getElem?_eq_getElem h2]
  rfl
theorem add_zero_at (g k : Nat) : (⟨g, 0, none⟩ : Addr).add k = ⟨g, k, none⟩ := by unfold Addr.add; split <;> simp_all
theorem last_bytes (g n cap base : Nat) (d : ByteArray) (hd : d.size = n) (hc : n ≤ cap) (hm : cap ≤ maxLen) (w : World) (hr : w.ownsRow base 5 1 (.slice (some ⟨g, 0, none⟩) n cap) n (Lib.strCells d)) :
    Calls Tryz.prog 144 #[.slice (some ⟨g, 0, none⟩) n cap, .int .u8 47] w fun e w' => e = .returned (.int .i64 (lastSlash d.data.toList)) ∧ ∃ m, w' = w.drewN m := by
  subst hd
  unfold maxLen at hm
  have HC : Hid (∀ k : Nat, (hk : k < d.size) → w.cell? ⟨g, k, none⟩ = some (.int .u8 (d[k].toNat : Int))) := by
    show ∀ k : Nat, (hk : k < d.size) → _
    intro k hk
    have := hr.cells (g := g) rfl k _ (cells_get d k hk)
    rw [add_zero_at] at this
    exact this
  clear hr
  have H : Hid (Calls Tryz.prog 152 #[.slice (some ⟨g, 0, none⟩) d.size cap, .int .u8 47] w fun e w' => e = .returned (.int .i64 (lastSlash d.data.toList)) ∧ ∃ m, w' = w.drewN m) := by
    show Calls _ _ _ _ _
    have HL : Hid (∀ k : Nat, (hk : k < d.size) → d[k] = 47 → (47 : UInt8) ∉ d.data.toList.drop (k + 1) → lastSlash d.data.toList = k) := by
      show ∀ k : Nat, (hk : k < d.size) → d[k] = 47 → (47 : UInt8) ∉ d.data.toList.drop (k + 1) → lastSlash d.data.toList = k
      intro k hk h1 h2
      exact last_at (by rw [← Lib.size_eq]; exact hk) (by rw [Kit.byte_get d k hk]; exact h1) h2
    have HN : Hid ((47 : UInt8) ∉ d.data.toList.drop 0 → lastSlash d.data.toList = -1) := fun h => last_none (drop_zero_no h)
    have HM := Lib.hid (fun (k : Nat) => @drop_more d k)
    have H0 : Hid ((47 : UInt8) ∉ d.data.toList.drop d.size) := by
      show (47 : UInt8) ∉ d.data.toList.drop d.size
      rw [drop_end d d.size (Nat.lt_irrefl _)]; simp
    generalize lastSlash d.data.toList = r at *
    go_enter Tryz.func152, Tryz.ntmps152
    go_wp2
    go_loopw [5] (fun i wr => ∃ k m : Nat, k ≤ d.size ∧ i = .int .i64 ((k : Int) - 1) ∧ wr = w.drewN m ∧ Hid ((47 : UInt8) ∉ d.data.toList.drop k)) (fun i _ => (intOf i + 1).toNat)
    case atStart => exact ⟨d.size, 0, Nat.le_refl _, rfl, rfl, H0⟩
    case round =>
      obtain ⟨k, m, hk, rfl, rfl, hd⟩ := hrel
      cases k with
      | zero =>
        have HX : Hid (r = -1) := HN.out hd.out
        clear HL HN HM H0 hd
        go_wp2
        go_ret
        exact ⟨ret_int HX.out.symm, m, rfl⟩
      | succ k =>
        have e1 : ((k + 1 : Nat) : Int) - 1 = k := by omega
        rw [e1]
        have hlt : k < d.size := hk
        have hcell := HC.out k hlt
        clear e1
        by_cases h47 : (d[k].toNat : Int) = 47
        · have HX : Hid (r = k) := HL.out k hlt (byte_eq (d := 47) h47) hd.out
          have t47 : ((d[k].toNat : Int) == 47) = true := by simp [h47]
          clear h47 HL HN HM H0 hd
          go_wp2
          go_ret
          exact ⟨ret_int HX.out.symm, _, rfl⟩
        · have HX : Hid ((47 : UInt8) ∉ d.data.toList.drop k) := HM.out k hlt hd.out (byte_ne (d := 47) h47)
          have t47 : ((d[k].toNat : Int) == 47) = false := by simp [h47]
          clear h47 HL HN HM H0 hd
          go_wp2
          go_roundw
          case rel => exact ⟨k, _, by omega, rfl, rfl, HX⟩
          case measure => simp [intOf]
  go_enter Tryz.func144, Tryz.ntmps144
  go_wp2_with fail
  refine (H.out).mono ?_
  rintro e w1 ⟨rfl, m, rfl⟩
  go_wp2_with fail
  go_ret
  exact ⟨rfl, m, rfl⟩
end Go.Proofs.YtpihldcchjoinaaGreatDoor.W04
/-
  Layer 4 (path), plain mathematics: a text cut at each slash; its parts are those of the pieces that are neither empty nor one point. No condition but those that each theorem bears.
-/
namespace Go.Proofs.YtpihldcchjoinaaGreatDoor.M04
open Go
open Go.Proofs.YtpihldcchjoinaaGreatDoor.Kit (mk_bytes mk_of drop_bytes take_bytes ba_ext)

/-- what stands between the slashes -/
def pieces : Bytes → List Bytes
  | [] => [[]]
  | c :: r => if c = 47 then [] :: pieces r else (match pieces r with
    | [] => [[c]]
    | p :: q => (c :: p) :: q)
theorem pieces_ne (l : Bytes) : pieces l ≠ [] := by
  cases l with
  | nil => simp [pieces]
  | cons c r =>
    unfold pieces
    split
    · simp
    · split <;> simp
theorem pieces_slash (r : Bytes) : pieces (47 :: r) = [] :: pieces r := by rw [pieces, if_pos rfl]
theorem pieces_other {c : UInt8} (h : c ≠ 47) (r : Bytes) : ∃ p q, pieces r = p :: q ∧ pieces (c :: r) = (c :: p) :: q := by
  cases hp : pieces r with
  | nil => exact absurd hp (pieces_ne r)
  | cons p q => exact ⟨p, q, rfl, by rw [pieces, if_neg h, hp]⟩
theorem pieces_whole : ∀ (l : Bytes), (47 : UInt8) ∉ l → pieces l = [l]
  | [], _ => rfl
  | c :: r, h => by
    simp only [List.mem_cons, not_or] at h
    obtain ⟨p, q, e1, e2⟩ := pieces_other (c := c) (fun e => h.1 e.symm) r
    rw [pieces_whole r h.2] at e1
    injection e1 with e1 e3
    rw [e2, ← e1, ← e3]
theorem pieces_cut : ∀ (a r : Bytes), (47 : UInt8) ∉ a → pieces (a ++ 47 :: r) = a :: pieces r
  | [], r, _ => pieces_slash r
  | c :: a, r, h => by
    simp only [List.mem_cons, not_or] at h
    obtain ⟨p, q, e1, e2⟩ := pieces_other (c := c) (fun e => h.1 e.symm) (a ++ 47 :: r)
    rw [pieces_cut a r h.2] at e1
    injection e1 with e1 e3
    show pieces (c :: (a ++ 47 :: r)) = _
    rw [e2, ← e1, ← e3]
/-- whether a piece is a part -/
def keeps (p : Bytes) : Bool := p != [] && p != [46]
theorem flush_keeps (p : Bytes) : flush p = if keeps p = true then [p] else [] := by
  unfold flush keeps
  by_cases h1 : p = [] <;> by_cases h2 : p = [46] <;> simp [h1, h2]
theorem pgo_pieces : ∀ (l now : Bytes) (p : Bytes) (q : List Bytes), pieces l = p :: q → pgo l now = ((now ++ p) :: q).filter keeps
  | [], now, p, q, h => by
    injection h with h1 h2
    subst h1 h2
    rw [pgo, flush_keeps, List.append_nil, List.filter_cons, List.filter_nil]
  | c :: r, now, p, q, h => by
    unfold pgo
    split
    · rename_i hc
      subst hc
      rw [pieces_slash] at h
      injection h with h1 h2
      subst h1
      obtain ⟨p2, q2, e⟩ : ∃ p2 q2, pieces r = p2 :: q2 := by
        cases hp : pieces r with
        | nil => exact absurd hp (pieces_ne r)
        | cons p q => exact ⟨p, q, rfl⟩
      rw [pgo_pieces r [] p2 q2 e, List.nil_append, ← h2, e, List.append_nil, flush_keeps, List.filter_cons (x := now)]
      split <;> rfl
    · rename_i hc
      obtain ⟨p2, q2, e1, e2⟩ := pieces_other hc r
      rw [e2] at h
      injection h with h1 h2
      subst h1 h2
      rw [pgo_pieces r (now ++ [c]) p2 q2 e1]
      simp
theorem parts_pieces (l : Bytes) : parts l = (pieces l).filter keeps := by
  cases hp : pieces l with
  | nil => exact absurd hp (pieces_ne l)
  | cons p q => unfold parts; rw [pgo_pieces l [] p q hp, List.nil_append]

/-! texts of bytes -/
def mk (l : Bytes) : ByteArray := ⟨l.toArray⟩
def piecesOf (s : ByteArray) : List ByteArray := (pieces s.data.toList).map mk
def partsOf (s : ByteArray) : List ByteArray := (parts s.data.toList).map mk
theorem data_mk (s : ByteArray) : mk s.data.toList = s := mk_bytes s
theorem map_data (L : List Bytes) : (L.map mk).map (fun x => x.data.toList) = L := by rw [List.map_map]; exact List.map_id _
/-- whether a piece is a part -/
def keepsOf (x : ByteArray) : Bool := keeps x.data.toList
theorem partsOf_pieces (s : ByteArray) : partsOf s = (piecesOf s).filter keepsOf := by
  unfold partsOf piecesOf
  rw [parts_pieces, List.filter_map]
  rfl
theorem index_none : ∀ (l : Bytes) (c : UInt8), Lib.indexByte l c < 0 → c ∉ l
  | [], _, _ => by simp
  | d :: r, c, h => by
    rw [Lib.indexByte] at h
    split at h
    · omega
    · rename_i hd
      have h1 := Lib.indexByte_ge r c
      simp only [List.mem_cons, not_or]
      refine ⟨fun e => hd (by simp [e]), index_none r c ?_⟩
      split at h
      · rename_i h2
        simp at h2; omega
      · omega
theorem index_some : ∀ (l : Bytes) (c : UInt8), 0 ≤ Lib.indexByte l c → ∃ k : Nat, Lib.indexByte l c = k ∧ k < l.length ∧ l = l.take k ++ c :: l.drop (k + 1) ∧ c ∉ l.take k
  | [], c, h => by simp [Lib.indexByte] at h
  | d :: r, c, h => by
    rw [Lib.indexByte] at h ⊢
    split at h
    · rename_i hd
      rw [if_pos hd]
      have : d = c := by simpa using hd
      subst this
      exact ⟨0, rfl, by simp, by simp, by simp⟩
    · rename_i hd
      rw [if_neg hd]
      split at h
      · omega
      · rename_i h2
        rw [if_neg h2]
        have h1 := Lib.indexByte_ge r c
        simp at h2
        obtain ⟨k, e1, e2, e3, e4⟩ := index_some r c (by omega)
        refine ⟨k + 1, by rw [e1]; rfl, by simp; omega, ?_, ?_⟩
        · show d :: r = d :: (r.take k ++ c :: r.drop (k + 1))
          rw [← e3]
        · rw [List.take_succ_cons]
          simp only [List.mem_cons, not_or]
          exact ⟨fun e => hd (by simp [e]), e4⟩
/-- the first slash of a text: none, or at k -/
theorem first_slash (r : ByteArray) : (Lib.indexByte r.data.toList 47 = -1 ∧ piecesOf r = [r]) ∨
    (∃ k : Nat, Lib.indexByte r.data.toList 47 = k ∧ k < r.size ∧ piecesOf r = r.extract 0 k :: piecesOf (r.extract (k + 1) r.size)) := by
  rcases Int.lt_or_le (Lib.indexByte r.data.toList 47) 0 with h | h
  · left
    have h1 := Lib.indexByte_ge r.data.toList 47
    refine ⟨by omega, ?_⟩
    unfold piecesOf
    rw [pieces_whole _ (index_none _ _ h), List.map_singleton, data_mk]
  · right
    obtain ⟨k, e1, e2, e3, e4⟩ := index_some _ _ h
    refine ⟨k, e1, by rw [Lib.size_eq]; exact e2, ?_⟩
    unfold piecesOf
    rw [drop_bytes]
    conv => lhs; rw [e3, pieces_cut _ _ e4]
    rw [List.map_cons]
    congr 1
    apply ba_ext
    rw [take_bytes]; rfl
end Go.Proofs.YtpihldcchjoinaaGreatDoor.M04
/-
  Layer 4 (path), walks: what Go's strings.SplitSeq at one slash hands out, and what the program's own iterator of a path's parts hands out, as contracts of iterators; at every text of at most 2^40 bytes.
-/
namespace Go.Proofs.YtpihldcchjoinaaGreatDoor.W04
set_option maxRecDepth 100000
open Go Go.RowKit Go.Shelf Go.Proofs.YtpihldcchjoinaaGreatDoor.Range Go.Proofs.YtpihldcchjoinaaGreatDoor.M04
open Go.Proofs.YtpihldcchjoinaaGreatDoor.Kit (ret_str ret_bool ret_int mk_of mk_bytes below_draws on)
attribute [local go_sem] Oper.semAt_some

theorem index_slash (s : ByteArray) (w : World) : Calls Tryz.prog 143 #[.string s, .string ⟨#[47]⟩] w fun e w' => e = .returned (.int .i64 (Lib.indexByte s.data.toList 47)) ∧ ∃ n, w' = w.drewN n := by
  have H : Hid (∀ w : World, Calls Tryz.prog 131 #[.string s, .int .u8 47] w fun e w' => e = .returned (.int .i64 (Lib.indexByte s.data.toList 47)) ∧ w' = w) := fun w => Tryz.stringslite_IndexByte s 47 w
  have H2 : Hid (∀ w : World, Calls Tryz.prog 151 #[.string s, .string ⟨#[47]⟩] w fun e w' => e = .returned (.int .i64 (Lib.indexByte s.data.toList 47)) ∧ ∃ n, w' = w.drewN n) := by
    show ∀ w : World, _
    intro w
    cases ht : ([47] == s.toList) with
    | true =>
      have e : s.data.toList = [47] := by rw [← Lib.toList_data]; exact (beq_iff_eq.1 ht).symm
      have e2 : Lib.indexByte s.data.toList 47 = 0 := by rw [e]; rfl
      rw [e2]
      clear e e2 H
      go_enter Tryz.func151, Tryz.ntmps151
      go_wp2_with fail
      go_ret
      exact ⟨rfl, 0, rfl⟩
    | false =>
      generalize Lib.indexByte s.data.toList 47 = r at *
      go_enter Tryz.func151, Tryz.ntmps151
      go_wp2_with fail
      refine Calls.mono (H.out _) ?_
      rintro e w1 ⟨rfl, rfl⟩
      go_wp2_with fail
      go_ret
      exact ⟨rfl, 0, rfl⟩
  generalize Lib.indexByte s.data.toList 47 = r at *
  go_enter Tryz.func143, Tryz.ntmps143
  go_wp2_with fail
  refine (H2.out _).mono ?_
  rintro e w1 ⟨rfl, n, rfl⟩
  go_wp2_with fail
  go_ret
  exact ⟨rfl, n, rfl⟩
/-- the three variables that strings.SplitSeq's iterator has caught: the separator, what is left of the text, and how much of the separator is kept -/
def caught (b : Nat) : Array Value := #[.pointer (some ⟨b + 1, 0, none⟩), .pointer (some ⟨b, 0, none⟩), .pointer (some ⟨b + 2, 0, none⟩)]
def three (w : World) (s : ByteArray) : World := ((w.alloc (.cells #[.string s] 9)).alloc (.cells #[.string ⟨#[47]⟩] 9)).alloc (.cells #[.int .i64 0] 3)
theorem splitSeq_at (s : ByteArray) (w : World) : Calls Tryz.prog 114 #[.string s, .string ⟨#[47]⟩] w fun e w' => e = .returned (.func (.func 141) #[] (caught w.heap.size)) ∧ w' = three w s := by
  have H : Hid (∀ w : World, Calls Tryz.prog 132 #[.string s, .string ⟨#[47]⟩, .int .i64 0] w fun e w' => e = .returned (.func (.func 141) #[] (caught w.heap.size)) ∧ w' = three w s) := by
    show ∀ w : World, _
    intro w
    go_enter Tryz.func132, Tryz.ntmps132
    go_wp2_with fail
    go_ret
    exact ⟨rfl, rfl⟩
  go_enter Tryz.func114, Tryz.ntmps114
  go_wp2_with fail
  refine (H.out _).mono ?_
  rintro e w1 ⟨rfl, rfl⟩
  go_wp2_with fail
  go_ret
  exact ⟨rfl, rfl⟩

def restOf (b : Nat) (W : World) : Nat := match W.cell? ⟨b, 0, none⟩ with
  | some (.string r) => r.size
  | _ => 0
theorem restOf_eq {b : Nat} {W : World} {r : ByteArray} (h : W.cell? ⟨b, 0, none⟩ = some (.string r)) : restOf b W = r.size := by unfold restOf; rw [h]
/-- the blocks of the three variables -/
def Three (b k : Nat) : Prop := b ≤ k ∧ k < b + 3
set_option maxRecDepth 100000 in
set_option maxHeartbeats 2000000 in
theorem split_seq (b : Nat) (s : ByteArray) (hs : s.size ≤ 281474976710656) (w0 : World) (c0 : w0.cell? ⟨b, 0, none⟩ = some (.string s)) (f0 : w0.frozen? ⟨b, 0, none⟩ = false)
    (c1 : w0.cell? ⟨b + 1, 0, none⟩ = some (.string ⟨#[47]⟩)) (c2 : w0.cell? ⟨b + 2, 0, none⟩ = some (.int .i64 0)) (hb : b + 2 < w0.heap.size) :
    Seq Tryz.prog 141 (caught b) (fun x : ByteArray => .string x) (Three b) 0 (piecesOf s) w0 := by
  intro l J Jx W hW hJ hJx hY h0
  replace c0 : W.cell? ⟨b, 0, none⟩ = some (.string s) := (hW.cell (p := ⟨b, 0, none⟩) (by simp; omega)).trans c0
  replace f0 : W.frozen? ⟨b, 0, none⟩ = false := (World.frozen?_of_block (hW.block _ (by simp; omega))).trans f0
  replace c1 : W.cell? ⟨b + 1, 0, none⟩ = some (.string ⟨#[47]⟩) := (hW.cell (p := ⟨b + 1, 0, none⟩) (by simp; omega)).trans c1
  replace c2 : W.cell? ⟨b + 2, 0, none⟩ = some (.int .i64 0) := (hW.cell (p := ⟨b + 2, 0, none⟩) (by simp; omega)).trans c2
  have HI := Lib.hid index_slash
  refine (callsIn_wide (n := 9)).1 ?_
  refine callsIn_of_wp Tryz.func141 rfl trivial ?_ rfl
  simp only [Tryz.ntmps141, caught, List.size_toArray, List.length_cons, List.length_nil, Nat.reduceAdd, Nat.reduceSub, Array.replicate_succ, Array.replicate_zero, List.push_toArray, List.append_toArray, List.nil_append, List.cons_append]
  gi_wp2
  gi_loopw [7, 8] (fun i f wr => ∃ (pre : List ByteArray) (r : ByteArray), Hid (pre ++ piecesOf r = piecesOf s) ∧ Hid (J pre wr) ∧ r.size ≤ s.size ∧ W.heap.size ≤ wr.heap.size ∧
      wr.cell? ⟨b, 0, none⟩ = some (.string r) ∧ wr.frozen? ⟨b, 0, none⟩ = false ∧ wr.cell? ⟨b + 1, 0, none⟩ = some (.string ⟨#[47]⟩) ∧ wr.cell? ⟨b + 2, 0, none⟩ = some (.int .i64 0)) (fun _ _ wr => restOf b wr)
  case atStart => exact ⟨[], s, rfl, h0, Nat.le_refl _, Nat.le_refl _, c0, f0, c1, c2⟩
  case round =>
    obtain ⟨pre, r, hp, hj, hr, hsz, d0, g0, d1, d2⟩ := hrel
    clear c0 f0 c1 c2 h0
    rcases first_slash r with ⟨hi, hq⟩ | ⟨k, hi, hk, hq⟩
    · have HI2 := Lib.hid (HI.out r)
      rw [hi] at HI2
      gi_wp2
      refine ⟨trivial, ?_⟩
      gi_at_call 143
      refine (callsIn_wide.2 (HI2.out _)).mono ?_
      rintro e w' ⟨rfl, m, rfl⟩
      have hpre : pre ++ [r] = piecesOf s := by rw [← hp.out, hq]
      obtain ⟨fn, tmps, assign, body, hy, hR⟩ := hY pre r (wr.drewN m) (hJ _ _ _ hj.out (Turns.draw _ _ _)) hsz (by rw [hpre]; exact List.prefix_refl _)
      clear hY
      gi_wp2
      refine (round_wide _ hR).mono ?_
      rintro e W3 (⟨rfl, hJ3, -⟩ | ⟨rfl, hJx3, -⟩)
      · gi_wp2
        go_end0
        exact ⟨⟨_, rfl⟩, .inl (by rw [← hpre]; exact hJ3)⟩
      · gi_wp2
        go_end0
        exact ⟨⟨_, rfl⟩, .inr ⟨_, by rw [hpre]; exact List.prefix_refl _, hJx3⟩⟩
    · have HI2 := Lib.hid (HI.out r)
      rw [hi] at HI2
      gi_wp2
      refine ⟨trivial, ?_⟩
      gi_at_call 143
      refine (callsIn_wide.2 (HI2.out _)).mono ?_
      rintro e w' ⟨rfl, m, rfl⟩
      have hpre : (pre ++ [r.extract 0 k]) ++ piecesOf (r.extract (k + 1) r.size) = piecesOf s := by rw [List.append_assoc, List.singleton_append, ← hq]; exact hp.out
      obtain ⟨fn, tmps, assign, body, hy, hR⟩ := hY pre (r.extract 0 k) (wr.drewN m) (hJ _ _ _ hj.out (Turns.draw _ _ _)) hsz ⟨_, hpre⟩
      gi_wp2
      refine (round_wide _ hR).mono ?_
      rintro e W3 (⟨rfl, hJ3, hk3⟩ | ⟨rfl, hJx3, -⟩)
      · have e0 := restOf_eq d0
        have own : ∀ i, b ≤ i → i < b + 3 → ¬ ¬ Its (Three b) W.heap.size 0 i := fun i h1 h2 h => h (Or.inl ⟨h1, h2⟩)
        have f3 : W3.frozen? ⟨b, 0, none⟩ = false := (hk3.frozen (a := ⟨b, 0, none⟩) d0 (own b (Nat.le_refl _) (by omega))).trans g0
        replace d0 : W3.cell? ⟨b, 0, none⟩ = some (.string r) := hk3.cell (a := ⟨b, 0, none⟩) d0 (own b (Nat.le_refl _) (by omega))
        replace d1 : W3.cell? ⟨b + 1, 0, none⟩ = some (.string ⟨#[47]⟩) := hk3.cell (a := ⟨b + 1, 0, none⟩) d1 (own (b + 1) (by omega) (by omega))
        replace d2 : W3.cell? ⟨b + 2, 0, none⟩ = some (.int .i64 0) := hk3.cell (a := ⟨b + 2, 0, none⟩) d2 (own (b + 2) (by omega) (by omega))
        have hs3 : W.heap.size ≤ W3.heap.size := Nat.le_trans hsz hk3.size
        clear hY hR hy own
        gi_wp2
        go_roundw
        case rel =>
          refine ⟨pre ++ [r.extract 0 k], r.extract (k + 1) r.size, hpre, ?_, ?_, ?_, ?_, ?_, ?_, ?_⟩
          · exact hJ _ _ _ hJ3 (Turns.setCell _ (Or.inl ⟨Nat.le_refl _, by simp⟩))
          · rw [ByteArray.size_extract]; omega
          · simpa using hs3
          · exact World.cell?_setCell_same' _ _ _ (by rw [d0]; rfl)
          · rw [World.frozen?_setCell]; exact f3
          · exact (grown_set W3 ⟨b, 0, none⟩ _).cell d1 (by simp)
          · exact (grown_set W3 ⟨b, 0, none⟩ _).cell d2 (by simp)
        case measure =>
          rw [e0, restOf_eq (World.cell?_setCell_same' _ _ _ (by rw [d0]; rfl)), ByteArray.size_extract]
          omega
      · gi_wp2
        refine bodyPost_ret (results_none rfl _ _ _) rfl ?_
        exact ⟨⟨_, rfl⟩, .inr ⟨_, ⟨_, hpre⟩, hJx3⟩⟩

end Go.Proofs.YtpihldcchjoinaaGreatDoor.W04
/-
  Layer 4 (path), walks: the program's iterator of a path's parts, as a contract of an iterator: it hands out the text's parts, in order; at every text of at most 2^40 bytes.
-/
namespace Go.Proofs.YtpihldcchjoinaaGreatDoor.W04
set_option maxRecDepth 100000
open Go Go.RowKit Go.Shelf Go.Proofs.YtpihldcchjoinaaGreatDoor.Range Go.Proofs.YtpihldcchjoinaaGreatDoor.M04
open Go.Proofs.YtpihldcchjoinaaGreatDoor.Kit (ret_str ret_bool ret_int mk_of mk_bytes below_draws on)
attribute [local go_sem] Oper.semAt_some

theorem parts_at (s : ByteArray) (w : World) : Calls Tryz.prog 90 #[.string s] w fun e w' => e = .returned (.func (.func 113) #[] #[.pointer (some ⟨w.heap.size, 0, none⟩)]) ∧ w' = w.alloc (.cells #[.string s] 9) := by
  go_enter Tryz.func90, Tryz.ntmps90
  go_wp2_with fail
  go_ret
  exact ⟨rfl, rfl⟩
theorem new_cell (W : World) (v : Value) (t : TypeId) : (W.alloc (.cells #[v] t)).cell? ⟨W.heap.size, 0, none⟩ = some v ∧ (W.alloc (.cells #[v] t)).frozen? ⟨W.heap.size, 0, none⟩ = false := by
  exact ⟨(Boxed.new W t v).cell, (Boxed.new W t v).frozen⟩
theorem three_cells (w : World) (s : ByteArray) : (three w s).cell? ⟨w.heap.size, 0, none⟩ = some (.string s) ∧ (three w s).frozen? ⟨w.heap.size, 0, none⟩ = false ∧ (three w s).cell? ⟨w.heap.size + 1, 0, none⟩ = some (.string ⟨#[47]⟩) ∧ (three w s).cell? ⟨w.heap.size + 2, 0, none⟩ = some (.int .i64 0) := by
  have a0 := new_cell w (.string s) 9
  have a1 := new_cell (w.alloc (.cells #[.string s] 9)) (.string ⟨#[47]⟩) 9
  have a2 := new_cell ((w.alloc (.cells #[.string s] 9)).alloc (.cells #[.string ⟨#[47]⟩] 9)) (.int .i64 0) 3
  simp only [World.size_alloc] at a1 a2
  have g1 := World.grownBy_alloc (w.alloc (.cells #[.string s] 9)) (.cells #[.string ⟨#[47]⟩] 9) none
  have g2 := World.grownBy_alloc ((w.alloc (.cells #[.string s] 9)).alloc (.cells #[.string ⟨#[47]⟩] 9)) (.cells #[.int .i64 0] 3) none
  have t1 : Turns (fun _ => False) (w.alloc (.cells #[.string s] 9)) (three w s) := (Turns.alloc _ _ _).trans (Turns.alloc _ _ _)
  have t2 : Turns (fun _ => False) ((w.alloc (.cells #[.string s] 9)).alloc (.cells #[.string ⟨#[47]⟩] 9)) (three w s) := Turns.alloc _ _ _
  exact ⟨t1.cell a0.1 id, (t1.frozen a0.1 id).trans a0.2, t2.cell a1.1 id, a2.1⟩
theorem keepsOf_void {x : ByteArray} (h : ¬ 0 < x.size) : keepsOf x = false := by unfold keepsOf keeps; rw [Kit.bytes_nil h]; rfl
theorem keepsOf_point {x : ByteArray} (h : (x.toList == [46]) = true) : keepsOf x = false := by unfold keepsOf keeps; rw [← Lib.toList_data, beq_iff_eq.1 h]; rfl
theorem keepsOf_yes {x : ByteArray} (h : 0 < x.size) (h2 : (x.toList == [46]) = false) : keepsOf x = true := by
  unfold keepsOf keeps
  rw [Lib.toList_data] at h2
  simp only [Bool.and_eq_true]
  refine ⟨?_, ?_⟩
  · have := Kit.bytes_ne h; simpa using this
  · simpa using h2
theorem filter_no {pre : List ByteArray} {x : ByteArray} (h : keepsOf x = false) : (pre ++ [x]).filter keepsOf = pre.filter keepsOf := by rw [List.filter_append, List.filter_cons, if_neg (by simp [h]), List.filter_nil, List.append_nil]
theorem filter_yes {pre : List ByteArray} {x : ByteArray} (h : keepsOf x = true) : (pre ++ [x]).filter keepsOf = pre.filter keepsOf ++ [x] := by rw [List.filter_append, List.filter_cons, if_pos h, List.filter_nil]
theorem filter_pre {a b : List ByteArray} (h : a <+: b) : a.filter keepsOf <+: b.filter keepsOf := by
  obtain ⟨t, rfl⟩ := h
  rw [List.filter_append]; exact ⟨_, rfl⟩

set_option maxRecDepth 100000 in
set_option maxHeartbeats 2000000 in
theorem parts_seq (b : Nat) (s : ByteArray) (hs : s.size ≤ 281474976710656) (w0 : World) (c0 : w0.cell? ⟨b, 0, none⟩ = some (.string s)) (hb : b < w0.heap.size) :
    Seq Tryz.prog 113 #[.pointer (some ⟨b, 0, none⟩)] (fun x : ByteArray => .string x) (fun _ => False) 6 (partsOf s) w0 := by
  intro l J Jx W hW hJ hJx hY h0
  replace c0 : W.cell? ⟨b, 0, none⟩ = some (.string s) := (hW.cell (p := ⟨b, 0, none⟩) hb).trans c0
  have hbW : b < W.heap.size := Nat.lt_of_lt_of_le hb hW.size
  rw [partsOf_pieces] at *
  have HS := Lib.hid (splitSeq_at s)
  refine (callsIn_wide (n := 9)).1 ?_
  refine callsIn_of_wp_marks Tryz.func113 rfl trivial ?_ rfl
  simp only [Tryz.ntmps113, List.size_toArray, List.length_cons, List.length_nil, Nat.reduceAdd, Nat.reduceSub, Array.replicate_succ, Array.replicate_zero, List.push_toArray, List.append_toArray, List.nil_append, List.cons_append]
  gi_wp2
  refine ⟨trivial, ?_⟩
  gi_at_call 114
  refine (callsIn_wide.2 (HS.out _)).mono ?_
  rintro e w1 ⟨rfl, rfl⟩
  gi_wp2
  have b0 := new_cell W (.func (.yield l) #[] #[]) 94
  obtain ⟨V, hV⟩ : ∃ V, W.alloc (.cells #[.func (.yield l) #[] #[]] 94) = V := ⟨_, rfl⟩
  rw [hV] at b0 ⊢
  have hVs : V.heap.size = W.heap.size + 1 := by rw [← hV]; simp
  have hVb : Below W.heap.size W V := by rw [← hV]; exact (Below.refl _ W).alloc (Nat.le_refl _) _
  have d0 := three_cells V s
  have hU : (three V s).heap.size = W.heap.size + 4 := by unfold three; simp [hVs]
  have tV : Turns (fun _ => False) V (three V s) := ((Turns.alloc _ _ _).trans (Turns.alloc _ _ _)).trans (Turns.alloc _ _ _)
  have tW : Turns (fun _ => False) W (three V s) := by rw [← hV] at *; exact (Turns.alloc _ _ _).trans tV
  have b1 := tV.cell b0.1 id
  obtain ⟨U, hU2⟩ : ∃ U, three V s = U := ⟨_, rfl⟩
  rw [hU2] at d0 hU tW b1 ⊢
  clear hU2 tV
  refine wp_range (gf := 141) (lb := caught (W.heap.size + 1)) (by rw [← hVs]; rfl) (enters_of Tryz.func141 (by kernel_rfl) rfl)
    (split_seq (W.heap.size + 1) s hs U (by rw [← hVs]; exact d0.1) (by rw [← hVs]; exact d0.2.1) (by rw [← hVs]; exact d0.2.2.1) (by rw [← hVs]; exact d0.2.2.2) (by omega)) (by rintro k ⟨_, hk⟩; omega) rfl
    (fun k => W.heap.size + 1 ≤ k ∧ k < W.heap.size + 6) (fun k => by unfold Its Three; omega)
    (fun pre W' => J (pre.filter keepsOf) W' ∧ W'.cell? ⟨W.heap.size, 0, none⟩ = some (.func (.yield l) #[] #[]))
    (fun c pre W' => c = .ret ∧ Jx (pre.filter keepsOf) W')
    (fun pre A B h ht => ⟨hJ _ _ _ h.1 (ht.wider fun k hk => Or.inr (by omega)), ht.cell h.2 (fun h1 => absurd h1.1 (Nat.not_succ_le_self _))⟩)
    (fun c pre A B h ht => ⟨h.1, hJx _ _ _ h.2 (ht.wider fun k hk => Or.inr (by omega))⟩)
    ⟨hJ _ _ _ h0 (tW.wider fun k hk => hk.elim), b1⟩
    (fun x => { tmps := #[.func (.yield l) #[] #[], .pointer (some ⟨b, 0, none⟩), .pointer (some ⟨W.heap.size, 0, none⟩), .string x, .string s, .func (.func 141) #[] (caught (W.heap.size + 1)), .string x, undef, undef, undef, undef, undef, undef, undef, undef, undef, undef, undef, undef], defers := [] }) ?assign ?body ?done ?stop
  case assign =>
    intro l x W K hK
    gi_wp2
    exact hK
  case body =>
    rintro l' pre x W1 ⟨hj, hc⟩ hsz hpre
    by_cases h0 : 0 < x.size
    · have hn := Kit.list_ne h0
      have hf := Kit.list_full h0
      cases hp : (x.toList == [46]) with
      | true =>
        have hpe := beq_iff_eq.1 hp
        gi_wp2
        refine ⟨fun _ h => (by cases h), ?_⟩
        gi_wp2
        exact ⟨Turns.refl _ _, by rw [filter_no (keepsOf_point hp)]; exact hj, hc⟩
      | false =>
        have hk := keepsOf_yes h0 hp
        obtain ⟨fn, tmps, assign, body, hy, hR⟩ := hY (pre.filter keepsOf) x W1 hj (by omega) (by rw [← filter_yes hk]; exact filter_pre hpre)
        clear hY
        gi_wp2
        refine (round_in _ _ hR).mono ?_
        rintro e W3 (⟨rfl, hJ3, hk3⟩ | ⟨rfl, hJx3, hk3⟩)
        · gi_wp2
          exact ⟨hk3.wider fun k h h2 => h (Or.inr ⟨Nat.le_of_succ_le h2.1, h2.2⟩), by rw [filter_yes hk]; exact hJ3, hk3.cell hc (fun h => h (Or.inr ⟨Nat.le_refl _, by simp⟩))⟩
        · gi_wp2
          exact ⟨hk3.wider fun k h h2 => h (Or.inr ⟨Nat.le_of_succ_le h2.1, h2.2⟩), rfl, by rw [filter_yes hk]; exact hJx3⟩
    · have hn := Kit.list_nil h0
      have hf := Kit.list_none h0
      gi_wp2
      refine ⟨fun _ h => (by cases h), ?_⟩
      gi_wp2
      exact ⟨Turns.refl _ _, by rw [filter_no (keepsOf_void h0)]; exact hj, hc⟩
  case done =>
    rintro W2 ⟨hj, -⟩ hK
    gi_wp2
    refine ⟨by simp, .inl ⟨_, _, rfl, run_takeDeferred hK, ?_⟩⟩
    exact ⟨_, results_none rfl _ _ _, ⟨_, rfl⟩, .inl (hJ _ _ _ hj (Turns.putObj _ (Or.inr (by omega))))⟩
  case stop =>
    rintro c pre W2 hpre ⟨rfl, hjx⟩ hK
    gi_wp2
    refine ⟨by simp, .inl ⟨_, _, rfl, run_takeDeferred hK, ?_⟩⟩
    exact ⟨_, results_none rfl _ _ _, ⟨_, rfl⟩, .inr ⟨_, filter_pre hpre, hJx _ _ _ hjx (Turns.putObj _ (Or.inr (by omega)))⟩⟩
end Go.Proofs.YtpihldcchjoinaaGreatDoor.W04
/-
  Layer 4 (path): how a clean path is built in a row of bytes: a part is laid behind a slash, two points take the last part away; and a row of bytes of one's own: what is laid behind it, cut off it, read out of it. No condition but those that each theorem bears.
-/
namespace Go.Proofs.YtpihldcchjoinaaGreatDoor.W04
open Go Go.RowKit Go.Proofs.YtpihldcchjoinaaGreatDoor.Range Go.Proofs.YtpihldcchjoinaaGreatDoor.M04
open Go.Proofs.YtpihldcchjoinaaGreatDoor.Kit (mk_bytes mk_of ba_ext take_bytes cat_bytes)

def flat (L : List Bytes) : Bytes := L.flatMap (fun p => 47 :: p)
theorem flat_more (L : List Bytes) (p : Bytes) : flat (L ++ [p]) = flat L ++ 47 :: p := by unfold flat; rw [List.flatMap_append]; simp
/-- what the buffer holds when the texts of pre have come -/
def datas (pre : List ByteArray) : List Bytes := pre.map fun x => x.data.toList
def bufOf (pre : List ByteArray) : Bytes := flat (cparts (datas pre))
theorem datas_more (pre : List ByteArray) (x : ByteArray) : datas (pre ++ [x]) = datas pre ++ [x.data.toList] := by unfold datas; rw [List.map_append]; rfl
theorem cparts_more (L : List Bytes) (p : Bytes) : cparts (L ++ [p]) = cstep (cparts L) p := by rw [cparts_append]; rfl
theorem buf_part {pre : List ByteArray} {x : ByteArray} (h : x.data.toList ≠ [46, 46]) : bufOf (pre ++ [x]) = bufOf pre ++ 47 :: x.data.toList := by
  unfold bufOf; rw [datas_more, cparts_more, cstep, if_neg h, flat_more]
theorem last_flat {L : List Bytes} (h : ∀ p ∈ L, Part p) : (flat L).take (max 0 (lastSlash (flat L))).toNat = flat L.dropLast := by
  rcases List.eq_nil_or_concat L with rfl | ⟨o, p, rfl⟩
  · rfl
  · rw [List.concat_eq_append] at *
    have hp := (h p (by simp)).1
    have e : lastSlash (flat (o ++ [p])) = ((flat o).length : Int) := by
      refine last_at ?_ ?_ ?_
      · rw [flat_more]; simp
      · rw [flat_more, List.getD_eq_getElem?_getD, List.getElem?_append_right (Nat.le_refl _)]; simp
      · rw [flat_more, List.drop_append, List.drop_of_length_le (Nat.le_succ _)]; simpa using hp
    rw [e, List.dropLast_concat, flat_more, show (max 0 ((flat o).length : Int)).toNat = (flat o).length by omega, List.take_left]
theorem parts_of_prefix {pre : List ByteArray} {s : ByteArray} (h : pre <+: partsOf s) : ∀ p ∈ datas pre, Part p := by
  intro p hp
  unfold datas at hp
  obtain ⟨x, hx, rfl⟩ := List.mem_map.1 hp
  have hm := h.subset hx
  unfold partsOf at hm
  obtain ⟨q, hq, rfl⟩ := List.mem_map.1 hm
  exact parts_are _ q hq
theorem buf_points {pre : List ByteArray} {x s : ByteArray} (hp : pre <+: partsOf s) (h : x.data.toList = [46, 46]) : bufOf (pre ++ [x]) = (bufOf pre).take (max 0 (lastSlash (bufOf pre))).toNat := by
  unfold bufOf
  rw [datas_more, cparts_more, cstep, if_pos h, last_flat (fun p hm => (cparts_are (parts_of_prefix hp) p hm).1)]
theorem total_datas {pre : List ByteArray} {s : ByteArray} (h : pre <+: partsOf s) : total (datas pre) ≤ s.size + 1 := by
  obtain ⟨t, ht⟩ := h
  have h1 := parts_total s.data.toList
  have e : datas (partsOf s) = parts s.data.toList := map_data _
  rw [← e, ← ht, show datas (pre ++ t) = datas pre ++ datas t from List.map_append, total_append] at h1
  rw [Lib.size_eq]; omega
theorem buf_room {pre : List ByteArray} {x s : ByteArray} (h : pre ++ [x] <+: partsOf s) : (bufOf pre).length + (x.size + 1) ≤ s.size + 1 := by
  have h1 := total_datas h
  have h2 := fold_total (datas pre) []
  rw [datas_more, total_append] at h1
  unfold bufOf
  rw [show (flat (cparts (datas pre))).length = total (cparts (datas pre)) from flat_total _]
  have e : total [x.data.toList] = x.size + 1 := by rw [Lib.size_eq]; rfl
  have e2 : total ([] : List Bytes) = 0 := rfl
  unfold cparts
  omega
theorem buf_end (s : ByteArray) : bufOf (partsOf s) = flat (cparts (parts s.data.toList)) := by unfold bufOf; rw [show datas (partsOf s) = parts s.data.toList from map_data _]
theorem clean_flat {s d : ByteArray} (h : d.data.toList = clean s.data.toList) : (bufOf (partsOf s) = [] ∧ d = ⟨#[47]⟩) ∨ (bufOf (partsOf s) ≠ [] ∧ d.data.toList = bufOf (partsOf s)) := by
  rw [buf_end]
  unfold clean text at h
  by_cases e : cparts (parts s.data.toList) = []
  · left
    rw [if_pos e] at h
    exact ⟨by rw [e]; rfl, ba_ext h⟩
  · right
    rw [if_neg e] at h
    refine ⟨?_, h⟩
    cases hc : cparts (parts s.data.toList) with
    | nil => exact absurd hc e
    | cons p q => simp [flat]

/-! a row of bytes of one's own -/
/-- block g is a row of bytes: d, and room for cap bytes in all -/
def Buf (W : World) (base g cap : Nat) (d : ByteArray) : Prop := W.ownsRow base 5 1 (.slice (some ⟨g, 0, none⟩) d.size cap) d.size (Lib.strCells d)
theorem buf_turn {T : Nat → Prop} {A B : World} {base g cap : Nat} {d : ByteArray} (h : Buf A base g cap d) (ht : Turns T A B) (hg : ¬ T g) : Buf B base g cap d := by
  refine ⟨h.1, ?_⟩
  rcases h.2 with ⟨h0, _⟩ | ⟨g', cap', cur, e1, hb, hh, rest⟩
  · cases h0
  · cases e1
    exact Or.inr ⟨g, cap, cur, rfl, hb, ht.keeps hh hg, rest⟩
theorem buf_cut {W : World} {base g cap k : Nat} {d : ByteArray} (h : Buf W base g cap d) (hk : k ≤ d.size) : Buf W base g cap (d.extract 0 k) := by
  have e : (d.extract 0 k).size = k := by rw [ByteArray.size_extract]; omega
  have e2 : Lib.strCells (d.extract 0 k) = (Lib.strCells d).take k := by unfold Lib.strCells; rw [take_bytes, List.map_take]
  unfold Buf
  rw [e, e2]
  obtain ⟨h1, h2⟩ := h
  refine ⟨by rw [List.length_take, Lib.strCells_length]; omega, ?_⟩
  rcases h2 with ⟨h0, _⟩ | ⟨g', cap', cur, e1, hb, hh, hn, hm, hs, ht⟩
  · cases h0
  · cases e1
    refine Or.inr ⟨g, cap, cur, rfl, hb, hh, by omega, hm, hs, ?_⟩
    rw [← ht, List.take_take]
    congr 1; omega
theorem buf_more {W : World} {base g cap n : Nat} {d x : ByteArray} {xs : List Value} (h : W.ownsRow base 5 1 (.slice (some ⟨g, 0, none⟩) n cap) n xs) (hn : n = (d ++ x).size) (hx : xs = Lib.strCells d ++ Lib.strCells x) : Buf W base g cap (d ++ x) := by
  unfold Buf
  have e : Lib.strCells (d ++ x) = Lib.strCells d ++ Lib.strCells x := by unfold Lib.strCells; rw [cat_bytes, List.map_append]
  rw [e, ← hx, ← hn]; exact h
theorem buf_caps {W : World} {base g cap : Nat} {d : ByteArray} (h : Buf W base g cap d) : d.size ≤ cap ∧ cap ≤ maxLen := by
  rcases h.2 with ⟨h0, _⟩ | ⟨g', cap', cur, e1, hb, hh, hn, hm, hs, ht⟩
  · cases h0
  · cases e1; exact ⟨hn, hm⟩
theorem buf_conv {W : World} {base g cap : Nat} {d : ByteArray} (h : Buf W base g cap d) : (convert 145 9 (.slice (some ⟨g, 0, none⟩) d.size cap)).run Tryz.prog W = .ok (.string d) W := by
  have h2 := run_convert_bytes_back (P := Tryz.prog) W 145 9 5 ⟨g, 0, none⟩ cap d.data.toList Tryz.underlying145 Tryz.underlying5 Tryz.underlying9 (fun j hj => by
    have hj2 : j < d.size := by rw [Lib.size_eq]; exact hj
    exact h.cells (g := g) rfl j _ (cells_get d j hj2))
  rw [← Lib.size_eq, mk_bytes] at h2
  exact h2
/-- 'append(b, s...)' of a text onto a row with room, in a fenced walk -/
theorem wp_append_text {F : Fence} {n : Nat} {P : Program} (w : World) {ops : Array Oper} {rest : List Oper} {o : Oper} {a : Act} {Q : Exit → Act → World → Prop}
    (hg : o.guard = none) (s x : Operand) (t u : TypeId) (hop : o.op = Op.call { callee := Callee.builtin Builtin.append, args := #[s, x], argTypes := #[t, u] })
    (base : Nat) (e : TypeId) (i : TypeInfo) (h1 : P.underlying t = some (.slice e)) (hu : P.underlying u = some .string) (h2 : P.info? e = some i) (h4 : i.size = 1)
    (p : Option Addr) (k cap : Nat) (xs : List Value) (hs : a.eval s = .slice p k cap) (hown : w.ownsRow base e 1 (.slice p k cap) k xs) (str : ByteArray) (hx : a.eval x = .string str) (hc : 0 < cap) (hroom : k + str.size ≤ cap)
    (hK : ∀ w', w'.ownsRow base e 1 (.slice p (k + str.size) cap) (k + str.size) (xs ++ Lib.strCells str) → w.grownBy w' (Value.ownBlock (.slice p k cap)) → wpListIn F n P ops Q rest (a.put o.dst (.slice p (k + str.size) cap)) w') :
    wpListIn F n P ops Q (o :: rest) a w := by
  refine wpListIn_plain hg fun K hK' => ?_
  obtain ⟨w', hrun, r1, r2⟩ := Lib.run_append_fits_string (P := P) w base t u o.type e i h1 hu h2 h4 p k cap xs hown str hc hroom
  unfold Oper.wpIn
  refine ⟨?_, ?_⟩
  · simp [Oper.about, hop, resolve, Target.leads, Sem.run_pure]
  · rw [Oper.semAt_plain F _ _ (by rw [hop]; intro c hc'; cases hc')]
    simp [execOp, hop, resolve, invoke, builtin, hs, hx, hrun, Result.andThen]
    exact hK' _ _ (hK w' r1 r2)
/-- a variable's box and the row g of the slice that it holds, behind what has turned g alone, and a store into the box -/
theorem box_stored {W A w1 : World} {B g : Nat} {t : TypeId} {v : Value} (v' : Value) (hv : Boxed W B t v) (hA : Turns (fun _ => False) W A) (hg : A.grownBy w1 (some g)) (hne : B ≠ g) :
    Boxed w1 B t v ∧ Boxed (w1.setCell ⟨B, 0, none⟩ v') B t v' ∧ Turns (fun k => k = B ∨ k = g) W (w1.setCell ⟨B, 0, none⟩ v') ∧ Turns (fun k => k = B) w1 (w1.setCell ⟨B, 0, none⟩ v') := by
  have hv1 : Boxed w1 B t v := (Boxed.kept (hA.keeps hv id) hg (by simpa using hne))
  exact ⟨hv1, hv1.set v', (((hA.wider fun _ h => h.elim).trans (Turns.of_grown hg (fun r e => by cases e; exact Or.inr rfl))).trans (Turns.setCell _ (Or.inl rfl))), Turns.setCell _ rfl⟩
theorem cells_more (d x : ByteArray) : Lib.strCells (d ++ x) = Lib.strCells d ++ Lib.strCells x := by unfold Lib.strCells; rw [cat_bytes, List.map_append]
end Go.Proofs.YtpihldcchjoinaaGreatDoor.W04
/-
  Layer 4 (path), walks: the program's Parts: a text's parts, in new memory, at every text of at most 2^31 bytes; nothing that was there is changed.
-/
namespace Go.Proofs.YtpihldcchjoinaaGreatDoor.W04
open Go Go.RowKit Go.Shelf Go.Proofs.YtpihldcchjoinaaGreatDoor.Range Go.Proofs.YtpihldcchjoinaaGreatDoor.M04 Go.Proofs.YtpihldcchjoinaaGreatDoor.Strs
open Go.Proofs.YtpihldcchjoinaaGreatDoor.Kit (ret_str ret_bool ret_int mk_of mk_bytes below_draws on)
attribute [local go_sem] Oper.semAt_some

/-- a variable's box and the row of the slice that it holds, behind 'v = append(v, ..)' -/
theorem box_appended {W w1 : World} {T : Nat → Prop} {n0 base B : Nat} {t e : TypeId} {size : Nat} {v v' : Value} {k m : Nat} {xs ys : List Value} {tmp : Obj}
    (hv : Boxed W B t v) (hte : t ≠ e) (hrow : W.ownsRow base e size v k xs) (hB : ¬ T B) (hT : ∀ k, base ≤ k → ¬ T k) (h1 : n0 ≤ B) (h2 : n0 ≤ base)
    (hown' : w1.ownsRow base e size v' m ys) (hgrow : (W.alloc tmp).grownBy w1 v.ownBlock) :
    Boxed w1 B t v ∧ Boxed (w1.setCell ⟨B, 0, none⟩ v') B t v' ∧ (w1.setCell ⟨B, 0, none⟩ v').ownsRow base e size v' m ys ∧ Turns (fun k => ¬ T k) W (w1.setCell ⟨B, 0, none⟩ v') ∧ Below n0 W (w1.setCell ⟨B, 0, none⟩ v') := by
  have hv1 : Boxed w1 B t v := (hv.alloc tmp).kept hgrow (hv.not_row hte hrow)
  have hlt := hv.lt
  refine ⟨hv1, hv1.set v', hown'.kept (grownBy_setCell' w1 B v') (.inr (hv1.not_row hte hown').symm), ?_, ?_⟩
  · exact ((Turns.alloc _ W tmp).trans (Turns.of_grown hgrow fun r hr => hT r (hrow.lt r hr).1)).trans (Turns.setCell _ hB)
  · exact (((Below.refl n0 W).alloc (by omega) tmp).grown hgrow (by simp; omega) (fun r hr => Nat.le_trans h2 (hrow.lt r hr).1)).setCell (p := ⟨B, 0, none⟩) h1 v'

set_option maxRecDepth 100000 in
set_option maxHeartbeats 2000000 in
theorem parts_makes (s : ByteArray) (hs : s.size ≤ 2147483648) (w : World) : Calls Tryz.prog 60 #[.string s] w (Makes w (parts s.data.toList)) := by
  obtain ⟨i0, hi, hz0, hz1, hz2⟩ := info_parts text_info
  have HP := Lib.hid (parts_at s)
  have hlen : (partsOf s).length ≤ s.size + 1 := by
    unfold partsOf
    rw [List.length_map, Lib.size_eq]
    exact parts_count _
  refine (callsIn_wide (n := 9)).1 ?_
  refine callsIn_of_wp_marks Tryz.func60 rfl trivial ?_ rfl
  simp only [Tryz.ntmps60, List.size_toArray, List.length_cons, List.length_nil, Nat.reduceAdd, Nat.reduceSub, Array.replicate_succ, Array.replicate_zero, List.push_toArray, List.append_toArray, List.nil_append, List.cons_append]
  gi_wp2
  refine ⟨trivial, ?_⟩
  gi_at_call 90
  refine (callsIn_wide.2 (HP.out _)).mono ?_
  rintro e w1 ⟨rfl, rfl⟩
  gi_wp2
  have x0 := Boxed.new w 37 (.slice none 0 0)
  have x1 := Boxed.new (w.alloc (.cells #[.slice none 0 0] 37)) 9 (.string s)
  rw [World.size_alloc] at x1
  have x2 := x0.alloc (.cells #[.string s] 9)
  have hb : Below w.heap.size w ((w.alloc (.cells #[.slice none 0 0] 37)).alloc (.cells #[.string s] 9)) := ((Below.refl _ w).alloc (Nat.le_refl _) _).alloc (by simp) _
  have hsz : ((w.alloc (.cells #[.slice none 0 0] 37)).alloc (.cells #[.string s] 9)).heap.size = w.heap.size + 2 := by simp
  generalize (w.alloc (.cells #[.slice none 0 0] 37)).alloc (.cells #[.string s] 9) = U at *
  clear x0
  refine wp_range (gf := 113) (lb := #[.pointer (some ⟨w.heap.size + 1, 0, none⟩)]) rfl (enters_of Tryz.func113 (by kernel_rfl) rfl)
    (parts_seq (w.heap.size + 1) s (by omega) U x1.cell (by omega)) (fun k hk => hk.elim) rfl
    (fun k => w.heap.size + 2 ≤ k ∧ k < w.heap.size + 10) (fun k => by unfold Its; rw [hsz]; simp)
    (fun pre W => ∃ v, Boxed W w.heap.size 37 v ∧ W.ownsRow (w.heap.size + 10) 9 1 v pre.length (pre.map Value.string) ∧ Below w.heap.size w W)
    (fun _ _ _ => False)
    (by
      rintro pre A B ⟨v, h1, h2, h3⟩ ht
      exact ⟨v, ht.keeps h1 (by omega), ht.row h2 (by intro k hk; omega), h3.trans (ht.below (by intro k hk; omega) h3.size)⟩)
    (fun _ _ _ _ h _ => h)
    ⟨_, x2, World.ownsRow_nil _ _ _ _, hb⟩
    (fun x => { tmps := #[.string s, undef, .slice none 0 0, .pointer (some ⟨w.heap.size, 0, none⟩), .string x, .string s, .func (.func 113) #[] #[.pointer (some ⟨w.heap.size + 1, 0, none⟩)], .string x, undef, undef, undef, undef, undef], defers := [] }) ?assign ?body ?done ?stop
  case assign =>
    intro l x W K hK
    gi_wp2
    exact hK
  case body =>
    rintro l pre x W ⟨v, hv, hrow, hB⟩ hW hpre
    have hc := hv.cell
    have hf := hv.frozen
    have hle : pre.length + 1 ≤ s.size + 1 := by
      have := hpre.length_le
      rw [List.length_append, List.length_singleton] at this
      omega
    gi_wp2_with (gi_at_builtin; refine wpListIn_append_own _ rfl _ _ 37 rfl (w.heap.size + 10) 9 i0 (.string ⟨#[]⟩) 1 16 Tryz.underlying37 hi hz0 hz1 hz2 rfl (by decide) _ _ _ rfl (hrow.alloc _) ⟨W.heap.size, 0, none⟩ 1 1 [.string x] rfl rfl (cell_one_new _ _ _) (by simp [Value.oneCell']) (by unfold maxLen; omega) (by omega) (by simp; omega) ?_; intro v' w1 hown' hgrow _; obtain ⟨g', cap', rfl⟩ := ownsRow_succ hown'; obtain ⟨hv1, hv2, hr2, ht2, hb2⟩ := box_appended (n0 := w.heap.size) (T := fun k => w.heap.size + 2 ≤ k ∧ k < w.heap.size + 10) hv (by decide) hrow (by omega) (by intro k hk; omega) (Nat.le_refl _) (by omega) hown' hgrow; have hc1 := hv1.cell; have hf1 := hv1.frozen)
    exact ⟨ht2, _, hv2, by rw [List.length_append, List.map_append]; exact hr2, hB.trans hb2⟩
  case done =>
    rintro W ⟨v, hv, hrow, hB⟩ hK
    have hc := hv.cell
    gi_wp2
    refine ⟨by simp, .inl ⟨_, _, rfl, run_takeDeferred hK, ?_⟩⟩
    refine ⟨_, results_tmp rfl _ _ _, v, rfl, ?_, hB.trans ((Turns.putObj (T := fun k => w.heap.size + 2 ≤ k) _ (by omega)).below (by intro k hk; omega) hB.size)⟩
    have h2 := ownsRow_putObj hrow (.deferred none) hK rfl
    have e1 : (partsOf s).map Value.string = (parts s.data.toList).map strV := by unfold partsOf; rw [List.map_map]; rfl
    rw [e1, show (partsOf s).length = (parts s.data.toList).length by unfold partsOf; rw [List.length_map]] at h2
    exact World.ownsRow.mono h2 (by omega)
  case stop =>
    rintro c pre W _ h _
    exact h.elim
theorem parts_any (s : ByteArray) (hs : s.size ≤ 2147483648) (w : World) : Calls Tryz.prog 60 #[.string s] w (Hands w (parts s.data.toList)) := (parts_makes s hs w).mono fun _ _ h => makes_hands h
end Go.Proofs.YtpihldcchjoinaaGreatDoor.W04
