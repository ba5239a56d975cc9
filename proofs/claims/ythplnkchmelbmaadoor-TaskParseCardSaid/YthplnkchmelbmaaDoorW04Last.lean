/-
  The place of the last slash in a text and in a row of bytes: what Go's strings.LastIndexByte and bytes.LastIndexByte return at a slash. No condition but those that each theorem bears.
-/
import Derived.Test.YthplnkchmelbmaaDoorKit
import Derived.Test.YthplnkchmelbmaaDoorChecked
import Derived.Lib.AppendStr
namespace Go.Proofs.YthplnkchmelbmaaDoor.W04
set_option maxRecDepth 100000
open Go Go.RowKit
open Go.Proofs.YthplnkchmelbmaaDoor.Kit (ret_str ret_bool ret_int byte_eq byte_ne drop_next drop_end)

/-- the place of the last slash; -1 where there is none -/
def lastSlash (l : List UInt8) : Int := if (47 : UInt8) ∈ l then ((l.length - 1 - (l.reverse.idxOf 47) : Nat) : Int) else -1
theorem last_at {l : List UInt8} {k : Nat} (hk : k < l.length) (h : l.getD k 0 = 47) (h2 : (47 : UInt8) ∉ l.drop (k + 1)) : lastSlash l = k := by
  have e : l = l.take k ++ 47 :: l.drop (k + 1) := by
    conv => lhs; rw [← List.take_append_drop k l, List.drop_eq_getElem_cons hk]
    rw [List.getD_eq_getElem?_getD, List.getElem?_eq_getElem hk] at h
    simp at h
    rw [h]
  have hm : (47 : UInt8) ∈ l := by rw [e]; simp
  have hr : l.reverse = (l.drop (k + 1)).reverse ++ 47 :: (l.take k).reverse := by conv => lhs; rw [e]; simp
  have hi : l.reverse.idxOf 47 = (l.drop (k + 1)).length := by
    rw [hr, List.idxOf_append, if_neg (by simpa using h2)]
    simp
  unfold lastSlash
  rw [if_pos hm, hi, List.length_drop]
  congr 1; omega
theorem last_none {l : List UInt8} (h : (47 : UInt8) ∉ l) : lastSlash l = -1 := by unfold lastSlash; rw [if_neg h]
theorem last_le (l : List UInt8) : -1 ≤ lastSlash l ∧ lastSlash l ≤ l.length := by unfold lastSlash; split <;> omega
theorem drop_zero_no {l : List UInt8} (h : (47 : UInt8) ∉ l.drop 0) : (47 : UInt8) ∉ l := by simpa using h
theorem drop_more {s : ByteArray} {k : Nat} (hk : k < s.size) (h : (47 : UInt8) ∉ s.data.toList.drop (k + 1)) (hc : ¬ s[k] = 47) : (47 : UInt8) ∉ s.data.toList.drop k := by
  rw [drop_next s k hk]
  simp only [List.mem_cons, not_or]
  exact ⟨fun e => hc e.symm, h⟩

theorem cells_get (d : ByteArray) (k : Nat) (hk : k < d.size) : (Lib.strCells d)[k]? = some (.int .u8 (d[k].toNat : Int)) := by
  have h2 : k < d.data.toList.length := by rw [← Lib.size_eq]; exact hk
  unfold Lib.strCells
  rw [List.getElem?_map, List.getElem?_eq_getElem h2]
  rfl
theorem add_zero_at (g k : Nat) : (⟨g, 0, none⟩ : Addr).add k = ⟨g, k, none⟩ := by unfold Addr.add; split <;> simp_all
theorem last_bytes (g n cap base : Nat) (d : ByteArray) (hd : d.size = n) (hc : n ≤ cap) (hm : cap ≤ maxLen) (w : World) (hr : w.ownsRow base 5 1 (.slice (some ⟨g, 0, none⟩) n cap) n (Lib.strCells d)) :
    Calls Tryd.prog 49 #[.slice (some ⟨g, 0, none⟩) n cap, .int .u8 47] w fun e w' => e = .returned (.int .i64 (lastSlash d.data.toList)) ∧ ∃ m, w' = w.drewN m := by
  subst hd
  unfold maxLen at hm
  have HC : Hid (∀ k : Nat, (hk : k < d.size) → w.cell? ⟨g, k, none⟩ = some (.int .u8 (d[k].toNat : Int))) := by
    show ∀ k : Nat, (hk : k < d.size) → _
    intro k hk
    have := hr.cells (g := g) rfl k _ (cells_get d k hk)
    rw [add_zero_at] at this
    exact this
  clear hr
  have H : Hid (Calls Tryd.prog 58 #[.slice (some ⟨g, 0, none⟩) d.size cap, .int .u8 47] w fun e w' => e = .returned (.int .i64 (lastSlash d.data.toList)) ∧ ∃ m, w' = w.drewN m) := by
    show Calls _ _ _ _ _
    have HL : Hid (∀ k : Nat, (hk : k < d.size) → d[k] = 47 → (47 : UInt8) ∉ d.data.toList.drop (k + 1) → lastSlash d.data.toList = k) := by
      show ∀ k : Nat, (hk : k < d.size) → d[k] = 47 → (47 : UInt8) ∉ d.data.toList.drop (k + 1) → lastSlash d.data.toList = k
      intro k hk h1 h2
      exact last_at (by rw [← Lib.size_eq]; exact hk) (by rw [Kit.byte_get d k hk]; exact h1) h2
    have HN : Hid ((47 : UInt8) ∉ d.data.toList.drop 0 → lastSlash d.data.toList = -1) := fun h => last_none (drop_zero_no h)
    have HM := Lib.hid (fun (k : Nat) => @drop_more d k)
    have H0 : Hid ((47 : UInt8) ∉ d.data.toList.drop d.size) := by
      show (47 : UInt8) ∉ d.data.toList.drop d.size
      rw [drop_end d d.size (Nat.lt_irrefl _)]; simp
    generalize lastSlash d.data.toList = r at *
    go_enter Tryd.func58, Tryd.ntmps58
    go_wp2
    go_loopw [5] (fun i wr => ∃ k m : Nat, k ≤ d.size ∧ i = .int .i64 ((k : Int) - 1) ∧ wr = w.drewN m ∧ Hid ((47 : UInt8) ∉ d.data.toList.drop k)) (fun i _ => (intOf i + 1).toNat)
    case atStart => exact ⟨d.size, 0, Nat.le_refl _, rfl, rfl, H0⟩
    case round =>
      obtain ⟨k, m, hk, rfl, rfl, hd⟩ := hrel
      cases k with
      | zero =>
        have HX : Hid (r = -1) := HN.out hd.out
        clear HL HN HM H0 hd
        go_wp2
        go_ret
        exact ⟨ret_int HX.out.symm, m, rfl⟩
      | succ k =>
        have e1 : ((k + 1 : Nat) : Int) - 1 = k := by omega
        rw [e1]
        have hlt : k < d.size := hk
        have hcell := HC.out k hlt
        clear e1
        by_cases h47 : (d[k].toNat : Int) = 47
        · have HX : Hid (r = k) := HL.out k hlt (byte_eq (d := 47) h47) hd.out
          have t47 : ((d[k].toNat : Int) == 47) = true := by simp [h47]
          clear h47 HL HN HM H0 hd
          go_wp2
          go_ret
          exact ⟨ret_int HX.out.symm, _, rfl⟩
        · have HX : Hid ((47 : UInt8) ∉ d.data.toList.drop k) := HM.out k hlt hd.out (byte_ne (d := 47) h47)
          have t47 : ((d[k].toNat : Int) == 47) = false := by simp [h47]
          clear h47 HL HN HM H0 hd
          go_wp2
          go_roundw
          case rel => exact ⟨k, _, by omega, rfl, rfl, HX⟩
          case measure => simp [intOf]
  go_enter Tryd.func49, Tryd.ntmps49
  go_wp2_with fail
  refine (H.out).mono ?_
  rintro e w1 ⟨rfl, m, rfl⟩
  go_wp2_with fail
  go_ret
  exact ⟨rfl, m, rfl⟩
end Go.Proofs.YthplnkchmelbmaaDoor.W04
