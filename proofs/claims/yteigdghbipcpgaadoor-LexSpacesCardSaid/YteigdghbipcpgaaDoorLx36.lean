/- Bytes, read as data. -/
import Derived.Test.YteigdghbipcpgaaDoorLxOp
import Derived.Test.YteigdghbipcpgaaDoorLx35
namespace Go.Lx
open Go.Proofs Go.RowKit Go.Lib Go.Ev Go.ChangeShapes Go.WideShapes Go.ChangeAt Go.Deep
set_option maxRecDepth 100000
section
variable {H : Type} {enc : TypeId × Value → H} {W : World} {base : Nat} {sp : Nat → Bool} {held : Bool}
theorem Tryd.cells5 : Tryd.prog.cellsOf 5 = 1 := by kernel_rfl

theorem open_u8s {v : Value} {d : DataW H} {p : List MemPlace} {r : Reach} {b0 : Nat} (hv : Value.okWide Tryd.prog W r b0 37 v) (h : DataW.Trod enc Tryd.prog W base sp held 37 v d p) :
    ∃ xs, U8V W v xs ∧ xs.length ≤ 9223372036854775807 := by
  obtain ⟨fuel, hf⟩ := h
  have hcs : v.cells.toList = [v] := by
    obtain ⟨a, len, cap, rfl⟩ := okWide_slice Tryd.underlying37 hv
    rfl
  rw [hcs] at hf
  rcases open_ints Tryd.underlying37 Tryd.underlying5 Tryd.cells5 hf with ⟨h1, _⟩ | ⟨a, len, cap, zs, h1, _, hl, hm, hz, _, hc, hwf⟩
  · obtain rfl : v = .slice none 0 0 := by simpa using h1
    exact ⟨[], .empty _ _, by simp⟩
  · obtain rfl : v = .slice (some a) len cap := by simpa using h1
    rcases Nat.eq_zero_or_pos len with rfl | hp
    · exact ⟨[], .empty _ _, by simp⟩
    have hzl : len ≤ zs.length := by rw [hz]; split <;> omega
    obtain ⟨b, off, spot⟩ := a
    have hspot : spot = none := by
      have := World.cell?_spot (hc 0 (by omega))
      simpa [Addr.add] using this
    subst hspot
    have hl2 : ((List.range len).map fun i => UInt8.ofNat (zs.getD i 0).toNat).length = len := by simp
    have := U8V.row (w := W) b off cap ((List.range len).map fun i => UInt8.ofNat (zs.getD i 0).toNat) (by rw [hl2]; exact hl) (fun j x hj => by
      have hj' : j < len := by have := (List.getElem?_eq_some_iff.1 hj).1; rwa [hl2] at this
      rw [List.getElem?_map, List.getElem?_range hj'] at hj
      have hx : UInt8.ofNat (zs.getD j 0).toNat = x := Option.some.inj hj
      rw [← hx]
      clear hj hx
      have hcj := hc j (by omega)
      rw [Go.WideShapes.add_plain] at hcj
      rw [hcj]
      have hzj : zs.getD j 0 ∈ zs := by
        rw [List.getD_eq_getElem?_getD, List.getElem?_eq_getElem (by omega)]
        exact List.getElem_mem _
      have hw := hwf _ hzj
      simp only [Lit.wf, Bool.and_eq_true, decide_eq_true_eq] at hw
      rw [show IntKind.u8.min = 0 by decide, show IntKind.u8.max = 255 by decide] at hw
      generalize zs.getD j 0 = z at hw ⊢
      obtain ⟨n, rfl⟩ : ∃ n : Nat, z = n := ⟨z.toNat, by omega⟩
      simp only [Int.toNat_natCast]
      have : (UInt8.ofNat n).toNat = n := by rw [UInt8.toNat_ofNat']; omega
      rw [this])
    rw [hl2] at this
    exact ⟨_, this, by rw [hl2]; have : maxLen = 9223372036854775807 := rfl; omega⟩
end
end Go.Lx
