import Derived.Test.YtbjcopckkgdmgaaGreatDoorN13
import Derived.Test.YtbjcopckkgdmgaaGreatDoorLa2
import Derived.Test.YtbjcopckkgdmgaaGreatDoorOp
/- What TreeEqual needs of graphs, and the program's Same as a truth. -/
namespace Go.Ev
open Go.Proofs Go.RowKit Go.Lib
set_option maxRecDepth 100000

def SameB (A B : List Nd) (ra rb : Nat) (W : World) (e : Ending) (w' : World) : Prop := ∃ b : Bool, e = .returned (.tuple #[.bool b, .int .i64 0]) ∧ (b = true ↔ Bis A ra B rb) ∧ Kp W.heap.size W w'

theorem same_b (va vb : Value) (A B : List Nd) (ra rb : Nat) (W : World) (ha : NodesV W va A) (hb : NodesV W vb B) (hva : validB A ra = true) (hvb : validB B rb = true) :
    Calls Tryz.prog 28 #[.agg #[va, .int .i64 ra], .agg #[vb, .int .i64 rb]] W (SameB A B ra rb W) :=
  (same_ok va vb A B ra rb W ha hb hva hvb).mono fun e w' ⟨c, h1, h2, h3⟩ => ⟨c == 0, h1, by rw [beq_iff_eq]; simpa using cmp_zero h2, h3⟩

theorem Bis.down {A B : List Nd} {x y : Nat} {na nb : Nd} (hA : GClosed A) (hB : GClosed B) (hna : A[x]? = some na) (hnb : B[y]? = some nb) (h : Bis A x B y) :
    na.args.length = nb.args.length ∧ ∀ (k : Nat) (p q : Int), na.args[k]? = some p → nb.args[k]? = some q → Bis A p.toNat B q.toNat := by
  have h2 := h.args hA hB (List.getElem?_eq_some_iff.1 hna).1 (List.getElem?_eq_some_iff.1 hnb).1
  have e1 : argsAt A x = na.args.map Int.toNat := by unfold argsAt; rw [hna]
  have e2 : argsAt B y = nb.args.map Int.toNat := by unfold argsAt; rw [hnb]
  rw [e1, e2] at h2
  refine ⟨by simpa using h2.length, fun k p q hp hq => h2.get (i := k) (by rw [List.getElem?_map, hp]; rfl) (by rw [List.getElem?_map, hq]; rfl)⟩

theorem valid_at {A : List Nd} {z : Int} (h : validB A z = true) {r : Nat} (hr : r < A.length) : validB A (r : Int) = true := by
  unfold validB at h ⊢
  simp only [Bool.and_eq_true, decide_eq_true_eq] at h ⊢
  exact ⟨⟨h.1.1, by omega⟩, h.2⟩
end Go.Ev

/- Bytes, read as data. -/
namespace Go.Ev
open Go.Proofs Go.RowKit Go.Lib Go.ChangeShapes Go.WideShapes Go.ChangeAt Go.Deep
set_option maxRecDepth 100000

/-- The value is a slice of these bytes. -/
inductive U8V (w : World) : Value → List UInt8 → Prop
  | empty (base : Option Addr) (c : Nat) : U8V w (.slice base 0 c) []
  | row (b off c : Nat) (xs : List UInt8) (hc : xs.length ≤ c) (hcell : ∀ (j : Nat) x, xs[j]? = some x → w.cell? ⟨b, off + j, none⟩ = some (.int .u8 (x.toNat : Int))) : U8V w (.slice (some ⟨b, off, none⟩) xs.length c) xs

theorem U8V.kp {W w : World} {v : Value} {xs : List UInt8} (h : U8V W v xs) (hk : Kp W.heap.size W w) : U8V w v xs := by
  cases h with
  | empty base c => exact .empty base c
  | row b off c xs hc hcell => exact .row b off c xs hc fun j x hj => hk.cells (hcell j x hj)
theorem U8V.form {W : World} {v : Value} {xs : List UInt8} (h : U8V W v xs) : ∃ a c, v = .slice a xs.length c := by
  cases h with
  | empty base c => exact ⟨_, _, rfl⟩
  | row b off c xs hc hcell => exact ⟨_, _, rfl⟩
theorem U8V.at {W : World} {a : Option Addr} {n c : Nat} {xs : List UInt8} (h : U8V W (.slice a n c) xs) {i : Nat} (hi : i < xs.length) : ∃ b off, a = some ⟨b, off, none⟩ ∧ n ≤ c ∧ ∃ x : UInt8, W.cell? ⟨b, off + i, none⟩ = some (.int .u8 (x.toNat : Int)) := by
  cases h with
  | empty => simp at hi
  | row b off c xs hc hcell => exact ⟨b, off, rfl, hc, xs[i], hcell i _ (List.getElem?_eq_getElem hi)⟩
section
variable {H : Type} {enc : TypeId × Value → H} {W : World} {base : Nat} {sp : Nat → Bool} {held : Bool}
theorem Tryz.cells5 : Tryz.prog.cellsOf 5 = 1 := by kernel_rfl
theorem open_u8s {v : Value} {d : DataW H} {p : List MemPlace} {r : Go.Reach} {b0 : Nat} (hv : Value.okWide Tryz.prog W r b0 46 v) (h : DataW.Trod enc Tryz.prog W base sp held 46 v d p) :
    ∃ xs, U8V W v xs ∧ xs.length ≤ 9223372036854775807 := by
  obtain ⟨fuel, hf⟩ := h
  have hcs : v.cells.toList = [v] := by
    obtain ⟨a, len, cap, rfl⟩ := okWide_slice Tryz.underlying46 hv
    rfl
  rw [hcs] at hf
  rcases open_ints Tryz.underlying46 Tryz.underlying5 Tryz.cells5 hf with ⟨h1, _⟩ | ⟨a, len, cap, zs, h1, _, hl, hm, hz, _, hc, hwf⟩
  · obtain rfl : v = .slice none 0 0 := by simpa using h1
    exact ⟨[], .empty _ _, by simp⟩
  · obtain rfl : v = .slice (some a) len cap := by simpa using h1
    rcases Nat.eq_zero_or_pos len with rfl | hp
    · exact ⟨[], .empty _ _, by simp⟩
    have hzl : len ≤ zs.length := by rw [hz]; split <;> omega
    obtain ⟨b, off, spot⟩ := a
    have hspot : spot = none := by
      have := World.cell?_spot (hc 0 (by omega))
      simpa [Addr.add] using this
    subst hspot
    have hl2 : ((List.range len).map fun i => UInt8.ofNat (zs.getD i 0).toNat).length = len := by simp
    have := U8V.row (w := W) b off cap ((List.range len).map fun i => UInt8.ofNat (zs.getD i 0).toNat) (by rw [hl2]; exact hl) (fun j x hj => by
      have hj' : j < len := by have := (List.getElem?_eq_some_iff.1 hj).1; rwa [hl2] at this
      rw [List.getElem?_map, List.getElem?_range hj'] at hj
      have hx : UInt8.ofNat (zs.getD j 0).toNat = x := Option.some.inj hj
      rw [← hx]
      clear hj hx
      have hcj := hc j (by omega)
      rw [Go.WideShapes.add_plain] at hcj
      rw [hcj]
      have hzj : zs.getD j 0 ∈ zs := by
        rw [List.getD_eq_getElem?_getD, List.getElem?_eq_getElem (by omega)]
        exact List.getElem_mem _
      have hw := hwf _ hzj
      simp only [Lit.wf, Bool.and_eq_true, decide_eq_true_eq] at hw
      rw [show IntKind.u8.min = 0 by decide, show IntKind.u8.max = 255 by decide] at hw
      generalize zs.getD j 0 = z at hw ⊢
      obtain ⟨n, rfl⟩ : ∃ n : Nat, z = n := ⟨z.toNat, by omega⟩
      simp only [Int.toNat_natCast]
      have : (UInt8.ofNat n).toNat = n := by rw [UInt8.toNat_ofNat']; omega
      rw [this])
    rw [hl2] at this
    exact ⟨_, this, by rw [hl2]; have : maxLen = 9223372036854775807 := rfl; omega⟩
end
end Go.Ev
