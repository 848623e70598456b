/- Tokens, read as data. -/
import Derived.Test.YteigdghbipcpgaaDoorLxWit
import Derived.Test.YteigdghbipcpgaaDoorLx21
import Derived.Deep.Strs
namespace Go.Lx
open Go.Proofs Go.RowKit Go.Lib Go.Ev Go.ChangeShapes Go.WideShapes Go.ChangeAt Go.Deep
set_option maxRecDepth 100000
instance : Inhabited Tok := ⟨⟨0, [], 0⟩⟩

theorem weights_in {H : Type} {P : Program} {e : TypeId} : ∀ {l : List (DataW H)} {d : DataW H}, d ∈ l → ∀ n ∈ d.weights P e, n ∈ DataW.weightsAll P e l
  | d' :: r, d, hd, n, hn => by
    simp only [DataW.weightsAll, List.mem_append]
    rcases List.mem_cons.1 hd with rfl | h
    · exact Or.inl hn
    · exact Or.inr (weights_in h n hn)

section
variable {H : Type} {enc : TypeId × Value → H} {W : World} {base : Nat} {sp : Nat → Bool} {held : Bool}
theorem Tryd.cells35 : Tryd.prog.cellsOf 35 = 3 := by kernel_rfl
theorem Tryd.cells3 : Tryd.prog.cellsOf 3 = 1 := by kernel_rfl
theorem Tryd.cells9 : Tryd.prog.cellsOf 9 = 1 := by kernel_rfl
theorem Tryd.bytes35 : Tryd.prog.bytesOf 35 = 32 := by kernel_rfl

theorem open_toks {fuel : Nat} {v : Value} {x : DataW H × List MemPlace} (h : DataW.trod enc Tryd.prog W base sp held fuel 24 [v] = some x) (hw : ∀ n ∈ x.1.weights Tryd.prog 24, n ≤ reachBytes) :
    ∃ ts, ToksV W v ts ∧ (∀ t ∈ ts, t.text.length ≤ reachBytes) ∧ ts.length * 32 ≤ reachBytes := by
  rcases open_slice Tryd.underlying24 h with ⟨h1, _⟩ | ⟨a, len, cap, m, n, D, Pl, h1, _, hl, hm, hmm, hx0, hx⟩
  · obtain rfl : v = .slice none 0 0 := by simpa using h1
    exact ⟨[], .empty _ _, (fun t ht => by cases ht), by simp⟩
  · obtain rfl : v = .slice (some a) len cap := by simpa using h1
    rcases Nat.eq_zero_or_pos len with rfl | hp
    · exact ⟨[], .empty _ _, (fun t ht => by cases ht), by simp⟩
    have hlm : len ≤ m := by rw [hmm]; split <;> omega
    subst hx0
    have hwl : len * 32 ≤ reachBytes := by
      have := hw (((List.range len).map D).length * 32 + ((List.range (m - len)).map fun j => D (len + j)).length * 32) (by
        simp only [DataW.weights, Tryd.underlying24, Tryd.bytes35]
        rw [← Nat.add_mul]
        exact List.mem_cons_self ..)
      simp only [List.length_map, List.length_range] at this
      omega
    obtain ⟨b, off, spot⟩ := a
    have hspot : spot = none := by
      obtain ⟨cs, hcs, hd⟩ := hx 0 (by omega)
      rw [Tryd.cells35] at hcs
      obtain ⟨_, hlen, hc⟩ := World.cells?_some hcs
      have := hc 0 (by omega)
      rw [List.getElem?_eq_getElem (by omega)] at this
      have := World.cell?_spot this
      simpa [Addr.add] using this
    subst hspot
    have key : ∀ i, i < len → ∃ t : Tok, (W.cell? ⟨b, off + i * 3, none⟩ = some (.int .i64 t.kind) ∧ W.cell? ⟨b, off + i * 3 + 1, none⟩ = some (.string ⟨t.text.toArray⟩) ∧ W.cell? ⟨b, off + i * 3 + 2, none⟩ = some (.int .i64 t.pos)) ∧ t.text.length ≤ reachBytes := fun i hi => by
      obtain ⟨cs, hcs, hd⟩ := hx i (by omega)
      rw [Tryd.cells35] at hcs
      obtain ⟨_, hlen, hc⟩ := World.cells?_some hcs
      obtain ⟨y0, y1, y2, n', hDi, _, h0, h1, h2⟩ := trod_struct3 Tryd.underlying35 hd
      match cs, hlen with
      | [c0, c1, c2], _ =>
      simp only [Tryd.cells3, Tryd.cells9, List.drop_zero, List.take_succ_cons, List.take_zero, List.drop_succ_cons] at h0 h1 h2
      obtain ⟨z0, e0, _⟩ := DataW.trod_int Tryd.underlying3 h0
      obtain ⟨s1, e1, hy1, hs1⟩ := DataW.trod_string Tryd.underlying9 h1
      obtain ⟨z2, e2, _⟩ := DataW.trod_int Tryd.underlying3 h2
      obtain rfl : c0 = .int .i64 z0 := by simpa using e0
      obtain rfl : c1 = .string s1 := by simpa using e1
      obtain rfl : c2 = .int .i64 z2 := by simpa using e2
      have hb : s1.data.toList.length ≤ reachBytes := by
        refine hw _ ?_
        simp only [DataW.weights, Tryd.underlying24]
        refine List.mem_cons_of_mem _ (List.mem_append_left _ (weights_in (d := D i) (List.mem_map.2 ⟨i, List.mem_range.2 hi, rfl⟩) _ ?_))
        have hDi' : D i = .agg [y0.1, y1.1, y2.1] := congrArg Prod.fst hDi
        rw [hDi', hy1]
        simp [DataW.weights, Tryd.underlying35, DataW.weightsEach]
      refine ⟨⟨z0, s1.data.toList, z2⟩, ?_, hb⟩
      have hc' : ∀ j, j < 3 → W.cell? ⟨b, off + i * 3 + j, none⟩ = [Value.int .i64 z0, .string s1, .int .i64 z2][j]? := fun j hj => by
        have := hc j hj
        rwa [Go.WideShapes.add_plain, Go.WideShapes.add_plain] at this
      refine ⟨(hc' 0 (by omega)).trans rfl, (hc' 1 (by omega)).trans ?_, (hc' 2 (by omega)).trans rfl⟩
      rw [Lib.mk_data]
      rfl
    obtain ⟨N, hN⟩ := choose_lt (α := Tok) (p := fun i t => (W.cell? ⟨b, off + i * 3, none⟩ = some (.int .i64 t.kind) ∧ W.cell? ⟨b, off + i * 3 + 1, none⟩ = some (.string ⟨t.text.toArray⟩) ∧ W.cell? ⟨b, off + i * 3 + 2, none⟩ = some (.int .i64 t.pos)) ∧ t.text.length ≤ reachBytes) fun i hi => key i hi
    have hl2 : ((List.range len).map N).length = len := by simp
    refine ⟨(List.range len).map N, ?_, ?_, by rw [hl2]; exact hwl⟩
    · have := ToksV.row (w := W) b off cap ((List.range len).map N) (by rw [hl2]; exact hl) (by rw [hl2]; have : maxLen = 9223372036854775807 := rfl; omega) (fun j x hj => by
        have hj' : j < len := by have := (List.getElem?_eq_some_iff.1 hj).1; rwa [hl2] at this
        rw [List.getElem?_map, List.getElem?_range hj'] at hj
        obtain rfl := Option.some.inj hj
        exact (hN j hj').1)
      rwa [hl2] at this
    · intro t ht
      obtain ⟨i, hi, rfl⟩ := List.mem_map.1 ht
      exact (hN i (List.mem_range.1 hi)).2

theorem open_toks' {v : Value} {d : DataW H} {p : List MemPlace} {r : Reach} {b0 : Nat} (hv : Value.okWide Tryd.prog W r b0 24 v) (h : DataW.Trod enc Tryd.prog W base sp held 24 v d p) (hw : ∀ n ∈ d.weights Tryd.prog 24, n ≤ reachBytes) :
    ∃ ts, ToksV W v ts ∧ (∀ t ∈ ts, t.text.length ≤ 140737488355328) ∧ ts.length ≤ 4398046511104 := by
  obtain ⟨fuel, hf⟩ := h
  have hr : reachBytes = 140737488351232 := by decide
  have hcs : v.cells.toList = [v] := by
    obtain ⟨a, len, cap, rfl⟩ := okWide_slice Tryd.underlying24 hv
    rfl
  rw [hcs] at hf
  obtain ⟨ts, h1, h2, h3⟩ := open_toks hf hw
  exact ⟨ts, h1, fun t ht => by have := h2 t ht; omega, by omega⟩
end
end Go.Lx
