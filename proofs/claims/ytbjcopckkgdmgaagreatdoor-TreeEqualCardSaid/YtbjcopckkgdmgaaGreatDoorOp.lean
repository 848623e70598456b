import Derived.Test.YtbjcopckkgdmgaaGreatDoorLa1
import Derived.OpenShut
import Derived.Deep.Slices
import Derived.Lib.SmallJoins
import Derived.Carry
/- What the arguments are, read as data; and what a law that leaves the memory alone owes. -/
namespace Go.Ev
open Go.Proofs Go.RowKit Go.Lib Go.ChangeShapes Go.WideShapes Go.ChangeAt Go.Deep

set_option maxRecDepth 100000
instance : Inhabited Nd := ⟨⟨0, 0, ⟨#[]⟩, []⟩⟩

section
variable {H : Type} {enc : TypeId × Value → H} {W : World} {base : Nat} {sp : Nat → Bool} {held : Bool}

theorem Tryz.cells3 : Tryz.prog.cellsOf 3 = 1 := by kernel_rfl
theorem Tryz.cells48 : Tryz.prog.cellsOf 48 = 4 := by kernel_rfl
theorem Tryz.cells24 : Tryz.prog.cellsOf 24 = 2 := by kernel_rfl
theorem Tryz.cells9 : Tryz.prog.cellsOf 9 = 1 := by kernel_rfl
theorem Tryz.cells43 : Tryz.prog.cellsOf 43 = 1 := by kernel_rfl
theorem Tryz.cells22 : Tryz.prog.cellsOf 22 = 1 := by kernel_rfl

theorem max_len {n : Nat} (h : n ≤ maxLen) : n ≤ 9223372036854775807 := by unfold maxLen at h; omega

/-- A slice of integers. -/
theorem open_args {fuel : Nat} {v : Value} {x : DataW H × List MemPlace} (h : DataW.trod enc Tryz.prog W base sp held fuel 43 [v] = some x) : ∃ xs, ArgsV W v xs := by
  rcases open_slice1 Tryz.underlying43 Tryz.cells3 h with ⟨h1, _⟩ | ⟨a, len, cap, m, n, V, D, Pl, h1, _, hl, hm, hmm, _, hx⟩
  · obtain rfl : v = .slice none 0 0 := by simpa using h1
    exact ⟨[], .empty _ _⟩
  · obtain rfl : v = .slice (some a) len cap := by simpa using h1
    rcases Nat.eq_zero_or_pos len with rfl | hp
    · exact ⟨[], .empty _ _⟩
    have hlm : len ≤ m := by rw [hmm]; split <;> omega
    obtain ⟨b, off, spot⟩ := a
    have hspot : spot = none := by simpa [Addr.add] using World.cell?_spot (hx 0 (by omega)).1
    subst hspot
    have hval : ∀ i, i < len → ∃ z : Int, V i = .int .i64 z := fun i hi => by
      obtain ⟨z, hz, _⟩ := DataW.trod_int Tryz.underlying3 (hx i (by omega)).2
      exact ⟨z, by simpa using hz⟩
    have hl2 : ((List.range len).map fun i => match V i with | .int _ z => z | _ => 0).length = len := by simp
    refine ⟨(List.range len).map fun i => match V i with | .int _ z => z | _ => 0, ?_⟩
    have := ArgsV.row (w := W) b off cap ((List.range len).map fun i => match V i with | .int _ z => z | _ => 0) (by rw [hl2]; exact hl) (by rw [hl2]; exact Nat.le_trans hl (max_len hm)) (fun j x hj => by
      have hj' : j < len := by have := (List.getElem?_eq_some_iff.1 hj).1; rwa [hl2] at this
      obtain ⟨z, hz⟩ := hval j hj'
      have hc := (hx j (by omega)).1
      rw [Go.WideShapes.add_plain] at hc
      rw [hc, hz]
      rw [List.getElem?_map, List.getElem?_range hj'] at hj
      simp only [Option.map_some, hz] at hj
      rw [Option.some.inj hj])
    rwa [hl2] at this

/-- A slice of nodes. -/
theorem open_nodes {fuel : Nat} {v : Value} {x : DataW H × List MemPlace} (h : DataW.trod enc Tryz.prog W base sp held fuel 22 [v] = some x) : ∃ ns, NodesV W v ns := by
  rcases open_slice Tryz.underlying22 h with ⟨h1, _⟩ | ⟨a, len, cap, m, n, D, Pl, h1, _, hl, hm, hmm, _, hx⟩
  · obtain rfl : v = .slice none 0 0 := by simpa using h1
    exact ⟨[], .empty _ _⟩
  · obtain rfl : v = .slice (some a) len cap := by simpa using h1
    rcases Nat.eq_zero_or_pos len with rfl | hp
    · exact ⟨[], .empty _ _⟩
    have hlm : len ≤ m := by rw [hmm]; split <;> omega
    obtain ⟨b, off, spot⟩ := a
    have hspot : spot = none := by
      obtain ⟨cs, hcs, hd⟩ := hx 0 (by omega)
      rw [Tryz.cells48] at hcs
      obtain ⟨_, hlen, hc⟩ := World.cells?_some hcs
      have := hc 0 (by omega)
      rw [List.getElem?_eq_getElem (by omega)] at this
      have := World.cell?_spot this
      simpa [Addr.add] using this
    subst hspot
    have key : ∀ i, i < len → ∃ nd : Nd, NodeW W b (off + i * 4) nd := fun i hi => by
      obtain ⟨cs, hcs, hd⟩ := hx i (by omega)
      rw [Tryz.cells48] at hcs
      obtain ⟨_, hlen, hc⟩ := World.cells?_some hcs
      obtain ⟨y0, y1, y2, y3, n', _, _, h0, h1, h2, h3⟩ := Joins.trod_struct4 Tryz.underlying48 hd
      match cs, hlen with
      | [c0, c1, c2, c3], _ =>
      simp only [Tryz.cells3, Tryz.cells9, Tryz.cells43, List.drop_zero, List.take_succ_cons, List.take_zero, List.drop_succ_cons] at h0 h1 h2 h3
      obtain ⟨z0, e0, _⟩ := DataW.trod_int Tryz.underlying3 h0
      obtain ⟨z1, e1, _⟩ := DataW.trod_int Tryz.underlying3 h1
      obtain ⟨s2, e2, _, hs2⟩ := DataW.trod_string Tryz.underlying9 h2
      obtain ⟨xs, hxs⟩ := open_args h3
      obtain rfl : c0 = .int .i64 z0 := by simpa using e0
      obtain rfl : c1 = .int .i64 z1 := by simpa using e1
      obtain rfl : c2 = .string s2 := by simpa using e2
      refine ⟨⟨z0, z1, s2, xs⟩, ?_⟩
      have hc' : ∀ j, j < 4 → W.cell? ⟨b, off + i * 4 + j, none⟩ = [Value.int .i64 z0, .int .i64 z1, .string s2, c3][j]? := fun j hj => by
        have := hc j hj
        rwa [Go.WideShapes.add_plain, Go.WideShapes.add_plain] at this
      exact ⟨by simpa using hc' 0 (by omega), by simpa using hc' 1 (by omega), by simpa using hc' 2 (by omega), max_len hs2, c3, by simpa using hc' 3 (by omega), hxs⟩
    obtain ⟨N, hN⟩ := choose_lt (α := Nd) (p := fun i nd => NodeW W b (off + i * 4) nd) fun i hi => key i hi
    have hl2 : ((List.range len).map N).length = len := by simp
    refine ⟨(List.range len).map N, ?_⟩
    have := NodesV.row (w := W) b off cap ((List.range len).map N) (by rw [hl2]; exact hl) (by rw [hl2]; exact Nat.le_trans hl (max_len hm)) (fun j x hj => by
      have hj' : j < len := by have := (List.getElem?_eq_some_iff.1 hj).1; rwa [hl2] at this
      rw [List.getElem?_map, List.getElem?_range hj'] at hj
      obtain rfl := Option.some.inj hj
      exact hN j hj')
    rwa [hl2] at this

/-- A tree. -/
theorem open_tree {r : Reach} {b0 : Nat} {v : Value} {d : DataW H} {p : List MemPlace} (hv : Value.okWide Tryz.prog W r b0 24 v) (h : DataW.Trod enc Tryz.prog W base sp held 24 v d p) :
    ∃ sv ns root, v = .agg #[sv, .int .i64 root] ∧ NodesV W sv ns := by
  obtain ⟨v0, v1, y0, y1, n, rfl, _, _, h0, h1⟩ := Joins.open_agg2 Tryz.underlying24 (by kernel_rfl) Tryz.cells24 hv h
  obtain ⟨ns, hns⟩ := open_nodes h0
  obtain ⟨z, hz, _⟩ := DataW.trod_int Tryz.underlying3 h1
  obtain rfl : v1 = .int .i64 z := by simpa using hz
  exact ⟨v0, ns, z, rfl, hns⟩

theorem Kp.same {w w' : World} (h : Kp w.heap.size w w') {p : MemPlace} (hp : p.block < w.heap.size) : w.sameAt w' p := by
  cases p with
  | cell b o => exact h.cell hp
  | map b => exact h.block b hp

theorem trodAll_stays {P : Program} (hl : laidOutB P = true) {W W' : World} (hk : Kp W.heap.size W W') :
    ∀ {ts : List TypeId} {vs : List Value} {ds : List (DataW H)} {ps : List MemPlace}, (∀ t ∈ ts, P.readableRec t = true ∧ t < P.types.size) → DataW.TrodAll enc P W 0 (fun _ => true) true ts vs ds ps → (∀ p ∈ ps, p.block < W.heap.size) →
      DataW.TrodAll enc P W' 0 (fun b => decide (b < W.heap.size)) true ts vs ds ps
  | [], vs, ds, ps, _, h, _ => by
    obtain ⟨rfl, rfl, rfl⟩ := trodAll_nil h
    exact trodAll_mk0
  | t :: ts, vs, ds, ps, ht, h, hp => by
    obtain ⟨v, vs', d, ds', p, q, rfl, rfl, rfl, h1, h2⟩ := trodAll_cons h
    obtain ⟨r1, r2⟩ := ht t (List.mem_cons_self ..)
    exact trodAll_cons_mk (WideElems.Trod_stays hl r1 r2 h1 (fun p hp' => hk.same (hp p (List.mem_append_left _ hp'))) (fun p hp' => by simpa using hp p (List.mem_append_left _ hp')))
      (trodAll_stays hl hk (fun t' ht' => ht t' (List.mem_cons_of_mem _ ht')) h2 (fun p hp' => hp p (List.mem_append_right _ hp')))

/-- What a law owes that returns true and leaves the memory alone. -/
theorem post_law {P : Program} (hl : laidOutB P = true) {f : Func} {s : ChangeSpec} {bt : TypeId} (hb : P.underlying bt = some .bool) (hres : f.resultTypes = #[bt]) (hvars : s.vars = [])
    (hts : ∀ t ∈ f.params.toList, P.readableRec t = true ∧ t < P.types.size) {W W' : World} {args : Array Value} {ds gs : List (DataW H)} {before : List MemPlace}
    (hW : DataW.Whole enc P f.params.toList s.vars false W args.toList ds gs before) (hfn : s.fn H ds = { results := [.lit (.bool true)], args := ds }) (hk : Kp W.heap.size W W') :
    s.post enc P f false true false false W args (.bool true) W' := by
  have hW' := hW
  have hlt := hW.lt
  obtain ⟨p, q, hA, hV, rfl, hfz, hnd⟩ := hW
  rw [hvars] at hV
  obtain ⟨rfl, rfl⟩ := trodVars_none hV
  rw [List.append_nil] at hW' hlt
  have hfn' : s.fn H (ds ++ []) = { results := [.lit (.bool true)], args := ds } := by rw [List.append_nil]; exact hfn
  refine ⟨ds, [], p, [], p, [], hW', ?_, ?_, ?_, ?_, fun h => by cases h⟩
  · rw [hfn', hres]
    exact trodAll_cons_mk (shut_bool hb _) trodAll_mk0
  · rw [hfn']
    exact trodAll_stays hl hk hts hA hlt
  · rw [hfn', hvars]
    rfl
  · exact World.keptBut_mono (fun x hx => ⟨hx, .inr (.inl hx)⟩) (hk.frame (· ∈ p))
end
end Go.Ev
