import Derived.Test.YtbjcopckkgdmgaaGreatDoorCs5
import Derived.Test.YtbjcopckkgdmgaaGreatDoorLgA
/- Nodes in memory of the call's own: a slice of nodes, each with arguments in a block of its own. -/
namespace Go.Ev
open Go.Proofs Go.RowKit Go.Lib

def nodeCells (x : Nd) (u : Value) : List Value := [.int .i64 x.kind, .int .i64 x.num, .string x.label, u]
def nodesCells : List Nd → List Value → List Value
  | x :: ns, u :: us => nodeCells x u ++ nodesCells ns us
  | _, _ => []
theorem nodesCells_at : ∀ {ns : List Nd} {us : List Value} {j i : Nat} {x : Nd} {u : Value}, ns[j]? = some x → us[j]? = some u → i < 4 → (nodesCells ns us)[j * 4 + i]? = (nodeCells x u)[i]?
  | [], _, j, _, _, _, h, _, _ => by simp at h
  | _ :: _, [], j, _, _, _, _, h, _ => by simp at h
  | y :: ns, v :: us, 0, i, x, u, h, h', hi => by
    simp only [List.getElem?_cons_zero, Option.some.injEq] at h h'
    subst h h'
    simp only [nodesCells, Nat.zero_mul, Nat.zero_add]
    rw [List.getElem?_append_left (by simpa [nodeCells] using hi)]
  | y :: ns, v :: us, j + 1, i, x, u, h, h', hi => by
    simp only [List.getElem?_cons_succ] at h h'
    simp only [nodesCells]
    rw [List.getElem?_append_right (by simp [nodeCells]; omega)]
    have e : (j + 1) * 4 + i - (nodeCells y v).length = j * 4 + i := by simp [nodeCells]; omega
    rw [e]
    exact nodesCells_at h h' hi
theorem nodesCells_snoc : ∀ {ns : List Nd} {us : List Value} {x : Nd} {u : Value}, us.length = ns.length → nodesCells (ns ++ [x]) (us ++ [u]) = nodesCells ns us ++ nodeCells x u
  | [], [], _, _, _ => by simp [nodesCells]
  | [], _ :: _, _, _, h => by simp at h
  | _ :: _, [], _, _, h => by simp at h
  | y :: ns, v :: us, x, u, h => by
    simp only [List.cons_append, nodesCells, List.append_assoc]
    rw [nodesCells_snoc (by simpa using h)]
/-- The arguments are no part of the cells. -/
theorem nodesCells_args {f : Nat → Nd → List Int} : ∀ {ns : List Nd} {us : List Value} {k : Nat}, nodesCells (ns.mapIdx fun i n => { n with args := f (i + k) n }) us = nodesCells ns us
  | [], _, _ => by simp [nodesCells]
  | _ :: _, [], _ => by simp [nodesCells]
  | y :: ns, v :: us, k => by
    rw [List.mapIdx_cons]
    simp only [nodesCells]
    have h := nodesCells_args (f := f) (ns := ns) (us := us) (k := k + 1)
    have e : (fun i (n : Nd) => ({ n with args := f (i + 1 + k) n } : Nd)) = fun i n => { n with args := f (i + (k + 1)) n } := by
      funext i n; rw [show i + 1 + k = i + (k + 1) by omega]
    rw [e, h]
    rfl

theorem own_args {B : Nat} {w : World} {u : Value} {xs : List Int} (h : Own B 1 w u xs.length (xs.map (Value.int .i64))) : ArgsV w u xs := by
  rcases h.2 with ⟨rfl, h0⟩ | ⟨b, off, cap, cs, t, rfl, hb, hh, hf, hm, hs, hx⟩
  · obtain rfl : xs = [] := List.length_eq_zero_iff.1 h0
    exact .empty _ _
  · refine .row b off cap xs hf (Nat.le_trans hf (Nat.le_trans hm (by unfold maxLen; omega))) fun j x hj => ?_
    rw [cell_of hh]
    exact hx j _ (by rw [List.getElem?_map, hj]; rfl)

/-- A slice of nodes of the call's own. -/
structure OwnN (B : Nat) (w : World) (v : Value) (ns : List Nd) (us : List Value) : Prop where
  own : Own B 4 w v ns.length (nodesCells ns us)
  len : us.length = ns.length
  args : ∀ (j : Nat) (x : Nd) (u : Value), ns[j]? = some x → us[j]? = some u → Own B 1 w u x.args.length (x.args.map (Value.int .i64))
  off : ∀ u ∈ us, ∀ g, u.ownBlock = some g → v.ownBlock ≠ some g
  apart : us.Pairwise fun u u' => ∀ g, u.ownBlock = some g → u'.ownBlock ≠ some g
  size : ∀ x ∈ ns, x.label.size ≤ 9223372036854775807

section
variable {B : Nat} {w w' : World} {v : Value} {ns : List Nd} {us : List Value}
theorem OwnN.nodes (h : OwnN B w v ns us) : NodesV w v ns := by
  rcases h.own.2 with ⟨rfl, h0⟩ | ⟨b, off, cap, cs, t, rfl, hb, hh, hf, hm, hs, hx⟩
  · obtain rfl : ns = [] := List.length_eq_zero_iff.1 h0
    exact .empty _ _
  · refine .row b off cap ns hf (Nat.le_trans hf (Nat.le_trans hm (by unfold maxLen; omega))) fun j x hj => ?_
    have hjl := (List.getElem?_eq_some_iff.1 hj).1
    obtain ⟨u, hu⟩ : ∃ u, us[j]? = some u := ⟨_, List.getElem?_eq_getElem (by rw [h.len]; exact hjl)⟩
    have hc : ∀ i, i < 4 → w.cell? ⟨b, off + j * 4 + i, none⟩ = (nodeCells x u)[i]? := fun i hi => by
      obtain ⟨z, hz⟩ : ∃ z, (nodeCells x u)[i]? = some z := ⟨_, List.getElem?_eq_getElem (by simpa [nodeCells] using hi)⟩
      rw [cell_of hh, hz, Nat.add_assoc]
      exact hx (j * 4 + i) _ ((nodesCells_at hj hu hi).trans hz)
    exact ⟨hc 0 (by omega), hc 1 (by omega), hc 2 (by omega), h.size x (List.mem_of_getElem? hj), u, hc 3 (by omega), own_args (h.args j x u hj hu)⟩
theorem OwnN.kp (h : OwnN B w v ns us) (hk : Kp w.heap.size w w') : OwnN B w' v ns us :=
  ⟨h.own.kp hk, h.len, fun j x u hj hu => (h.args j x u hj hu).kp hk, h.off, h.apart, h.size⟩
theorem OwnN.chg {c : Nat} (h : OwnN B w v ns us) (hk : Chg c w w') (hv : v.ownBlock ≠ some c) (hu : ∀ u ∈ us, u.ownBlock ≠ some c) : OwnN B w' v ns us :=
  ⟨h.own.chg hk hv, h.len, fun j x u hj hu' => (h.args j x u hj hu').chg hk (hu u (List.mem_of_getElem? hu')), h.off, h.apart, h.size⟩
theorem OwnN.nil : OwnN B w (.slice none 0 0) [] [] :=
  ⟨⟨rfl, .inl ⟨rfl, rfl⟩⟩, rfl, fun j x u hj => by simp at hj, fun u hu => (by cases hu), .nil, fun x hx => by cases hx⟩

/-- A node more: its arguments in a block that is none of the others. -/
theorem OwnN.snoc {wa w8 : World} {v' u : Value} {x : Nd} (h : OwnN B w v ns us) (hu : Own B 1 w u x.args.length (x.args.map (Value.int .i64))) (hsz : x.label.size ≤ 9223372036854775807)
    (huv : ∀ g, u.ownBlock = some g → v.ownBlock ≠ some g ∧ ∀ u' ∈ us, u'.ownBlock ≠ some g) (hal : Kp w.heap.size w wa)
    (hown : Own B 4 w8 v' (ns.length + 1) (nodesCells ns us ++ nodeCells x u)) (hgr : wa.grownBy w8 v.ownBlock) (hblk : v'.ownBlock = v.ownBlock ∨ ∃ g, v'.ownBlock = some g ∧ wa.heap.size ≤ g) : OwnN B w8 v' (ns ++ [x]) (us ++ [u]) := by
  have hs := hal.size
  have keep : ∀ (z : Value) (n : Nat) (xs : List Value), Own B 1 w z n xs → (∀ g, z.ownBlock = some g → v.ownBlock ≠ some g) → Own B 1 w8 z n xs := fun z n xs hz hzv =>
    (hz.kp hal).of_same fun g hg hl => grown_other hgr hl (hzv g hg)
  have hlt : ∀ z ∈ us ++ [u], ∀ g, z.ownBlock = some g → g < w.heap.size := by
    intro z hz g hg
    rcases List.mem_append.1 hz with hz | hz
    · obtain ⟨j, hj, rfl⟩ := List.getElem_of_mem hz
      have hjn : j < ns.length := by rw [← h.len]; exact hj
      exact ((h.args j _ _ (List.getElem?_eq_getElem hjn) (List.getElem?_eq_getElem hj)).lt hg).2
    · obtain rfl : z = u := by simpa using hz
      exact (hu.lt hg).2
  refine ⟨?_, by simp [h.len], fun j y z hj hz => ?_, fun z hz g hg => ?_, ?_, fun y hy => ?_⟩
  · rw [nodesCells_snoc h.len]; simpa using hown
  · rcases Nat.lt_or_ge j ns.length with hl | hl
    · rw [List.getElem?_append_left hl] at hj
      rw [List.getElem?_append_left (by rw [h.len]; exact hl)] at hz
      exact keep _ _ _ (h.args j y z hj hz) (h.off z (List.mem_of_getElem? hz))
    · rw [List.getElem?_append_right hl] at hj
      rw [List.getElem?_append_right (by rw [h.len]; exact hl)] at hz
      rw [h.len] at hz
      have e : j - ns.length = 0 := by
        have := (List.getElem?_eq_some_iff.1 hj).1
        simp at this
        omega
      rw [e] at hj hz
      simp only [List.getElem?_cons_zero, Option.some.injEq] at hj hz
      subst hj hz
      exact keep _ _ _ hu fun g hg => (huv g hg).1
  · have hgl := hlt z hz g hg
    rcases hblk with e | ⟨g', e, hg'⟩
    · rw [e]
      rcases List.mem_append.1 hz with hz | hz
      · exact h.off z hz g hg
      · obtain rfl : z = u := by simpa using hz
        exact (huv g hg).1
    · rw [e]
      intro e'
      have := Option.some.inj e'
      omega
  · rw [List.pairwise_append]
    refine ⟨h.apart, by simp, fun a ha b hb g hg => ?_⟩
    obtain rfl : b = u := by simpa using hb
    intro e
    exact (huv g e).2 a ha hg
  · rcases List.mem_append.1 hy with hy | hy
    · exact h.size y hy
    · obtain rfl : y = x := by simpa using hy
      exact hsz
end
end Go.Ev
