import Derived.Test.YtbjcopckkgdmgaaGreatDoorCs2
import Derived.Test.YtbjcopckkgdmgaaGreatDoorRe1
/- Classes: what the walk has in its memory. -/
namespace Go.Ev
open Go.Proofs Go.RowKit Go.Lib
set_option maxRecDepth 100000

def upd {α : Type} (f : Nat → α) (i : Nat) (v : α) : Nat → α := fun z => if z = i then v else f z

/-- A slice of the call's own that holds the values of a function. -/
def SegF (B : Nat) (w : World) (b o n cap : Nat) (f : Nat → Nat) : Prop := Seg B 1 w b o n cap ((List.range n).map fun i => Value.int .i64 (f i : Int))

section
variable {B b o n cap : Nat} {w w' : World} {f : Nat → Nat}
theorem SegF.cell (h : SegF B w b o n cap f) {i : Nat} (hi : i < n) : w.cell? ⟨b, o + i, none⟩ = some (.int .i64 (f i : Int)) := Seg.cell h (by simp [hi])
theorem SegF.ints (h : SegF B w b o n cap f) : IntsAt w b o n f := fun j hj => h.cell hj
theorem SegF.frozen (h : SegF B w b o n cap f) (i : Nat) : w.frozen? ⟨b, i, none⟩ = false := by
  obtain ⟨cs, t, h1, _⟩ := Seg.blk h
  simp [World.frozen?, h1]
theorem SegF.set (h : SegF B w b o n cap f) {i : Nat} (hi : i < n) (v : Nat) : SegF B (w.setCell ⟨b, o + i, none⟩ (.int .i64 (v : Int))) b o n cap (upd f i v) := by
  obtain ⟨cs, t, h1, h2, h3⟩ := Seg.blk h
  have hfit := Seg.fit h
  refine ⟨Seg.lo h, by simp, hfit, Seg.max h, cs.setIfInBounds (o + i) (.int .i64 (v : Int)), t, ?_, by simpa using h2, fun j u hj => ?_⟩
  · simp [World.setCell, Array.getElem?_modify, h1]
  · have hjn : j < n := by
      have := (List.getElem?_eq_some_iff.1 hj).1
      simpa using this
    simp only [List.getElem?_map, List.getElem?_range hjn, Option.map_some, Option.some.injEq] at hj
    subst hj
    unfold upd
    by_cases hji : j = i
    · subst hji
      rw [if_pos rfl]
      simp [Array.getElem?_setIfInBounds]
      omega
    · rw [if_neg hji, Array.getElem?_setIfInBounds, if_neg (by omega)]
      exact h3 j _ (by simp [hjn])
theorem SegF.of_heap (h : SegF B w b o n cap f) (e : w'.heap[b]? = w.heap[b]?) : SegF B w' b o n cap f := Seg.of_heap h e
theorem SegF.chg {c : Nat} (h : SegF B w b o n cap f) (hk : Chg c w w') (hb : b ≠ c) : SegF B w' b o n cap f := Seg.chg h hk hb
theorem SegF.kp (h : SegF B w b o n cap f) (hk : Kp w.heap.size w w') : SegF B w' b o n cap f := Seg.kp h hk
theorem SegF.lt (h : SegF B w b o n cap f) : b < w.heap.size := Seg.lt h
end

def boolsF (n : Nat) (dn : Nat → Bool) : List Bool := (List.range n).map dn
theorem boolsF_length (n : Nat) (dn : Nat → Bool) : (boolsF n dn).length = n := by simp [boolsF]
theorem boolsF_get {n i : Nat} (dn : Nat → Bool) (h : i < n) : (boolsF n dn).getD i false = dn i := by simp [boolsF, List.getD, h]
theorem boolsF_false (n : Nat) : boolsF n (fun _ => false) = List.replicate n false := by
  apply List.ext_getElem?
  intro j
  unfold boolsF
  by_cases hj : j < n
  · simp [hj]
  · simp [hj]
theorem boolsF_set {n i : Nat} (dn : Nat → Bool) (h : i < n) : (boolsF n dn).set i true = boolsF n (upd dn i true) := by
  apply List.ext_getElem?
  intro j
  rw [List.getElem?_set]
  unfold boolsF upd
  by_cases hj : j < n
  · simp only [List.getElem?_map, List.getElem?_range hj, List.length_map, List.length_range, Option.map_some]
    split
    · rename_i e; subst e; simp [h]
    · rename_i e; rw [if_neg (Ne.symm e)]
  · simp only [List.getElem?_map, List.getElem?_eq_none (show (List.range n).length ≤ j by simp; omega), List.length_map, List.length_range, Option.map_none]
    split
    · omega
    · rfl

theorem zeros_segF {B g n : Nat} {w : World} (h : RowI w g (List.replicate n 0)) (hB : B ≤ g) (hn : n ≤ maxLen) : SegF B w g 0 n n (fun _ => 0) := by
  obtain ⟨t, h⟩ := h
  refine ⟨hB, by simp, Nat.le_refl _, hn, _, t, h, by simp, fun j u hj => ?_⟩
  have hjn : j < n := by
    have := (List.getElem?_eq_some_iff.1 hj).1
    simpa using this
  simp only [List.getElem?_map, List.getElem?_range hjn, Option.map_some, Option.some.injEq] at hj
  subst hj
  simp [hjn]

theorem rest_less {n i : Nat} {dn : Nat → Bool} (hi : i < n) (hd : dn i = false) : (restOf n (upd dn i true)).length + 1 = (restOf n dn).length := by
  unfold restOf
  rw [← List.countP_eq_length_filter, ← List.countP_eq_length_filter]
  refine countP_one_less List.nodup_range (List.mem_range.2 hi) (by simp [hd]) (by simp [upd]) fun u hu => ?_
  simp [upd, hu]

set_option maxHeartbeats 2000000 in
theorem find_nil (gb go gl gc i cb co cl cc : Nat) (W : World) :
    Calls Tryz.prog 93 #[.slice (some ⟨gb, go, none⟩) gl gc, .slice none 0 0, .int .i64 i, .slice (some ⟨cb, co, none⟩) cl cc] W fun e w' => e = .returned (.int .i64 (i : Int)) ∧ Kp W.heap.size W w' := by
  go_enter Tryz.func93, Tryz.ntmps93
  go_wp2
  go_loop [9] (fun v => v = .int .i64 0) (fun _ => 0)
  case atStart => rfl
  case round =>
    subst hrel
    go_wp2
    go_ret
    exact ⟨rfl, Kp.refl _ _⟩

/-- What Classes has while finite nodes get their classes. -/
structure S1 (G : List Nd) (W : World) (cb db : Nat) (v5 : Value) (c : Nat → Nat) (dn : Nat → Bool) (fs : List Nat) (w : World) : Prop where
  p1 : P1 G c dn fs
  cls : SegF W.heap.size w cb 0 G.length G.length c
  don : RowB w db (boolsF G.length dn)
  fst : Own W.heap.size 1 w v5 fs.length (intsV fs)
  ne : cb ≠ db ∧ v5.ownBlock ≠ some cb ∧ v5.ownBlock ≠ some db
  dlo : W.heap.size ≤ db
  kp : Kp W.heap.size W w

theorem S1.grow {G : List Nd} {W : World} {cb db : Nat} {v5 : Value} {c : Nat → Nat} {dn : Nat → Bool} {fs : List Nat} {w w' : World} (h : S1 G W cb db v5 c dn fs w) (k : Kp w.heap.size w w') : S1 G W cb db v5 c dn fs w' :=
  ⟨h.p1, h.cls.kp k, h.don.kp k, h.fst.kp k, h.ne, h.dlo, h.kp.trans (k.mono h.kp.size)⟩
end Go.Ev
