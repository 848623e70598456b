import Derived.Test.YtbjcopckkgdmgaaGreatDoorRb
import Derived.Deep.RegionHeld3
/- append to a slice of the call's own, within a region that draws its order. -/
namespace Go.Ev
open Go.Proofs Go.RowKit

/-- What follows, and nothing else but a panic. -/
def onlyK (K : Act → World → Prop) (Q : Exit → Act → World → Prop) : Exit → Act → World → Prop
  | .normal, a, w => K a w
  | .panic c, a, w => Q (.panic c) a w
  | _, _, _ => False

variable {P : Program}
theorem step_of_wpList {ops : Array Oper} {o : Oper} {a : Act} {w : World} {K : Act → World → Prop} {Q : Exit → Act → World → Prop} {E : Prop} (hgd : o.guard = none) (h : wpList P ops (onlyK K Q) [o] a w) :
    if Region.wanted o (yielded ops a.tmps) = true then Oper.wp P o a w K Q else E := by
  have hw : Region.wanted o (yielded ops a.tmps) = true := by simp [Region.wanted, hgd]
  rw [if_pos hw]
  unfold wpList at h
  rw [if_pos hw] at h
  rcases h with h | ⟨_, a', w', h⟩
  · unfold Oper.wp at *
    generalize (execOp a.eval o).run P w = r at *
    cases r with
    | ok n w' =>
      cases n <;> simp only [Oper.upon] at h ⊢ <;>
        first
          | exact h
          | exact Calls.mono h (fun e w'' he => by cases e <;> first | exact he | (obtain ⟨_, _, he⟩ := he; exact he.elim))
          | exact Rows.mono h (fun _ _ he => he)
    | halt x w' => cases x <;> simp only [Oper.upon] at h ⊢ <;> exact h
  · exact h.elim

theorem step_append_mine {w : World} {ops : Array Oper} {o : Oper} {a : Act} {K : Act → World → Prop} {Q : Exit → Act → World → Prop} {E : Prop} (hgd : o.guard = none) (s x : Operand) (t : TypeId)
    (ho : o.op = .call { callee := .builtin .append, args := #[s, x], argTypes := #[t, t] })
    (B : Nat) (e : TypeId) (i : TypeInfo) (z : Value) (size bytes : Nat) (ht : P.underlying t = some (.slice e)) (hi : P.info? e = some i) (hz : i.zero = some z)
    (hsize : i.size = size) (hby : i.bytes = bytes) (hzs : z.cells.size = size) (hsz : 0 < size)
    (v : Value) (n : Nat) (xs : List Value) (hs : a.eval s = v) (hown : Own B size w v n xs)
    (ad : Addr) (m c : Nat) (news : List Value) (hx : a.eval x = .slice (some ad) m c) (hl : news.length = m * size) (hnews : ∀ j u, news[j]? = some u → w.cell? (ad.add j) = some u) (h1 : ∀ u ∈ news, u.oneCell' = true)
    (h63 : n + m ≤ maxLen) (hbytes : (n + m) * bytes ≤ 140737488355328) (hB : B ≤ w.heap.size)
    (h : ∀ v' w', Own B size w' v' (n + m) (xs ++ news) → w.grownBy w' v.ownBlock → (v'.ownBlock = v.ownBlock ∨ ∃ g, v'.ownBlock = some g ∧ w.heap.size ≤ g) → K (a.put o.dst v') w') :
    if Region.wanted o (yielded ops a.tmps) = true then Oper.wp P o a w K Q else E :=
  step_of_wpList hgd (wpList_append_mine hgd s x t ho B e i z size bytes ht hi hz hsize hby hzs hsz v n xs hs hown ad m c news hx hl hnews h1 h63 hbytes hB fun v' w' r1 r2 r3 => by
    unfold wpList
    exact h v' w' r1 r2 r3)

/-- What a pair's comparison has in its memory. -/
structure PX (w5 : World) (bx : Nat) (x y : Int) (w : World) : Prop where
  kp : Kp w5.heap.size w5 w
  p0 : w.cell? ⟨bx, 0, none⟩ = some (.int .i64 x)
  p1 : w.cell? ⟨bx, 1, none⟩ = some (.int .i64 y)
theorem PX.alloc {w5 w : World} {bx : Nat} {x y : Int} (h : PX w5 bx x y w) (o : Obj) : PX w5 bx x y (w.alloc o) :=
  ⟨h.kp.alloc h.kp.size _, by rw [World.cell?_alloc_past _ _ _ (block_lt_of_cell h.p0)]; exact h.p0, by rw [World.cell?_alloc_past _ _ _ (block_lt_of_cell h.p1)]; exact h.p1⟩
theorem PX.drew {w5 w : World} {bx : Nat} {x y : Int} (h : PX w5 bx x y w) : PX w5 bx x y w.drew := ⟨h.kp.drew, h.p0, h.p1⟩
theorem PX.chg {w5 w w' : World} {bx b : Nat} {x y : Int} (h : PX w5 bx x y w) (hC : Chg b w w') (hb : w5.heap.size ≤ b) (hn : b ≠ bx) : PX w5 bx x y w' :=
  ⟨h.kp.chg hC h.kp.size hb, hC.cell (Ne.symm hn) h.p0, hC.cell (Ne.symm hn) h.p1⟩
end Go.Ev
