import Derived.Test.YtbjcopckkgdmgaaGreatDoorKp
import Derived.Test.YtbjcopckkgdmgaaGreatDoorEvC
import Derived.ArgAppend
import Derived.Laws.AppendOwn
/- Slices of the call's own, appended to. -/
namespace Go.Ev
open Go.RowKit

/-- A slice of the call's own, in a block from B on: n elements of some cells each. -/
def Own (B size : Nat) (w : World) (v : Value) (n : Nat) (xs : List Value) : Prop :=
  xs.length = n * size ∧ ((v = .slice none 0 0 ∧ n = 0) ∨ ∃ b off cap cs t, v = .slice (some ⟨b, off, none⟩) n cap ∧ B ≤ b ∧ w.heap[b]? = some (.cells cs t (0, 0)) ∧ n ≤ cap ∧ cap ≤ maxLen ∧ off + cap * size ≤ cs.size ∧ ∀ j u, xs[j]? = some u → cs[off + j]? = some u)

theorem setCells_heap' {b : Nat} {t : TypeId} {fr : Nat × Nat} : ∀ (vs : List Value) (o : Nat) (c : Array Value) (w : World), w.heap[b]? = some (.cells c t fr) →
    (w.setCells b o vs).heap[b]? = some (.cells (sets c o vs) t fr) ∧ (∀ k : Nat, k ≠ b → (w.setCells b o vs).heap[k]? = w.heap[k]?) ∧ (w.setCells b o vs).heap.size = w.heap.size ∧ (w.setCells b o vs).os = w.os ∧ (w.setCells b o vs).tape = w.tape ∧ (w.setCells b o vs).output = w.output
  | [], o, c, w, h => ⟨h, fun _ _ => rfl, rfl, rfl, rfl, rfl⟩
  | v :: vs, o, c, w, h => by
    have hset : (w.setCell ⟨b, o, none⟩ v).heap[b]? = some (.cells (c.setIfInBounds o v) t fr) := by
      simp [World.setCell, Array.getElem?_modify, h]
    obtain ⟨h1, h2, h3, h4⟩ := setCells_heap' vs (o + 1) _ _ hset
    refine ⟨h1, fun k hk => (h2 k hk).trans ?_, h3.trans ?_, h4⟩
    · simp [World.setCell, Array.getElem?_modify, Ne.symm hk]
    · simp [World.setCell]

variable {P : Program}

theorem Own.of_row {B size e : Nat} {w : World} {v : Value} {n : Nat} {xs : List Value} (h : w.ownsRow B e size v n xs) : Own B size w v n xs := by
  obtain ⟨h1, h2⟩ := h
  refine ⟨h1, ?_⟩
  rcases h2 with h2 | ⟨g, cap, cur, rfl, hg, hh, hn, hm, hs, hx⟩
  · exact .inl h2
  · refine .inr ⟨g, 0, cap, cur, e, rfl, hg, hh, hn, hm, by omega, fun j u hj => ?_⟩
    rw [← hx, List.getElem?_take] at hj
    split at hj
    · rw [Nat.zero_add]; simpa using hj
    · cases hj

/-- append, at a slice of the call's own. -/
theorem wpList_append_mine {w : World} {ops : Array Oper} {rest : List Oper} {o : Oper} {a : Act} {Q : Exit → Act → World → Prop} (hgd : o.guard = none) (s x : Operand) (t : TypeId)
    (ho : o.op = .call { callee := .builtin .append, args := #[s, x], argTypes := #[t, t] })
    (B : Nat) (e : TypeId) (i : TypeInfo) (z : Value) (size bytes : Nat) (ht : P.underlying t = some (.slice e)) (hi : P.info? e = some i) (hz : i.zero = some z)
    (hsize : i.size = size) (hby : i.bytes = bytes) (hzs : z.cells.size = size) (hsz : 0 < size)
    (v : Value) (n : Nat) (xs : List Value) (hs : a.eval s = v) (hown : Own B size w v n xs)
    (ad : Addr) (m c : Nat) (news : List Value) (hx : a.eval x = .slice (some ad) m c) (hl : news.length = m * size) (hnews : ∀ j u, news[j]? = some u → w.cell? (ad.add j) = some u) (h1 : ∀ u ∈ news, u.oneCell' = true)
    (h63 : n + m ≤ maxLen) (hbytes : (n + m) * bytes ≤ 140737488355328) (hB : B ≤ w.heap.size)
    (h : ∀ v' w', Own B size w' v' (n + m) (xs ++ news) → w.grownBy w' v.ownBlock → (v'.ownBlock = v.ownBlock ∨ ∃ g, v'.ownBlock = some g ∧ w.heap.size ≤ g) → wpList P ops Q rest (a.put o.dst v') w') : wpList P ops Q (o :: rest) a w := by
  obtain ⟨hlen, hcase⟩ := hown
  rcases hcase with ⟨rfl, rfl⟩ | ⟨b, off, cap, cs, ty, rfl, hb, hh, hn, hm, hfit, hcell⟩
  · refine wpList_append_own w hgd s x t ho w.heap.size e i z size bytes ht hi hz hsize hby hzs hsz _ 0 xs hs ⟨hlen, .inl ⟨rfl, rfl⟩⟩ ad m c news hx hl hnews h1 h63 hbytes (Nat.le_refl _) fun v' w' r1 r2 r3 => ?_
    have hown' := Own.of_row r1
    refine h v' w' ⟨hown'.1, ?_⟩ r2 ?_
    · rcases hown'.2 with h2 | ⟨g, off, cap, cur, ty, rfl, hg, r⟩
      · exact .inl h2
      · exact .inr ⟨g, off, cap, cur, ty, rfl, by omega, r⟩
    · rcases r1.2 with ⟨rfl, _⟩ | ⟨g, cap, cur, rfl, hg, _⟩
      · exact .inl rfl
      · exact .inr ⟨g, rfl, hg⟩
  · refine wpList_append_arg w hgd s x t ho e i z size bytes ht hi hz hsize hby hzs hsz b off n cap xs hs hlen (fun j u hj => by rw [cell_of hh]; exact hcell j u hj) ad m c news hx hl hnews h1 ?_ h63 hbytes ?_ ?_
    · intro hr j hj
      have hle : n * size + m * size ≤ cap * size := by rw [← Nat.add_mul]; exact Nat.mul_le_mul_right _ hr
      refine ⟨?_, ?_⟩
      · rw [cell_of hh, Array.getElem?_eq_getElem (by omega)]; rfl
      · simp only [World.frozen?, hh]; simp
    · intro hr
      obtain ⟨k1, k2, k3, k4, k5, k6⟩ := setCells_heap' news (off + n * size) cs w hh
      have hle : n * size + m * size ≤ cap * size := by rw [← Nat.add_mul]; exact Nat.mul_le_mul_right _ hr
      refine h _ _ ⟨by rw [List.length_append, hlen, hl, Nat.add_mul], .inr ⟨b, off, cap, _, ty, rfl, hb, k1, hr, hm, by rw [sets_size]; exact hfit, fun j u hj => ?_⟩⟩ ⟨k4, k5, k6, Nat.le_of_eq k3.symm, fun k _ hk => k2 k (fun e => hk (by rw [e]; rfl))⟩ (.inl rfl)
      rw [sets_get _ _ _ (by omega)]
      by_cases hj2 : j < xs.length
      · rw [if_neg (by omega)]
        rw [List.getElem?_append_left hj2] at hj
        exact hcell j u hj
      · rw [List.getElem?_append_right (by omega)] at hj
        have := (List.getElem?_eq_some_iff.1 hj).1
        rw [if_pos (by omega), show off + j - (off + n * size) = j - xs.length by omega]
        exact hj
    · intro hr v' w' r1 r2
      have hown' := Own.of_row r1
      refine h v' w' ⟨hown'.1, ?_⟩ ⟨r2.os, r2.tape, r2.output, r2.size, fun k hk _ => r2.block k hk (by simp)⟩ ?_
      · rcases hown'.2 with h2 | ⟨g, off, cap, cur, ty, rfl, hg, r⟩
        · exact .inl h2
        · exact .inr ⟨g, off, cap, cur, ty, rfl, by omega, r⟩
      · rcases r1.2 with ⟨_, h0⟩ | ⟨g, cap, cur, rfl, hg, _⟩
        · omega
        · exact .inr ⟨g, rfl, hg⟩
end Go.Ev
