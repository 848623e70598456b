import Derived.Test.YtbjcopckkgdmgaaGreatDoorLgA
/- Every node of a renumbered graph is reached from the first. -/
namespace Go.Ev

theorem renum_node {G : List Nd} {r : Nat} {l : List Nat} (h : Reach G r l) : ∀ t x, nodeAt G r t = some x → x ∈ l ∧ nodeAt (renum G l) 0 t = some (l.idxOf x) := by
  intro t
  induction t using Nat.strongRecOn with
  | _ t ih =>
    intro x hx
    by_cases h0 : t = 0
    · subst h0
      rw [nodeAt_zero] at hx ⊢
      obtain rfl := Option.some.inj hx
      obtain ⟨m, hm⟩ := h.first
      exact ⟨by rw [hm]; simp, by rw [hm]; simp⟩
    · obtain ⟨u, i, hi, rfl⟩ : ∃ u i, i < 8 ∧ t = 8 * u + i + 1 := ⟨(t - 1) / 8, (t - 1) % 8, by omega, by omega⟩
      rw [nodeAt_child _ _ _ _ hi] at hx ⊢
      cases hn : nodeAt G r u with
      | none => rw [hn] at hx; cases hx
      | some y =>
        rw [hn] at hx
        obtain ⟨y1, y2⟩ := ih u (by omega) y hn
        rw [y2]
        have hx' : (argsAt G y)[i]? = some x := by rw [← child_args]; exact hx
        refine ⟨h.closed y y1 x (List.mem_of_getElem? hx'), ?_⟩
        show child (renum G l) (l.idxOf y) i = some (l.idxOf x)
        rw [child_args, renum_args (idxOf_get y1), List.getElem?_map, hx']
        rfl
theorem renum_paths {G : List Nd} {r : Nat} {l : List Nat} (h : Reach G r l) : ∀ x, x < (renum G l).length → ∃ t, nodeAt (renum G l) 0 t = some x := by
  intro x hx
  rw [renum_length] at hx
  obtain ⟨t, ht⟩ := h.path l[x] (List.getElem_mem hx)
  refine ⟨t, ?_⟩
  rw [(renum_node h t _ ht).2, h.nodup.idxOf_getElem x hx]
end Go.Ev
