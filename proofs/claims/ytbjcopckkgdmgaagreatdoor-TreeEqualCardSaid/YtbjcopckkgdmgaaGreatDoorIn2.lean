import Derived.Test.YtbjcopckkgdmgaaGreatDoorEvC
import Derived.Test.YtbjcopckkgdmgaaGreatDoorIn1
/- The contract of slices.Insert at bytes. -/
namespace Go.Ev
open Go.Proofs Go.RowKit Go.Lib

/-- What slices.Insert does at bytes. -/
noncomputable def insSpec : Spec Prop := fun l K s => match l with
  | [.slice a off n _ sz _, .int .i64 (.ofNat i), .slice b off' m _ sz' _] => match Bool.and (Nat.beq sz 1) (Bool.and (Nat.beq sz' 1) (Bool.and (Nat.blt i n) (Bool.and (Nat.blt 0 m) (Bool.and (Nat.ble (n + m) 1048576) (Bool.not (Nat.beq a b)))))) with
    | true => match s.look a, rowOf s b with
      | some (.cells r), some q => match sub r off i, sub r (off + i) (n - i), sub q off' m with
        | some x, some y, some z => match Bool.and (flats x) (Bool.and (flats y) (flats z)) with
          | true => K (.slice s.nx 0 (n + m) (n + m) 1 false) ((s.kill a).add (.cells (x ++ (z ++ y))))
          | false => False
        | _, _, _ => False
      | _, _ => False
    | false => False
  | _ => False

theorem setCells_heap {b : Nat} {t : TypeId} {fr : Nat × Nat} : ∀ (vs : List Value) (o : Nat) (c : Array Value) (w : World), w.heap[b]? = some (.cells c t fr) →
    (w.setCells b o vs).heap[b]? = some (.cells (sets c o vs) t fr) ∧ (∀ k : Nat, k ≠ b → (w.setCells b o vs).heap[k]? = w.heap[k]?) ∧ (w.setCells b o vs).heap.size = w.heap.size ∧ Out w (w.setCells b o vs)
  | [], o, c, w, h => ⟨h, fun _ _ => rfl, rfl, Out.refl w⟩
  | v :: vs, o, c, w, h => by
    have hset : (w.setCell ⟨b, o, none⟩ v).heap[b]? = some (.cells (c.setIfInBounds o v) t fr) := by
      simp [World.setCell, Array.getElem?_modify, h]
    obtain ⟨h1, h2, h3, h4⟩ := setCells_heap vs (o + 1) _ _ hset
    refine ⟨h1, fun k hk => (h2 k hk).trans ?_, h3.trans ?_, Out.trans ⟨rfl, rfl⟩ h4⟩
    · simp [World.setCell, Array.getElem?_modify, Ne.symm hk]
    · simp [World.setCell]

section
variable {ρ : Pm} {s : St} {w : World}

theorem ins_room_ok {a b off off' n m i c c2 : Nat} {r q x y z : List AV} {p p2 : Pl} (hs : Sim ρ 0 s w.heap) (ha : s.look a = some (.cells r)) (hb : rowOf s b = some q) (hne : a ≠ b)
    (hp : ρ a = some p) (hp2 : ρ b = some p2) (hin : i < n) (hm : 0 < m) (hbig : n + m ≤ 1048576) (hroom : n + m ≤ c) (hpn : p.o + off + c ≤ p.n)
    (hx : sub r off i = some x) (hy : sub r (off + i) (n - i) = some y) (hz : sub q off' m = some z) (hfx : flats x = true) (hfy : flats y = true) (hfz : flats z = true) :
    Calls Tryz.prog 124 #[.slice (some ⟨p.b, p.o + off, none⟩) n c, .int .i64 i, .slice (some ⟨p2.b, p2.o + off', none⟩) m c2] w fun e w' => ∃ ρ' u, e = .returned u ∧ VR ρ' (.slice s.nx 0 (n + m) (n + m) 1 false) u ∧
      Sim ρ' 0 ((s.kill a).add (.cells (x ++ (z ++ y)))) w'.heap ∧ Ste ρ s w.heap ρ' ((s.kill a).add (.cells (x ++ (z ++ y)))) w'.heap ∧ Out w w' := by
  obtain ⟨p', ob, hp', hh, c0, t0, fr0, rfl, hsz, hfr, hc0⟩ := hs.obj _ _ ha
  obtain rfl := Option.some.inj (hp.symm.trans hp')
  obtain ⟨p2', c1, t1, fr1, hp2', hh2, hsz2, hc1⟩ := row_ok hs hb
  obtain rfl := Option.some.inj (hp2.symm.trans hp2')
  obtain ⟨ob2, hob2⟩ : ∃ ob2, s.look b = some ob2 := by
    unfold rowOf rowO at hb
    split at hb
    · rename_i h; exact ⟨_, h⟩
    · rename_i h; exact ⟨_, h⟩
    · rename_i h; exact ⟨_, h⟩
    · cases hb
  have hpne : p2.b ≠ p.b := fun e => hs.sep a b _ _ p p2 ha hob2 rfl hne hp hp2 e.symm
  obtain ⟨hbx, hvx⟩ := cells_sub hc0 hx
  obtain ⟨hby, hvy⟩ := cells_sub hc0 hy
  obtain ⟨hbz, hvz⟩ := cells_sub hc1 hz
  obtain ⟨D, hD⟩ : ∃ D, D = c0.toList.drop (p.o + off) := ⟨_, rfl⟩
  obtain ⟨cz, hcz⟩ : ∃ cz, cz = (c1.toList.drop (p2.o + off')).take m := ⟨_, rfl⟩
  have hDi : c0.toList.drop (p.o + (off + i)) = D.drop i := by rw [hD, List.drop_drop]; congr 1; omega
  rw [← hD] at hvx
  rw [hDi] at hvy
  rw [← hcz] at hvz
  have hDl : D.length = c0.size - (p.o + off) := by rw [hD]; simp
  have hcs : D.take n = D.take i ++ (D.drop i).take (n - i) := by
    have : n = i + (n - i) := by omega
    conv => lhs; rw [this]
    exact List.take_add
  have htk : (D.take n).take i = D.take i := by rw [List.take_take]; congr 1; omega
  have hdr : (D.take n).drop i = (D.drop i).take (n - i) := by rw [List.drop_take]
  have hlz : cz.length = m := by rw [hcz]; simp; omega
  have hcell : ∀ j, w.cell? ⟨p.b, p.o + off + j, none⟩ = D[j]? := fun j => by
    rw [cell_of hh, hD, List.getElem?_drop, Array.getElem?_toList]
  have hcell2 : ∀ j, w.cell? ⟨p2.b, p2.o + off' + j, none⟩ = c1[p2.o + off' + j]? := fun j => cell_of hh2
  have hone : ∀ v ∈ D.take n, v.oneCell' = true := fun v hv => by
    rw [hcs] at hv
    rcases List.mem_append.1 hv with hv | hv
    · exact flat_all hvx hfx v hv
    · exact flat_all hvy hfy v hv
  have hfroz : ∀ j, w.frozen? ⟨p.b, j, none⟩ = false := fun j => by
    simp only [World.frozen?, hh]
    cases hhh : (decide (fr0.1 ≤ j) && decide (j < fr0.2)) with
    | false => rfl
    | true => simp at hhh; exact absurd hhh (hfr j)
  have hwalk := ins_room p.b (p.o + off) n c i p2.b (p2.o + off') m c2 (D.take n) cz w hin hm hroom hbig hpne (by rw [List.length_take]; omega) hlz
    (fun j v hj => by
      rw [hcell]
      rw [List.getElem?_take] at hj
      split at hj
      · exact hj
      · cases hj)
    (fun j hj => by rw [hcell, List.getElem?_eq_getElem (by omega)]; rfl)
    (fun j _ => hfroz _)
    (fun j v hj => by
      rw [hcell2]
      rw [hcz, List.getElem?_take] at hj
      split at hj
      · rw [List.getElem?_drop, Array.getElem?_toList] at hj; exact hj
      · cases hj)
    hone (flat_all hvz hfz) t1 t0 c1.size c0.size (by simp [World.shape?, hh2]) (by simp [World.shape?, hh]) (by omega) (by omega) hfroz
  refine hwalk.mono fun e w' => ?_
  rintro ⟨rfl, rfl⟩
  have hh' : w.drew.heap[p.b]? = some (.cells c0 t0 fr0) := hh
  obtain ⟨g1, g2, g3, g4⟩ := setCells_heap ((D.take n).drop i) (p.o + off + (i + m)) c0 w.drew hh'
  obtain ⟨k1, k2, k3, k4⟩ := setCells_heap cz (p.o + off + i) _ _ g1
  have hly : ((D.take n).drop i).length = n - i := by rw [List.length_drop, List.length_take]; omega
  have hb1 : p.o + off + (i + m) + ((D.take n).drop i).length ≤ c0.size := by rw [hly]; omega
  have hs1 := sets_get ((D.take n).drop i) c0 (p.o + off + (i + m)) hb1
  have hb2 : p.o + off + i + cz.length ≤ (sets c0 (p.o + off + (i + m)) ((D.take n).drop i)).size := by rw [sets_size, hlz]; omega
  have hs2 := sets_get cz (sets c0 (p.o + off + (i + m)) ((D.take n).drop i)) (p.o + off + i) hb2
  have hle : ρ.le (ρ.upd s.nx ⟨p.b, p.o + off, p.n⟩) := Pm.le_upd (hs.fresh _ (Nat.le_refl _))
  have hlx : (D.take i).length = i := by rw [List.length_take]; omega
  have hob : ObjR (ρ.upd s.nx ⟨p.b, p.o + off, p.n⟩) ⟨p.b, p.o + off, p.n⟩ (.cells (x ++ (z ++ y))) (.cells (sets (sets c0 (p.o + off + (i + m)) ((D.take n).drop i)) (p.o + off + i) cz) t0 fr0) := by
    refine ⟨_, t0, fr0, rfl, by rw [sets_size, sets_size]; exact hsz, hfr, ?_⟩
    refine CellsR.of_VRs (us := D.take i ++ (cz ++ (D.take n).drop i)) ((VRs.append hvx (VRs.append hvz (by rw [hdr]; exact hvy))).mono hle) (fun j hj => ?_)
    have hj : j < n + m := by simp only [List.length_append, hlx, hlz, hly] at hj; omega
    show (sets (sets c0 (p.o + off + (i + m)) ((D.take n).drop i)) (p.o + off + i) cz)[p.o + off + j]? = _
    rw [hs2, hs1]
    by_cases h1 : j < i
    · rw [if_neg (by omega), if_neg (by omega), List.getElem?_append_left (by omega), List.getElem?_take_of_lt h1, hD, List.getElem?_drop, Array.getElem?_toList]
    · by_cases h2 : j < i + m
      · rw [if_pos (by omega), List.getElem?_append_right (by omega), List.getElem?_append_left (by omega), hlx]
        congr 1; omega
      · rw [if_neg (by omega), if_pos (by omega), List.getElem?_append_right (by omega), List.getElem?_append_right (by omega), hlx, hlz]
        congr 1; omega
  obtain ⟨q1, q2⟩ := sim_move (h' := ((w.drew.setCells p.b (p.o + off + (i + m)) ((D.take n).drop i)).setCells p.b (p.o + off + i) cz).heap) hs ha rfl hp (q := ⟨p.b, p.o + off, p.n⟩) rfl (k3.trans g3) k1 hob (fun k hk => (k2 k hk).trans (g2 k hk))
  refine ⟨_, _, rfl, ⟨_, _, c, Pm.upd_same _ _ _, rfl, Nat.le_refl _, hroom, (fun e => by cases e), fun _ => ⟨rfl, ?_⟩⟩, q1, q2, Out.trans (Out.trans ⟨rfl, rfl⟩ g4) k4⟩
  show p.o + off + 0 + c * 1 ≤ p.n
  omega

theorem ins_grow_ok {a b off off' n m i c c2 : Nat} {r q x y z : List AV} {p p2 : Pl} (hs : Sim ρ 0 s w.heap) (ha : s.look a = some (.cells r)) (hb : rowOf s b = some q)
    (hp : ρ a = some p) (hp2 : ρ b = some p2) (hin : i < n) (hm : 0 < m) (hbig : n + m ≤ 1048576) (hnc : n ≤ c) (hroom : c < n + m) (hpn : p.o + off + c ≤ p.n)
    (hx : sub r off i = some x) (hy : sub r (off + i) (n - i) = some y) (hz : sub q off' m = some z) (hfx : flats x = true) (hfy : flats y = true) (hfz : flats z = true) :
    Calls Tryz.prog 124 #[.slice (some ⟨p.b, p.o + off, none⟩) n c, .int .i64 i, .slice (some ⟨p2.b, p2.o + off', none⟩) m c2] w fun e w' => ∃ ρ' u, e = .returned u ∧ VR ρ' (.slice s.nx 0 (n + m) (n + m) 1 false) u ∧
      Sim ρ' 0 ((s.kill a).add (.cells (x ++ (z ++ y)))) w'.heap ∧ Ste ρ s w.heap ρ' ((s.kill a).add (.cells (x ++ (z ++ y)))) w'.heap ∧ Out w w' := by
  obtain ⟨p', ob, hp', hh, c0, t0, fr0, rfl, hsz, hfr, hc0⟩ := hs.obj _ _ ha
  obtain rfl := Option.some.inj (hp.symm.trans hp')
  obtain ⟨p2', c1, t1, fr1, hp2', hh2, hsz2, hc1⟩ := row_ok hs hb
  obtain rfl := Option.some.inj (hp2.symm.trans hp2')
  obtain ⟨hbx, hvx⟩ := cells_sub hc0 hx
  obtain ⟨hby, hvy⟩ := cells_sub hc0 hy
  obtain ⟨hbz, hvz⟩ := cells_sub hc1 hz
  obtain ⟨D, hD⟩ : ∃ D, D = c0.toList.drop (p.o + off) := ⟨_, rfl⟩
  obtain ⟨cz, hcz⟩ : ∃ cz, cz = (c1.toList.drop (p2.o + off')).take m := ⟨_, rfl⟩
  have hDi : c0.toList.drop (p.o + (off + i)) = D.drop i := by rw [hD, List.drop_drop]; congr 1; omega
  rw [← hD] at hvx
  rw [hDi] at hvy
  rw [← hcz] at hvz
  have hDl : D.length = c0.size - (p.o + off) := by rw [hD]; simp
  have hcs : D.take n = D.take i ++ (D.drop i).take (n - i) := by
    have : n = i + (n - i) := by omega
    conv => lhs; rw [this]
    exact List.take_add
  have htk : (D.take n).take i = D.take i := by rw [List.take_take]; congr 1; omega
  have hdr : (D.take n).drop i = (D.drop i).take (n - i) := by rw [List.drop_take]
  have hlz : cz.length = m := by rw [hcz]; simp; omega
  have hcell : ∀ j, w.cell? ⟨p.b, p.o + off + j, none⟩ = D[j]? := fun j => by
    rw [cell_of hh, hD, List.getElem?_drop, Array.getElem?_toList]
  have hcell2 : ∀ j, w.cell? ⟨p2.b, p2.o + off' + j, none⟩ = c1[p2.o + off' + j]? := fun j => cell_of hh2
  have hone : ∀ v ∈ D.take n, v.oneCell' = true := fun v hv => by
    rw [hcs] at hv
    rcases List.mem_append.1 hv with hv | hv
    · exact flat_all hvx hfx v hv
    · exact flat_all hvy hfy v hv
  have hwalk := ins_grow p.b (p.o + off) n c i p2.b (p2.o + off') m c2 (D.take n) cz w hin hm hnc hroom hbig (by rw [List.length_take]; omega) hlz
    (fun j v hj => by
      rw [hcell]
      rw [List.getElem?_take] at hj
      split at hj
      · exact hj
      · cases hj)
    (fun j v hj => by
      rw [hcell2]
      rw [hcz, List.getElem?_take] at hj
      split at hj
      · rw [List.getElem?_drop, Array.getElem?_toList] at hj; exact hj
      · cases hj)
    hone (flat_all hvz hfz)
  have hG := grownCap_ge w (n + m) c 5
  generalize grownCap w (n + m) c 5 = G at hwalk hG
  obtain ⟨ROW, hROW⟩ : ∃ ROW : Array Value, ROW = ((D.take n).take i).toArray ++ Builtin.zeroCells (Value.int .u8 0).cells (n + m - i) ++ Builtin.zeroCells (Value.int .u8 0).cells (G - (n + m)) := ⟨_, rfl⟩
  rw [← hROW] at hwalk
  have hlx : (D.take i).length = i := by rw [List.length_take]; omega
  have hRs : ROW.size = G := by
    rw [hROW, htk]
    simp [Builtin.zeroCells, Value.cells]
    omega
  have hRx : ∀ j, j < i → ROW[j]? = (D.take i)[j]? := fun j hj => by
    have h1 : j < (D.take i).toArray.size := by simpa [hlx] using hj
    rw [hROW, htk, Array.getElem?_append_left (by simp; omega), Array.getElem?_append_left h1]
    simp
  refine hwalk.mono fun e w' => ?_
  rintro ⟨rfl, rfl⟩
  obtain ⟨W1, hW1⟩ : ∃ W1, W1 = (w.alloc (.cells ROW 5)).drew := ⟨_, rfl⟩
  have hWh : W1.heap = w.heap.push (.cells ROW 5) := by rw [hW1]; rfl
  have hW1h : W1.heap[w.heap.size]? = some (.cells ROW 5) := by rw [hWh]; simp
  rw [← hW1]
  obtain ⟨g1, g2, g3, g4⟩ := setCells_heap cz i ROW W1 hW1h
  obtain ⟨k1, k2, k3, k4⟩ := setCells_heap ((D.take n).drop i) (i + m) (sets ROW i cz) (W1.setCells w.heap.size i cz).drew g1
  have hly : ((D.take n).drop i).length = n - i := by rw [List.length_drop, List.length_take]; omega
  have hb1 : i + cz.length ≤ ROW.size := by rw [hlz, hRs]; omega
  have hs1 := sets_get cz ROW i hb1
  have hb2 : i + m + ((D.take n).drop i).length ≤ (sets ROW i cz).size := by rw [sets_size, hly, hRs]; omega
  have hs2 := sets_get ((D.take n).drop i) (sets ROW i cz) (i + m) hb2
  have hsk := sim_kill (l := a) hs
  have hle : ρ.le (ρ.upd s.nx ⟨w.heap.size, 0, G⟩) := Pm.le_upd (hs.fresh _ (Nat.le_refl _))
  have hob : ObjR (ρ.upd (s.kill a).nx ⟨w.heap.size, 0, G⟩) ⟨w.heap.size, 0, G⟩ (.cells (x ++ (z ++ y))) (.cells (sets (sets ROW i cz) (i + m) ((D.take n).drop i)) 5) := by
    refine ⟨_, 5, (0, 0), rfl, by rw [sets_size, sets_size]; exact hRs, fun j => by simp, ?_⟩
    refine CellsR.of_VRs (us := D.take i ++ (cz ++ (D.take n).drop i)) ((VRs.append hvx (VRs.append hvz (by rw [hdr]; exact hvy))).mono hle) (fun j hj => ?_)
    have hj : j < n + m := by simp only [List.length_append, hlx, hlz, hly] at hj; omega
    show (sets (sets ROW i cz) (i + m) ((D.take n).drop i))[0 + j]? = _
    rw [Nat.zero_add, hs2, hs1]
    by_cases h1 : j < i
    · rw [if_neg (by omega), if_neg (by omega), List.getElem?_append_left (by omega), hRx j h1]
    · by_cases h2 : j < i + m
      · rw [if_neg (by omega), if_pos (by omega), List.getElem?_append_right (by omega), List.getElem?_append_left (by omega), hlx]
      · rw [if_pos (by omega), List.getElem?_append_right (by omega), List.getElem?_append_right (by omega), hlx, hlz]
        congr 1; omega
  have hheap : ((W1.setCells w.heap.size i cz).drew.setCells w.heap.size (i + m) ((D.take n).drop i)).heap = w.heap.push (.cells (sets (sets ROW i cz) (i + m) ((D.take n).drop i)) 5) := by
    refine Array.ext_getElem? fun k => ?_
    by_cases hk : k = w.heap.size
    · subst hk
      rw [k1]; simp
    · rw [k2 k hk]
      show (W1.setCells w.heap.size i cz).heap[k]? = _
      rw [g2 k hk, hWh, Array.getElem?_push, Array.getElem?_push, if_neg hk, if_neg hk]
  obtain ⟨q1, q2⟩ := sim_add hsk hob
  refine ⟨_, _, rfl, ⟨_, _, G, Pm.upd_same _ _ _, rfl, Nat.le_refl _, hG, (fun e => by cases e), fun _ => ⟨rfl, ?_⟩⟩, by rw [hheap]; exact q1, by rw [hheap]; exact ste_kill.trans q2, ?_⟩
  · show 0 + 0 + G * 1 ≤ G
    omega
  · exact Out.trans (b := W1) (by rw [hW1]; exact ⟨rfl, rfl⟩) (Out.trans g4 (Out.trans ⟨rfl, rfl⟩ k4))

/-- THE CONTRACT. -/
theorem ins_ok : CallOk Tryz.prog 0 (fun i l K s => i = 124 ∧ insSpec l K s) := by
  rintro _ l K s w ρ us R ⟨rfl, h⟩ hs hl hR
  unfold insSpec at h
  split at h
  · rename_i a off n cap sz ex i b off' m cap' sz' ex'
    split at h
    · rename_i hc
      simp only [Bool.and_eq_true, Bool.not_eq_true'] at hc
      obtain ⟨h1, h2, h3, h4, h5, h6⟩ := hc
      obtain rfl := Nat.eq_of_beq_eq_true h1
      obtain rfl := Nat.eq_of_beq_eq_true h2
      have hin : i < n := by simpa [Nat.blt_eq] using h3
      have hm : 0 < m := by simpa [Nat.blt_eq] using h4
      have hbig : n + m ≤ 1048576 := Nat.le_of_ble_eq_true h5
      have hne : a ≠ b := fun e => by subst e; simp at h6
      split at h
      · rename_i r q ha hb
        split at h
        · rename_i x y z hx hy hz
          split at h
          · rename_i hf
            simp only [Bool.and_eq_true] at hf
            obtain ⟨v0, us, rfl, h0, v1, us, rfl, e1, v2, us, rfl, e2, rfl⟩ := hl
            obtain ⟨p, A, c, hp, rfl, hnc, hcc, hex, hpos⟩ := h0
            obtain ⟨p2, A2, c2, hp2, rfl, hnc2, hcc2, hex2, hpos2⟩ := e2
            obtain rfl : v1 = .int .i64 (.ofNat i) := e1
            obtain ⟨rfl, hpn⟩ := hpos (by omega)
            obtain ⟨rfl, hpn2⟩ := hpos2 (by omega)
            refine ⟨⟨_, Tryz.func124, rfl⟩, ?_⟩
            have fin : ∀ e w', (∃ ρ' u, e = Ending.returned u ∧ VR ρ' (.slice s.nx 0 (n + m) (n + m) 1 false) u ∧ Sim ρ' 0 ((s.kill a).add (.cells (x ++ (z ++ y)))) w'.heap ∧ Ste ρ s w.heap ρ' ((s.kill a).add (.cells (x ++ (z ++ y)))) w'.heap ∧ Out w w') → R e w' := by
              rintro e w' ⟨ρ', u, rfl, g1, g2, g3, g4⟩
              exact hR _ _ _ _ _ h g1 g2 g3 g4
            rcases Nat.lt_or_ge c (n + m) with hlt | hge
            · exact (ins_grow_ok hs ha hb hp hp2 hin hm hbig (by omega) hlt (by omega) hx hy hz hf.1 hf.2.1 hf.2.2).mono fin
            · exact (ins_room_ok hs ha hb hne hp hp2 hin hm hbig hge (by omega) hx hy hz hf.1 hf.2.1 hf.2.2).mono fin
          · exact h.elim
        · exact h.elim
      · exact h.elim
    · exact h.elim
  · exact h.elim
end
end Go.Ev
