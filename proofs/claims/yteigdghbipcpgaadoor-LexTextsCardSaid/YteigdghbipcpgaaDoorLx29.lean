/- How a token is written, as the document's own answers have it. -/
import Derived.Test.YteigdghbipcpgaaDoorLx28
namespace Go.Lx
open Go.Proofs Go.RowKit Go.Lib Go.Ev
set_option maxRecDepth 100000

theorem WordAns.cases {ok : Bool} {src : List UInt8} {e : Ending} (h : WordAns ok src e) : ∃ z : ByteArray, e = .returned (.tuple #[.string z, .bool ok]) ∧ (ok = true → z = ⟨src.toArray⟩) := h

set_option maxHeartbeats 1000000 in
theorem word_int (y : ByteArray) (hs : y.size ≤ 140737488355328) (p : Int) (w : World) :
    Calls Tryd.prog 31 #[.agg #[.int .i64 1, .string y, .int .i64 p]] w fun e w' => WordAns (isTok ⟨1, y.data.toList, p⟩) (srcL ⟨1, y.data.toList, p⟩) e ∧ Kp w.heap.size w w' := by
  have hi : isTok ⟨1, y.data.toList, p⟩ = numB y.data.toList := by rw [← intB_eq]; rfl
  have hsrc : srcL ⟨1, y.data.toList, p⟩ = srcN y.data.toList := rfl
  rw [hi, hsrc]
  by_cases h0 : 0 < y.size
  · have hh := head_cons h0
    by_cases hc : y[0] = 45
    · have e1 : numB y.data.toList = magB true (y.data.toList.drop 1) := by
        conv => lhs; rw [hh, hc]
        rw [numB_cons, if_pos rfl]
      have e2 : srcN y.data.toList = 126 :: y.data.toList.drop 1 := by
        conv => lhs; rw [hh, hc]
        rw [srcN_cons, if_pos rfl]
      have h := word_neg y hs h0 hc p w (numB y.data.toList) (by rw [ext_drop]; exact e1)
      rw [ext_drop] at h
      rw [e2]
      exact h
    · have e1 : numB y.data.toList = magB false y.data.toList := by
        conv => lhs; rw [hh]
        rw [numB_cons, if_neg hc, ← hh]
      have e2 : srcN y.data.toList = y.data.toList := by
        conv => lhs; rw [hh]
        rw [srcN_cons, if_neg hc, ← hh]
      have h := word_pos y hs h0 hc p w (numB y.data.toList) e1
      rw [e2]
      exact h
  · have hz : y.data.toList = [] := List.length_eq_zero_iff.1 (by rw [← Lib.size_eq y]; omega)
    have hn : numB y.data.toList = false := by rw [hz]; decide
    have HN := Lib.hid hn
    have x0 : y.size = 0 := by omega
    have x1 : decide (0 < (y.size : Int)) = false := by rw [x0]; rfl
    have x2 : decide ((y.size : Int) < 1) = true := by rw [x0]; rfl
    clear hi hsrc hn hz x0
    go_enter Tryd.func31, Tryd.ntmps31
    go_wp2_with fail
    go_ret2
    exact ⟨word_no _ HN.out, (Kp.refl _ _).alloc (Nat.le_refl _) _⟩

/-- A word that a call has answered for. -/
theorem ans_of {ok : Bool} {src : List UInt8} (y : ByteArray) (h : ok = true → src = y.data.toList) : WordAns ok src (.returned (.tuple #[.string y, .bool ok])) :=
  ⟨y, rfl, fun hk => by rw [h hk, Lib.mk_data]⟩

set_option maxHeartbeats 2000000 in
theorem rword_ok (k p : Int) (y : ByteArray) (hs : y.size ≤ 140737488355328) (w : World) :
    Calls Tryd.prog 31 #[.agg #[.int .i64 k, .string y, .int .i64 p]] w fun e w' => WordAns (isTok ⟨k, y.data.toList, p⟩) (srcL ⟨k, y.data.toList, p⟩) e ∧ Kp w.heap.size w w' := by
  by_cases h1 : k = 1
  · subst h1; exact word_int y hs p w
  have e1 : (k == 1) = false := by simpa using h1
  have hs' : y.size ≤ 9223372036854775807 := by omega
  have C21 := fun w => rkeyword_ok y w
  have C47 := fun w => ratom_ok y hs' w
  have C49 := fun w => rident_ok y hs' w
  have C50 := fun w => symbols_ok w
  have C32 := fun v w hv => in_ok v syms y w hv
  rw [show (syms.any fun x => y.data.toList == x) = symB y.data.toList from rfl] at C32
  by_cases h2 : k = 2
  · subst h2
    have hi : isTok ⟨2, y.data.toList, p⟩ = atB y.data.toList := rfl
    rw [hi]
    cases hq : quoB y.data.toList
    · have hsrc : srcL ⟨2, y.data.toList, p⟩ = y.data.toList := by
        unfold srcL
        simp only
        rw [if_neg (by decide), if_neg]
        rintro ⟨_, h⟩
        rw [← quoB_iff, hq] at h
        cases h
      rw [hsrc]
      have hq' := hq
      unfold quoB at hq'
      simp only [Bool.or_eq_false_iff] at hq'
      obtain ⟨⟨q1, q2⟩, q3⟩ := hq'
      rw [← toList_data] at q2 q3
      rw [q1] at C21
      have HY := Lib.hid (show Lib.hasPrefix [] [] = true from rfl)
      generalize hab : atB y.data.toList = ab at C47 ⊢
      clear hq hsrc q1 hi hab h1 e1 HY
      go_enter Tryd.func31, Tryd.ntmps31
      go_wp2_with (go_at_call 21; refine (C21 _).mono ?_; rintro e w3 ⟨rfl, hk3⟩; obtain ⟨d0, d1, d2, hf, hz3, hkp3⟩ := box3 hk3; have HK3 := Lib.hid hkp3; clear hk3 hkp3)
      go_region_held3 (fun w' => w'.cell? ⟨w.heap.size, 1, none⟩ = some (.string y) ∧ Kp w3.heap.size w3 w')
        (first
          | exact ⟨by go_simp, (Kp.refl _ _).drew⟩
          | assumption
          | (rename Kp _ _ _ => hk
             rename (_ ∧ Kp w3.heap.size w3 _) => hS
             exact ⟨hk.cells hS.1, hS.2.trans (hk.mono hS.2.size)⟩))
        (first
          | (go_at_call 47; refine (C47 _).mono ?_; rintro e w' ⟨rfl, rfl⟩))
      rename (_ ∧ Kp w3.heap.size w3 _) => hS
      have HS := Lib.hid hS.2
      clear hS
      go_wp2_with fail
      go_ret2
      exact ⟨ans_of y (fun _ => rfl), kp_then HK3.out HS.out⟩
    · have hsrc : srcL ⟨2, y.data.toList, p⟩ = 39 :: (y.data.toList ++ [39]) := by
        unfold srcL
        simp only
        rw [if_neg (by decide), if_pos ⟨by simp, (quoB_iff _).1 hq⟩]
      have hok : atB y.data.toList = true := by
        unfold atB
        rcases (quoB_iff _).1 hq with h | h | h
        · rw [kw_word h]; simp
        · rw [h]; decide
        · rw [h]; decide
      have HO := Lib.hid (word_yes (src := 39 :: (y.data.toList ++ [39])) (⟨#[39]⟩ ++ y ++ ⟨#[39]⟩) hok (by apply ByteArray.ext; simp))
      rw [hsrc]
      have hq' := hq
      unfold quoB at hq'
      have hi1 := hs
      cases hk1 : kwB y.data.toList
      · rw [hk1] at C21 hq'
        have HQ := Lib.hid hq'
        cases hk2 : (y.data.toList == [124])
        · rw [hk2] at hq'
          have q3 : (y.toList == [35]) = true := by rw [toList_data]; simpa using hq'
          rw [← toList_data] at hk2
          clear hq hq' hk1 hi h1 e1 hsrc hok
          go_enter Tryd.func31, Tryd.ntmps31
          go_wp2_with (go_at_call 21; refine (C21 _).mono ?_; rintro e w3 ⟨rfl, hk3⟩; obtain ⟨d0, d1, d2, hf, hz3, hkp3⟩ := box3 hk3; have HK3 := Lib.hid hkp3; clear hk3 hkp3)
          go_ret2
          exact ⟨HO.out, HK3.out⟩
        · rw [← toList_data] at hk2
          clear hq hq' hk1 hi h1 e1 hsrc hok
          go_enter Tryd.func31, Tryd.ntmps31
          go_wp2_with (go_at_call 21; refine (C21 _).mono ?_; rintro e w3 ⟨rfl, hk3⟩; obtain ⟨d0, d1, d2, hf, hz3, hkp3⟩ := box3 hk3; have HK3 := Lib.hid hkp3; clear hk3 hkp3)
          go_ret2
          exact ⟨HO.out, HK3.out⟩
      · rw [hk1] at C21
        clear hq hq' hk1 hi h1 e1 hsrc hok
        go_enter Tryd.func31, Tryd.ntmps31
        go_wp2_with (go_at_call 21; refine (C21 _).mono ?_; rintro e w3 ⟨rfl, hk3⟩; obtain ⟨d0, d1, d2, hf, hz3, hkp3⟩ := box3 hk3; have HK3 := Lib.hid hkp3; clear hk3 hkp3)
        go_ret2
        exact ⟨HO.out, HK3.out⟩
  have e2 : (k == 2) = false := by simpa using h2
  have hsrc : srcL ⟨k, y.data.toList, p⟩ = y.data.toList := by
    unfold srcL
    simp only
    rw [if_neg h1, if_neg (fun h => h2 h.1)]
  rw [hsrc]
  by_cases h3 : k = 3
  · subst h3
    have hi : isTok ⟨3, y.data.toList, p⟩ = wdB 4 y.data.toList := rfl
    rw [hi]
    generalize wdB 4 y.data.toList = ab at C49 ⊢
    by_cases hT : True
    · clear hsrc hi h1 e1 h2 e2 C32
      go_enter Tryd.func31, Tryd.ntmps31
      go_wp2_with fail
      obtain ⟨w3, hw3⟩ : ∃ w3, w3 = w.alloc (.cells #[.int .i64 3, .string y, .int .i64 p] 35) := ⟨_, rfl⟩
      have d1 : w3.cell? ⟨w.heap.size, 1, none⟩ = some (.string y) := by rw [hw3, World.cell?_alloc_new]; rfl
      have HK3 := Lib.hid (show Kp w.heap.size w w3 by rw [hw3]; exact (Kp.refl _ _).alloc (Nat.le_refl _) _)
      rw [← hw3]
      clear hw3
      go_region_held3 (fun w' => w'.cell? ⟨w.heap.size, 1, none⟩ = some (.string y) ∧ Kp w3.heap.size w3 w')
        (first
          | exact ⟨by go_simp, (Kp.refl _ _).drew⟩
          | assumption
          | (rename Kp _ _ _ => hk
             rename (_ ∧ Kp w3.heap.size w3 _) => hS
             exact ⟨hk.cells hS.1, hS.2.trans (hk.mono hS.2.size)⟩))
        (first
          | (go_at_call 49; refine (C49 _).mono ?_; rintro e w' ⟨rfl, rfl⟩))
      rename (_ ∧ Kp w3.heap.size w3 _) => hS
      have HS := Lib.hid hS.2
      clear hS
      go_wp2_with fail
      go_ret2
      exact ⟨ans_of y (fun _ => rfl), kp_then HK3.out HS.out⟩
    · exact absurd trivial hT
  have e3 : (k == 3) = false := by simpa using h3
  by_cases h4 : k = 4
  · subst h4
    have hi : isTok ⟨4, y.data.toList, p⟩ = kwB y.data.toList := rfl
    rw [hi]
    generalize kwB y.data.toList = ab at C21 ⊢
    by_cases hT : True
    · clear hsrc hi h1 e1 h2 e2 h3 e3 C32
      go_enter Tryd.func31, Tryd.ntmps31
      go_wp2_with fail
      obtain ⟨w3, hw3⟩ : ∃ w3, w3 = w.alloc (.cells #[.int .i64 4, .string y, .int .i64 p] 35) := ⟨_, rfl⟩
      have d1 : w3.cell? ⟨w.heap.size, 1, none⟩ = some (.string y) := by rw [hw3, World.cell?_alloc_new]; rfl
      have HK3 := Lib.hid (show Kp w.heap.size w w3 by rw [hw3]; exact (Kp.refl _ _).alloc (Nat.le_refl _) _)
      rw [← hw3]
      clear hw3
      go_region_held3 (fun w' => w'.cell? ⟨w.heap.size, 1, none⟩ = some (.string y) ∧ Kp w3.heap.size w3 w')
        (first
          | exact ⟨by go_simp, (Kp.refl _ _).drew⟩
          | assumption
          | (rename Kp _ _ _ => hk
             rename (_ ∧ Kp w3.heap.size w3 _) => hS
             exact ⟨hk.cells hS.1, hS.2.trans (hk.mono hS.2.size)⟩))
        (first
          | (go_at_call 21; refine (C21 _).mono ?_; rintro e w' ⟨rfl, hk⟩))
      rename (_ ∧ Kp w3.heap.size w3 _) => hS
      have HS := Lib.hid hS.2
      clear hS
      go_wp2_with fail
      go_ret2
      exact ⟨ans_of y (fun _ => rfl), kp_then HK3.out HS.out⟩
    · exact absurd trivial hT
  have e4 : (k == 4) = false := by simpa using h4
  by_cases h5 : k = 5
  · subst h5
    have hi : isTok ⟨5, y.data.toList, p⟩ = symB y.data.toList := rfl
    rw [hi]
    generalize symB y.data.toList = ab at C32 ⊢
    by_cases hT : True
    · clear hsrc hi h1 e1 h2 e2 h3 e3 h4 e4
      go_enter Tryd.func31, Tryd.ntmps31
      go_wp2_with fail
      obtain ⟨w3, hw3⟩ : ∃ w3, w3 = w.alloc (.cells #[.int .i64 5, .string y, .int .i64 p] 35) := ⟨_, rfl⟩
      have d1 : w3.cell? ⟨w.heap.size, 1, none⟩ = some (.string y) := by rw [hw3, World.cell?_alloc_new]; rfl
      have HK3 := Lib.hid (show Kp w.heap.size w w3 by rw [hw3]; exact (Kp.refl _ _).alloc (Nat.le_refl _) _)
      rw [← hw3]
      clear hw3
      go_region_held3 (fun w' => w'.cell? ⟨w.heap.size, 1, none⟩ = some (.string y) ∧ Kp w3.heap.size w3 w')
        (first
          | exact ⟨by go_simp, (Kp.refl _ _).drew⟩
          | assumption
          | (rename Kp _ _ _ => hk
             rename (_ ∧ Kp w3.heap.size w3 _) => hS
             exact ⟨hk.cells hS.1, hS.2.trans (hk.mono hS.2.size)⟩))
        (first
          | (go_at_call 50; refine (C50 _).mono ?_; rintro e w5 ⟨v, rfl, hv, hk⟩; have HV := Lib.hid hv)
          | (go_at_call 32; refine (C32 _ _ HV.out).mono ?_; rintro e w' ⟨rfl, rfl⟩))
      rename (_ ∧ Kp w3.heap.size w3 _) => hS
      have HS := Lib.hid hS.2
      clear hS
      go_wp2_with fail
      go_ret2
      exact ⟨ans_of y (fun _ => rfl), kp_then HK3.out HS.out⟩
    · exact absurd trivial hT
  have e5 : (k == 5) = false := by simpa using h5
  have hi : isTok ⟨k, y.data.toList, p⟩ = false := by unfold isTok; simp [h1, h2, h3, h4, h5]
  rw [hi]
  go_enter Tryd.func31, Tryd.ntmps31
  go_wp2_with fail
  go_ret2
  exact ⟨word_no _ rfl, (Kp.refl _ _).alloc (Nat.le_refl _) _⟩
end Go.Lx
