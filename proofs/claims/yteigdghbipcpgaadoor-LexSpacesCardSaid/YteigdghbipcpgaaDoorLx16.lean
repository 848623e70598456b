/- The document's own answers: integers. -/
import Derived.Test.YteigdghbipcpgaaDoorLx15
namespace Go.Lx
open Go.Proofs Go.RowKit Go.Lib Go.Ev
set_option maxRecDepth 100000

/-- What the document's own token function hands back. -/
def TokAns (r : Option (Tok × Nat)) (k : Nat) (e : Ending) : Prop := match r with
  | some (t, n) => e = .returned (.tuple #[tokV { t with pos := k }, .int .i64 ((k + n : Nat) : Int), .bool true])
  | none => ∃ (x : Int) (y : ByteArray) (z p : Int), e = .returned (.tuple #[.agg #[.int .i64 x, .string y, .int .i64 z], .int .i64 p, .bool false])

def numL (neg : Bool) (d : List UInt8) : Option (Tok × Nat) := if magB neg d = true then some (⟨1, if neg then 45 :: d else d, 0⟩, (if neg then 1 else 0) + d.length) else none

theorem ext_tw_at (s : ByteArray) (f : Nat) (p : UInt8 → Bool) : s.extract f (f + ((s.data.toList.drop f).takeWhile p).length) = ⟨((s.data.toList.drop f).takeWhile p).toArray⟩ := by
  rw [extract_eq, Nat.add_sub_cancel_left]
  congr 2
  generalize s.data.toList.drop f = r
  conv => lhs; arg 2; rw [← List.takeWhile_append_dropWhile (p := p) (l := r)]
  exact List.take_left
theorem head_tw {s : ByteArray} {f : Nat} {p : UInt8 → Bool} (h : f < s.size) (hp : 0 < ((s.data.toList.drop f).takeWhile p).length) : ((s.data.toList.drop f).takeWhile p).head? = some s[f] := by
  rw [drop_cons h] at hp ⊢
  rw [List.takeWhile_cons] at hp ⊢
  split
  · rfl
  · rename_i hn; simp [hn] at hp
theorem mag_none {neg : Bool} {d : List UInt8} (h : d.length = 0 ∨ 13 < d.length ∨ (d.head? = some 48 ∧ (1 < d.length ∨ neg = true))) : magB neg d = false := by
  unfold magB
  rcases h with h | h | ⟨h, h2⟩
  · rw [show decide (1 ≤ d.length ∧ d.length ≤ 13) = false by simp; omega]; rfl
  · rw [show decide (1 ≤ d.length ∧ d.length ≤ 13) = false by simp; omega]; rfl
  · rw [decide_eq_true h]
    have : (decide (1 < d.length) || neg) = true := by
      rcases h2 with h2 | h2
      · rw [decide_eq_true h2]; rfl
      · rw [h2]; simp
    rw [this]; simp
theorem mag_ok {neg : Bool} {d : List UInt8} (h1 : 1 ≤ d.length) (h2 : d.length ≤ 13) (ha : d.all digB = true) (h : d.head? ≠ some 48 ∨ (d.length ≤ 1 ∧ neg = false)) : magB neg d = decide (decV d ≤ 1099511627776) := by
  unfold magB
  rw [decide_eq_true (show 1 ≤ d.length ∧ d.length ≤ 13 from ⟨h1, h2⟩), ha]
  rcases h with h | ⟨h, hn⟩
  · rw [decide_eq_false h]; rfl
  · rw [hn, decide_eq_false (show ¬ 1 < d.length by omega)]; simp

theorem ans_num {neg : Bool} {d : List UInt8} {k j z : Nat} {X : ByteArray} (hv : numL neg d = if decide (z ≤ 1099511627776) = true then some (⟨1, if neg = true then 45 :: d else d, 0⟩, (if neg = true then 1 else 0) + d.length) else none)
    (hX : X = ⟨(if neg = true then 45 :: d else d).toArray⟩) (hj : j = k + ((if neg = true then 1 else 0) + d.length)) :
    TokAns (numL neg d) k (.returned (.tuple #[.agg #[.int .i64 1, .string X, .int .i64 k], .int .i64 j, .bool (decide ((z : Int) ≤ 1099511627776))])) := by
  rw [hv]
  subst hX hj
  by_cases h : z ≤ 1099511627776
  · rw [if_pos (decide_eq_true h), decide_eq_true (show (z : Int) ≤ 1099511627776 by omega)]
    rfl
  · rw [if_neg (by simpa using h), decide_eq_false (show ¬ (z : Int) ≤ 1099511627776 by omega)]
    exact ⟨_, _, _, _, rfl⟩

set_option maxHeartbeats 2000000 in
theorem number_neg (s : ByteArray) (hs : s.size ≤ 9223372036854775800) (k : Nat) (hk : k < s.size) (hc : s[k] = 126) (w : World) :
    Calls Tryd.prog 46 #[.string s, .int .i64 k] w fun e w' => TokAns (numL true ((s.data.toList.drop (k + 1)).takeWhile digB)) k e ∧ Kp w.heap.size w w' := by
  have e0 : ((s[k].toNat : Int) == 126) = true := by rw [show (126 : Int) = ((126 : UInt8).toNat : Int) from rfl, byte_eq]; simpa using hc
  clear hc
  obtain ⟨F, hF⟩ : ∃ F, F = k + 1 := ⟨_, rfl⟩
  rw [← hF]
  have hFk : (k : Int) + 1 = ((F : Nat) : Int) := by omega
  have hFs : F ≤ s.size := by omega
  have hpat := fun j hj => pAt_tw (p := digB) s.data.toList F j hj
  have hml := tw_le (p := digB) (s.data.toList.drop F)
  rw [List.length_drop, ← Lib.size_eq s] at hml
  have hex := ext_tw_at s F digB
  have hall := takeWhile_all (p := digB) (s.data.toList.drop F)
  have hhd := fun h => head_tw (s := s) (f := F) (p := digB) h
  generalize (s.data.toList.drop F).takeWhile digB = d at *
  obtain ⟨I, hI⟩ : ∃ I, I = F + d.length := ⟨_, rfl⟩
  rw [← hI] at hex
  have HP := Lib.hid hpat
  have HX := Lib.hid hex
  have HA := Lib.hid hall
  have HH := Lib.hid hhd
  have hIs : I ≤ s.size := by omega
  have hFI : F ≤ I := by omega
  have HI := Lib.hid hI
  have HF := Lib.hid hF
  clear hpat hex hall hhd hI hml hF
  have C45 : ∀ (j : Nat) (b : Bool), F ≤ j → j ≤ I → decide (j < I) = b → ∀ w, Calls Tryd.prog 45 #[.string s, .int .i64 j] w fun e w' => e = .returned (.bool b) ∧ w' = w := fun j b h1 h2 h3 w => by
    have h := rdigit_ok s (by omega) j w
    have hI := HI.out
    have hp := HP.out (j - F) (by omega)
    rw [show F + (j - F) = j by omega] at hp
    rw [hp, show decide (j - F < d.length) = b by rw [← h3, Bool.eq_iff_iff]; simp; omega] at h
    exact h
  go_enter Tryd.func46, Tryd.ntmps46
  go_wp2
  go_loopg [7] s.size (fun gk v wr => wr = w.alloc (.cells #[.int .i64 0, .string ⟨#[]⟩, .int .i64 0] 35) ∧ ∃ j : Nat, v = .int .i64 j ∧ F ≤ j ∧ j ≤ I ∧ s.size - j ≤ gk)
  case atStart => exact ⟨rfl, F, rfl, Nat.le_refl _, hFI, by omega⟩
  case round =>
    obtain ⟨rfl, j, rfl, hj1, hj2, hgk⟩ := hrel
    by_cases hlt : j < I
    · have CJ := C45 j true hj1 hj2 (decide_eq_true hlt)
      go_wp2_with (go_at_call 45; refine (CJ _).mono ?_; rintro e w' ⟨rfl, rfl⟩)
      go_roundg (s.size - (j + 1))
      case measure => omega
      case rel => exact ⟨rfl, j + 1, by go_num, by omega, by omega, Nat.le_refl _⟩
    · have CJ := C45 j false hj1 hj2 (decide_eq_false hlt)
      obtain rfl : j = I := by omega
      obtain ⟨m, hm⟩ : ∃ m, m = d.length := ⟨_, rfl⟩
      have HM := Lib.hid hm
      clear hm
      have hIm : j = F + m := by have := HI.out; have := HM.out; omega
      have hsub : (j : Int) - (F : Int) = (m : Int) := by omega
      have HIM := Lib.hid hIm
      have box := fun x y z => ((kp_drewN ((Kp.refl w.heap.size w).alloc (Nat.le_refl _) (.cells #[x, y, z] 35)) 0))
      by_cases hm0 : m = 0
      · have hjf : j = F := by omega
        have hv : numL true d = none := by unfold numL; rw [mag_none (.inl (by rw [← HM.out]; exact hm0))]; rfl
        have HV := Lib.hid hv
        have hq : ((j : Int) == (F : Int)) = true := by rw [hjf]; simp
        clear hIm hsub hm0 hjf hv
        go_wp2_with (go_at_call 45; refine (CJ _).mono ?_; rintro e w' ⟨rfl, rfl⟩)
        refine bodyPost_ret (v := .tuple #[.agg #[.int .i64 0, .string ⟨#[]⟩, .int .i64 0], .int .i64 0, .bool false]) ?_ rfl ⟨by rw [HV.out]; exact ⟨_, _, _, _, rfl⟩, (Kp.refl _ _).alloc (Nat.le_refl _) _⟩
        simp [results, Tryd.results46, go_sem]
      have hq : ((j : Int) == (F : Int)) = false := by simp; omega
      by_cases hm13 : 13 < m
      · have hv : numL true d = none := by unfold numL; rw [mag_none (.inr (.inl (by rw [← HM.out]; exact hm13)))]; rfl
        have HV := Lib.hid hv
        have hq2 : decide (13 < (m : Int)) = true := by simp; omega
        clear hIm hm0 hv
        go_wp2_with (go_at_call 45; refine (CJ _).mono ?_; rintro e w' ⟨rfl, rfl⟩)
        refine bodyPost_ret (v := .tuple #[.agg #[.int .i64 0, .string ⟨#[]⟩, .int .i64 0], .int .i64 0, .bool false]) ?_ rfl ⟨by rw [HV.out]; exact ⟨_, _, _, _, rfl⟩, (Kp.refl _ _).alloc (Nat.le_refl _) _⟩
        simp [results, Tryd.results46, go_sem]
      have hq2 : decide (13 < (m : Int)) = false := by simp; omega
      have hFl : F < s.size := by omega
      have hhd := HH.out hFl (by rw [← HM.out]; omega)
      by_cases h48 : s[F] = 48
      · have e1 : ((s[F].toNat : Int) == 48) = true := by rw [h48]; rfl
        by_cases hz : 1 < m ∨ true = true
        · have hv : numL true d = none := by
            unfold numL
            rw [mag_none (.inr (.inr ⟨by rw [hhd, h48], by rw [← HM.out]; exact hz⟩))]; rfl
          have HV := Lib.hid hv
          by_cases hm1 : 1 < m
          · have hq3 : decide (1 < (m : Int)) = true := by simp; omega
            clear hIm hm0 hv hhd h48 hz hm1
            go_wp2_with (go_at_call 45; refine (CJ _).mono ?_; rintro e w' ⟨rfl, rfl⟩)
            refine bodyPost_ret (v := .tuple #[.agg #[.int .i64 0, .string ⟨#[]⟩, .int .i64 0], .int .i64 0, .bool false]) ?_ rfl ⟨by rw [HV.out]; exact ⟨_, _, _, _, rfl⟩, (Kp.refl _ _).alloc (Nat.le_refl _) _⟩
            simp [results, Tryd.results46, go_sem]
          · have hq3 : decide (1 < (m : Int)) = false := by simp; omega
            have hbb : true = true := hz.resolve_left hm1
            clear hIm hm0 hv hhd h48 hz hm1
            go_wp2_with (go_at_call 45; refine (CJ _).mono ?_; rintro e w' ⟨rfl, rfl⟩)
            all_goals first
              | (refine bodyPost_ret (v := .tuple #[.agg #[.int .i64 0, .string ⟨#[]⟩, .int .i64 0], .int .i64 0, .bool false]) ?_ rfl ⟨by rw [HV.out]; exact ⟨_, _, _, _, rfl⟩, (Kp.refl _ _).alloc (Nat.le_refl _) _⟩
                 simp [results, Tryd.results46, go_sem]; done)
              | (exact absurd hbb (by decide))
        · have hz1 : ¬ 1 < m := fun h => hz (.inl h)
          have hzb : true = false := by
            cases hb : true
            · rfl
            · exact absurd hb (fun h => hz (.inr h))
          exact absurd hzb (by decide)
      · have e1 : ((s[F].toNat : Int) == 48) = false := by rw [show (48 : Int) = ((48 : UInt8).toNat : Int) from rfl, byte_eq]; simpa using h48
        have hv : numL true d = if decide (decV d ≤ 1099511627776) = true then some (⟨1, if true = true then 45 :: d else d, 0⟩, (if true = true then 1 else 0) + d.length) else none := by
          unfold numL
          rw [mag_ok (by rw [← HM.out]; omega) (by rw [← HM.out]; omega) HA.out (.inl (by rw [hhd]; simpa using h48))]
        have HV := Lib.hid hv
        have hxs : (s.extract F j).size ≤ 13 := by rw [HX.out, Lib.size_eq]; simp only; rw [← HM.out]; omega
        have hxd : (s.extract F j).data.toList = d := by rw [HX.out]
        have C56 := fun w => decimal_ok (s.extract F j) hxs (by rw [hxd]; exact HA.out) w
        rw [hxd] at C56
        clear hIm hm0 hv hhd h48 hxs hxd
        generalize decV d = z at *
        go_wp2_with (first
          | (go_at_call 45; refine (CJ _).mono ?_; rintro e w' ⟨rfl, rfl⟩)
          | (go_at_call 56; refine (C56 _).mono ?_; rintro e w' ⟨rfl, rfl⟩))
        refine bodyPost_ret (v := .tuple #[.agg #[.int .i64 1, .string (⟨#[45]⟩ ++ s.extract F j), .int .i64 k], .int .i64 j, .bool (decide ((z : Int) ≤ 1099511627776))]) ?_ rfl ⟨ans_num HV.out (by rw [HX.out]; apply ByteArray.ext; simp) (by have := HI.out; have := HF.out; simp; omega), (Kp.refl _ _).alloc (Nat.le_refl _) _⟩
        simp [results, Tryd.results46, go_sem]

set_option maxHeartbeats 2000000 in
theorem number_pos (s : ByteArray) (hs : s.size ≤ 9223372036854775800) (k : Nat) (hk : k < s.size) (hc : s[k] ≠ 126) (w : World) :
    Calls Tryd.prog 46 #[.string s, .int .i64 k] w fun e w' => TokAns (numL false ((s.data.toList.drop (k)).takeWhile digB)) k e ∧ Kp w.heap.size w w' := by
  have e0 : ((s[k].toNat : Int) == 126) = false := by rw [show (126 : Int) = ((126 : UInt8).toNat : Int) from rfl, byte_eq]; simpa using hc
  clear hc
  obtain ⟨F, hF⟩ : ∃ F, F = k := ⟨_, rfl⟩
  rw [← hF]
  subst hF
  have hFs : F ≤ s.size := by omega
  have hpat := fun j hj => pAt_tw (p := digB) s.data.toList F j hj
  have hml := tw_le (p := digB) (s.data.toList.drop F)
  rw [List.length_drop, ← Lib.size_eq s] at hml
  have hex := ext_tw_at s F digB
  have hall := takeWhile_all (p := digB) (s.data.toList.drop F)
  have hhd := fun h => head_tw (s := s) (f := F) (p := digB) h
  generalize (s.data.toList.drop F).takeWhile digB = d at *
  obtain ⟨I, hI⟩ : ∃ I, I = F + d.length := ⟨_, rfl⟩
  rw [← hI] at hex
  have HP := Lib.hid hpat
  have HX := Lib.hid hex
  have HA := Lib.hid hall
  have HH := Lib.hid hhd
  have hIs : I ≤ s.size := by omega
  have hFI : F ≤ I := by omega
  have HI := Lib.hid hI
  clear hpat hex hall hhd hI hml
  have C45 : ∀ (j : Nat) (b : Bool), F ≤ j → j ≤ I → decide (j < I) = b → ∀ w, Calls Tryd.prog 45 #[.string s, .int .i64 j] w fun e w' => e = .returned (.bool b) ∧ w' = w := fun j b h1 h2 h3 w => by
    have h := rdigit_ok s (by omega) j w
    have hI := HI.out
    have hp := HP.out (j - F) (by omega)
    rw [show F + (j - F) = j by omega] at hp
    rw [hp, show decide (j - F < d.length) = b by rw [← h3, Bool.eq_iff_iff]; simp; omega] at h
    exact h
  go_enter Tryd.func46, Tryd.ntmps46
  go_wp2
  go_loopg [7] s.size (fun gk v wr => wr = w.alloc (.cells #[.int .i64 0, .string ⟨#[]⟩, .int .i64 0] 35) ∧ ∃ j : Nat, v = .int .i64 j ∧ F ≤ j ∧ j ≤ I ∧ s.size - j ≤ gk)
  case atStart => exact ⟨rfl, F, rfl, Nat.le_refl _, hFI, by omega⟩
  case round =>
    obtain ⟨rfl, j, rfl, hj1, hj2, hgk⟩ := hrel
    by_cases hlt : j < I
    · have CJ := C45 j true hj1 hj2 (decide_eq_true hlt)
      go_wp2_with (go_at_call 45; refine (CJ _).mono ?_; rintro e w' ⟨rfl, rfl⟩)
      go_roundg (s.size - (j + 1))
      case measure => omega
      case rel => exact ⟨rfl, j + 1, by go_num, by omega, by omega, Nat.le_refl _⟩
    · have CJ := C45 j false hj1 hj2 (decide_eq_false hlt)
      obtain rfl : j = I := by omega
      obtain ⟨m, hm⟩ : ∃ m, m = d.length := ⟨_, rfl⟩
      have HM := Lib.hid hm
      clear hm
      have hIm : j = F + m := by have := HI.out; have := HM.out; omega
      have hsub : (j : Int) - (F : Int) = (m : Int) := by omega
      have HIM := Lib.hid hIm
      have box := fun x y z => ((kp_drewN ((Kp.refl w.heap.size w).alloc (Nat.le_refl _) (.cells #[x, y, z] 35)) 0))
      by_cases hm0 : m = 0
      · have hjf : j = F := by omega
        have hv : numL false d = none := by unfold numL; rw [mag_none (.inl (by rw [← HM.out]; exact hm0))]; rfl
        have HV := Lib.hid hv
        have hq : ((j : Int) == (F : Int)) = true := by rw [hjf]; simp
        clear hIm hsub hm0 hjf hv
        go_wp2_with (go_at_call 45; refine (CJ _).mono ?_; rintro e w' ⟨rfl, rfl⟩)
        refine bodyPost_ret (v := .tuple #[.agg #[.int .i64 0, .string ⟨#[]⟩, .int .i64 0], .int .i64 0, .bool false]) ?_ rfl ⟨by rw [HV.out]; exact ⟨_, _, _, _, rfl⟩, (Kp.refl _ _).alloc (Nat.le_refl _) _⟩
        simp [results, Tryd.results46, go_sem]
      have hq : ((j : Int) == (F : Int)) = false := by simp; omega
      by_cases hm13 : 13 < m
      · have hv : numL false d = none := by unfold numL; rw [mag_none (.inr (.inl (by rw [← HM.out]; exact hm13)))]; rfl
        have HV := Lib.hid hv
        have hq2 : decide (13 < (m : Int)) = true := by simp; omega
        clear hIm hm0 hv
        go_wp2_with (go_at_call 45; refine (CJ _).mono ?_; rintro e w' ⟨rfl, rfl⟩)
        refine bodyPost_ret (v := .tuple #[.agg #[.int .i64 0, .string ⟨#[]⟩, .int .i64 0], .int .i64 0, .bool false]) ?_ rfl ⟨by rw [HV.out]; exact ⟨_, _, _, _, rfl⟩, (Kp.refl _ _).alloc (Nat.le_refl _) _⟩
        simp [results, Tryd.results46, go_sem]
      have hq2 : decide (13 < (m : Int)) = false := by simp; omega
      have hFl : F < s.size := by omega
      have hhd := HH.out hFl (by rw [← HM.out]; omega)
      by_cases h48 : s[F] = 48
      · have e1 : ((s[F].toNat : Int) == 48) = true := by rw [h48]; rfl
        by_cases hz : 1 < m ∨ false = true
        · have hv : numL false d = none := by
            unfold numL
            rw [mag_none (.inr (.inr ⟨by rw [hhd, h48], by rw [← HM.out]; exact hz⟩))]; rfl
          have HV := Lib.hid hv
          by_cases hm1 : 1 < m
          · have hq3 : decide (1 < (m : Int)) = true := by simp; omega
            clear hIm hm0 hv hhd h48 hz hm1
            go_wp2_with (go_at_call 45; refine (CJ _).mono ?_; rintro e w' ⟨rfl, rfl⟩)
            refine bodyPost_ret (v := .tuple #[.agg #[.int .i64 0, .string ⟨#[]⟩, .int .i64 0], .int .i64 0, .bool false]) ?_ rfl ⟨by rw [HV.out]; exact ⟨_, _, _, _, rfl⟩, (Kp.refl _ _).alloc (Nat.le_refl _) _⟩
            simp [results, Tryd.results46, go_sem]
          · have hq3 : decide (1 < (m : Int)) = false := by simp; omega
            have hbb : false = true := hz.resolve_left hm1
            clear hIm hm0 hv hhd h48 hz hm1
            go_wp2_with (go_at_call 45; refine (CJ _).mono ?_; rintro e w' ⟨rfl, rfl⟩)
            all_goals first
              | (refine bodyPost_ret (v := .tuple #[.agg #[.int .i64 0, .string ⟨#[]⟩, .int .i64 0], .int .i64 0, .bool false]) ?_ rfl ⟨by rw [HV.out]; exact ⟨_, _, _, _, rfl⟩, (Kp.refl _ _).alloc (Nat.le_refl _) _⟩
                 simp [results, Tryd.results46, go_sem]; done)
              | (exact absurd hbb (by decide))
        · have hz1 : ¬ 1 < m := fun h => hz (.inl h)
          have hzb : false = false := by
            cases hb : false
            · rfl
            · exact absurd hb (fun h => hz (.inr h))
          have hq3 : decide (1 < (m : Int)) = false := by simp; omega
          have hv : numL false d = if decide (decV d ≤ 1099511627776) = true then some (⟨1, if false = true then 45 :: d else d, 0⟩, (if false = true then 1 else 0) + d.length) else none := by
            unfold numL
            rw [mag_ok (by rw [← HM.out]; omega) (by rw [← HM.out]; omega) HA.out (.inr ⟨by rw [← HM.out]; omega, hzb⟩)]
          have HV := Lib.hid hv
          have hxs : (s.extract F j).size ≤ 13 := by rw [HX.out, Lib.size_eq]; simp only; rw [← HM.out]; omega
          have hxd : (s.extract F j).data.toList = d := by rw [HX.out]
          have C56 := fun w => decimal_ok (s.extract F j) hxs (by rw [hxd]; exact HA.out) w
          rw [hxd] at C56
          clear hIm hm0 hv hhd h48 hxs hxd hz hz1 hzb
          generalize decV d = z at *
          go_wp2_with (first
            | (go_at_call 45; refine (CJ _).mono ?_; rintro e w' ⟨rfl, rfl⟩)
            | (go_at_call 56; refine (C56 _).mono ?_; rintro e w' ⟨rfl, rfl⟩))
          refine bodyPost_ret (v := .tuple #[.agg #[.int .i64 1, .string (s.extract F j), .int .i64 F], .int .i64 j, .bool (decide ((z : Int) ≤ 1099511627776))]) ?_ rfl ⟨ans_num HV.out (by rw [HX.out]; rfl) (by have := HI.out; simp; omega), (Kp.refl _ _).alloc (Nat.le_refl _) _⟩
          simp [results, Tryd.results46, go_sem]
      · have e1 : ((s[F].toNat : Int) == 48) = false := by rw [show (48 : Int) = ((48 : UInt8).toNat : Int) from rfl, byte_eq]; simpa using h48
        have hv : numL false d = if decide (decV d ≤ 1099511627776) = true then some (⟨1, if false = true then 45 :: d else d, 0⟩, (if false = true then 1 else 0) + d.length) else none := by
          unfold numL
          rw [mag_ok (by rw [← HM.out]; omega) (by rw [← HM.out]; omega) HA.out (.inl (by rw [hhd]; simpa using h48))]
        have HV := Lib.hid hv
        have hxs : (s.extract F j).size ≤ 13 := by rw [HX.out, Lib.size_eq]; simp only; rw [← HM.out]; omega
        have hxd : (s.extract F j).data.toList = d := by rw [HX.out]
        have C56 := fun w => decimal_ok (s.extract F j) hxs (by rw [hxd]; exact HA.out) w
        rw [hxd] at C56
        clear hIm hm0 hv hhd h48 hxs hxd
        generalize decV d = z at *
        go_wp2_with (first
          | (go_at_call 45; refine (CJ _).mono ?_; rintro e w' ⟨rfl, rfl⟩)
          | (go_at_call 56; refine (C56 _).mono ?_; rintro e w' ⟨rfl, rfl⟩))
        refine bodyPost_ret (v := .tuple #[.agg #[.int .i64 1, .string (s.extract F j), .int .i64 F], .int .i64 j, .bool (decide ((z : Int) ≤ 1099511627776))]) ?_ rfl ⟨ans_num HV.out (by rw [HX.out]; rfl) (by have := HI.out; simp; omega), (Kp.refl _ _).alloc (Nat.le_refl _) _⟩
        simp [results, Tryd.results46, go_sem]
end Go.Lx
