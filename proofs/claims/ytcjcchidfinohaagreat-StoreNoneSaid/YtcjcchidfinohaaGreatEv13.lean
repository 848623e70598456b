/- An abstract evaluator over the model: the operations that look at memory are right (3). -/
import Derived.Test.YtcjcchidfinohaaGreatEv12
namespace Go.Ev
variable {P : Program} {ρ : Pm} {g : Nat} {s : St} {w : World} {e : Operand → Value} {lk : Lk} {o : Oper}

theorem elemD_ok {d : Option TypeDesc} {t : TypeId} (h : elemD d = some t) : d = some (.slice t) := by
  unfold elemD at h
  split at h
  · obtain rfl := Option.some.inj h; rfl
  · cases h

theorem isByteSlice_ok {a b : Option TypeDesc} (h : isByteSlice a b = true) : a = some (.int .u8) ∧ b = some .string := by
  unfold isByteSlice at h
  split at h
  · split at h
    · exact ⟨rfl, rfl⟩
    · cases h
  · cases h

/-- Bytes pushed, one by one. -/
def pushAll (b : ByteArray) : List UInt8 → ByteArray
  | [] => b
  | x :: r => pushAll (b.push x) r

theorem pushAll_data : ∀ (l : List UInt8) (b : ByteArray), (pushAll b l).data.toList = b.data.toList ++ l
  | [], b => by simp [pushAll]
  | x :: r, b => by rw [pushAll, pushAll_data r]; simp [ByteArray.push]

theorem bytesLoop_ok : ∀ {l : List AV} {b : List UInt8} {vs : List Value} (acc : ByteArray), bytesOf l = some b → VRs ρ l vs →
    Sem.run P (forIn vs acc fun c s => match c with
      | .int .u8 n => pure (ForInStep.yield (s.push (UInt8.ofNat n.toNat)))
      | _ => do
        stuck "bytesToString: byte expected"
        pure (ForInStep.yield s)) w = .ok (pushAll acc b) w
  | [], b, vs, acc, h, hv => by
    obtain rfl := Option.some.inj h
    obtain rfl : vs = [] := hv
    rfl
  | a :: l, b, vs, acc, h, hv => by
    obtain ⟨v, q, rfl, ha, hv⟩ := hv
    simp only [bytesOf] at h
    split at h
    · rename_i n
      split at h
      · rename_i r hr
        obtain rfl := Option.some.inj h
        rw [VR.eq_2] at ha
        subst ha
        rw [List.forIn_cons]
        have := bytesLoop_ok (acc.push (UInt8.ofNat n.toNat)) hr hv
        simpa [pushAll] using this
      · cases h
    · cases h

theorem convR_ok {src dst : TypeId} {x : Operand} {r : AV} (hs : Sim ρ g s w.heap) (ho : o.op = .convert src dst x) (hl : Lks ρ lk e) (h : convR P src dst s (lk x) = some r) : NO P w ρ e o r := by
  unfold convR at h
  split at h
  · rename_i el hel
    have hsrc := elemD_ok hel
    split at h
    · rename_i hb
      obtain ⟨hel', hdst⟩ := isByteSlice_ok hb
      refine no_of (m := convert src dst (e x)) ?_ (by simp only [execOp, ho])
      have hconv : ∀ (a : Option Addr) (n c : Nat), (convert src dst (.slice a n c)).run P w = (Conv.bytesToString (.slice a n c)).run P w := by
        intro a n c
        simp only [convert, Sem.run_bind, run_und hsrc, run_und hdst, Result.andThen_ok, run_und hel']
      split at h
      · rename_i hx
        have hu := hl _ _ hx
        rw [VR.eq_5] at hu
        obtain rfl := Option.some.inj h
        refine ⟨.string .empty, ?_, rfl⟩
        rw [hu, hconv]
        rfl
      · rename_i l off n cap ex hx
        obtain ⟨p, ad, c', hp, hv, h1, h2, h3, h4⟩ := hl _ _ hx
        split at h
        · rename_i row hrow
          obtain ⟨p', c, t', fr, hp', hh, hsz, hc⟩ := row_ok hs hrow
          obtain rfl := Option.some.inj (hp.symm.trans hp')
          unfold strB at h
          split at h
          · rename_i cs hcs
            unfold strO at h
            split at h
            · rename_i b hb'
              obtain rfl := Option.some.inj h
              obtain ⟨h5, h6⟩ := cells_sub hc hcs
              refine ⟨.string (pushAll .empty b), ?_, ?_⟩
              · rw [hv, hconv]
                have hload : (loadCells ad n).run P w = .ok ((c.toList.drop (p.o + off)).take n).toArray w := by
                  rcases Nat.eq_zero_or_pos c' with h0 | h0
                  · have : n = 0 := by omega
                    subst this
                    simp [loadCells, loadCellsFrom]
                  · obtain ⟨rfl, _⟩ := h4 h0
                    exact loadCells_ok hh h5
                have := bytesLoop_ok (P := P) (w := w) .empty hb' h6
                simp only [Conv.bytesToString, Sem.run_bind, hload, Result.andThen_ok]
                rw [← Array.forIn_toList]
                simp only []
                erw [this]
                rfl
              · show Value.string _ = Value.string _
                congr 1
                apply ByteArray.ext
                apply Array.ext'
                rw [pushAll_data]
                rfl
            · cases h
          · cases h
        · cases h
      · cases h
    · cases h
  · cases h

theorem sliceR_ok {t : TypeId} {x : Operand} {lo hi mx : Option Operand} {r : AV} (hs : Sim ρ g s w.heap) (ho : o.op = .slice t x lo hi mx) (hl : Lks ρ lk e)
    (h : sliceR P t s (lk x) (opt lk lo) (opt lk hi) (opt lk mx) = some r) : NO P w ρ e o r := by
  unfold sliceR at h
  split at h
  · rename_i v a b c hv ha hb hc
    have ha := opt_ok hl ha
    have hb := opt_ok hl hb
    have hc := opt_ok hl hc
    have hu := hl _ _ hv
    refine no_of (m := Instr.sliceAt t (e x) (lo.map e) (hi.map e) (mx.map e)) ?_ (by simp only [execOp, ho])
    have key : ∀ (arr : Option TypeDesc), cutR P arr s v a b c = some r → ∃ (n : Nat) (elem : TypeId) (p : Pl) (off sz : Nat), arr = some (.array n elem) ∧ size P elem = some sz ∧ e x = .pointer (some ⟨p.b, p.o + off, none⟩) ∧
        ∃ l h m, (Instr.sliceBounds false n n (lo.map e) (hi.map e) (mx.map e)).run P w = .ok (l, h, m) w ∧ VR ρ r (Value.slice (some (if m = l then (⟨p.b, p.o + off, none⟩ : Addr) else (⟨p.b, p.o + off, none⟩ : Addr).add (l * sz))) (h - l) (m - l)) := by
      intro arr h
      unfold cutR at h
      split at h
      · rename_i n elem
        split at h
        · rename_i l off _
          split at h
          · rename_i sz hsz
            split at h
            · rename_i row hrow
              split at h
              · rename_i hlen
                obtain ⟨p, hp, hx⟩ := hu.ptr_inv
                obtain ⟨p', cc, t', fr, hp', hh, hpn, hcc⟩ := row_ok hs hrow
                obtain rfl := Option.some.inj (hp.symm.trans hp')
                have hlen : off + n * (sz + 1) ≤ row.length := Nat.le_of_ble_eq_true hlen
                have hin : 0 < n → p.o + off + n * (sz + 1) ≤ p.n := by
                  intro hn0
                  have h0 : 0 < n * (sz + 1) := Nat.mul_pos hn0 (Nat.succ_pos _)
                  have hlt : off + n * (sz + 1) - 1 < row.length := by omega
                  have hn : nth row (off + n * (sz + 1) - 1) = some row[off + n * (sz + 1) - 1] := by rw [nth_eq]; exact List.getElem?_eq_getElem hlt
                  obtain ⟨v, hv, _⟩ := hcc _ _ hn
                  have := (Array.getElem?_eq_some_iff.1 hv).1
                  omega
                obtain ⟨l', h', m, hq, hr⟩ := cut_ok (P := P) (w := w) (isS := false) h hp (Nat.le_refl _) (Nat.le_refl _) (fun _ => rfl) (fun h0 => ⟨rfl, hin h0⟩) ha hb hc
                exact ⟨n, elem, p, off, sz + 1, rfl, hsz, hx, l', h', m, hq, hr⟩
              · cases h
            · cases h
          · cases h
        · cases h
      · cases h
    split at h
    · rename_i n elem ht
      obtain ⟨n', elem', p, off, sz, he, hsz, hx, l, h', m, h1, h2⟩ := key _ h
      cases he
      refine ⟨_, ?_, h2⟩
      rw [hx]
      simp only [Instr.sliceAt, Sem.run_bind, run_und ht, Result.andThen_ok, h1, run_size hsz, Sem.run_pure, Instr.sureAddr]
    · rename_i arr ht
      obtain ⟨n', elem', p, off, sz, he, hsz, hx, l, h', m, h1, h2⟩ := key _ h
      refine ⟨_, ?_, h2⟩
      rw [hx]
      simp only [Instr.sliceAt, Instr.slice, Sem.run_bind, run_und ht, run_und he, Result.andThen_ok, h1, run_size hsz, Sem.run_pure, asAddr]
    · cases h
  · cases h

theorem lenR_ok {c : Call} {r : AV} (hs : Sim ρ g s w.heap) (ho : o.op = .call c) (hl : Lks ρ lk e) (h : callR P lk s c = some r) : NO P w ρ e o r := by
  unfold callR at h
  split at h
  · rename_i hc
    unfold lenR at h
    split at h
    · rename_i x hx
      split at h
      · rename_i t ht
        split at h
        · rename_i kt et hu
          split at h
          · rename_i m hm
            split at h
            · rename_i es hes
              obtain rfl := Option.some.inj h
              have hargs : c.args = #[x] := Array.ext' (show c.args.toList = [x] from hx)
              refine no_of (m := Builtin.len_ c.argTypes o.type (c.args.map e)) ?_ (by rw [call_builtin ho hc]; rfl)
              rw [hargs]
              refine ⟨goInt es.length, ?_, rfl⟩
              rcases map_ok hs (hl _ _ hm) hes with ⟨hv, rfl⟩ | ⟨l, p, kk, es', _, hp, _, hv, hh, he⟩
              · simp only [Builtin.len_, ht, List.map_toArray, List.map_cons, List.map_nil]
                simp [run_und hu, hv]
              · have : es'.size = es.length := by simpa using he.length
                simp only [Builtin.len_, ht, List.map_toArray, List.map_cons, List.map_nil]
                simp [run_und hu, hv, getObj, Sem.run, hh, this]
            · cases h
          · cases h
        · cases h
      · cases h
    · cases h
  · cases h

theorem read1_ok {r : AV} (hs : Sim ρ g s w.heap) (hl : Lks ρ lk e) (h : read1 P lk o.op s = some r) : NO P w ρ e o r := by
  unfold read1 at h
  split at h <;> rename_i ho
  · exact load_ok hs ho hl h
  · exact lookup_ok hs ho hl h
  · exact convR_ok hs ho hl h
  · exact sliceR_ok hs ho hl h
  · exact lenR_ok hs ho hl h
  · cases h

end Go.Ev
