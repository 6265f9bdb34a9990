/-
  slices.Grow over rows of bytes that the call itself made: a contract.
-/
import Derived.Test.YtlaiacjlphjmlaaVZ
import Derived.Lib.AppendZerosOnto
import Derived.Laws.CopyOwn
namespace Go.Proofs.Ytlaiacjlphjmlaa
namespace V
open Go.RowKit Pack
theorem shape {w : World} {base : Nat} {v : Value} {l : List (BitVec 8)} (h : Owns w base v l) (hp : 0 < l.length) : ∃ g cap, v = .slice (some ⟨g, 0, none⟩) l.length cap ∧ l.length ≤ cap ∧ cap ≤ maxLen ∧ base ≤ g ∧ g < w.heap.size := by
  unfold Owns at h
  rcases h.2 with ⟨_, h0⟩ | ⟨g, cap, cur, hv, hb, hg, hnc, hcm, _⟩
  · omega
  · exact ⟨g, cap, hv, hnc, hcm, hb, (Array.getElem?_eq_some_iff.1 hg).1⟩
end V
namespace V
open Go.RowKit Pack

theorem Owns.below {w w' : World} {base : Nat} {v : Value} {l : List (BitVec 8)} (h : Owns w base v l) (hb : Below w.heap.size w w') : Owns w' base v l := by
  refine ⟨h.1, ?_⟩
  rcases h.2 with hn | ⟨g, cap, cur, hv, hg, hh, rest⟩
  · exact .inl hn
  · refine .inr ⟨g, cap, cur, hv, hg, ?_, rest⟩
    rw [hb.block g (Array.getElem?_eq_some_iff.1 hh).1]
    exact hh

/-- 'copy(dst, src)', dst in a row that is known whole, as long as src or longer: no other block turns. -/
theorem wpList_copy_bytes {P : Program} {w : World} {ops : Array Oper} {rest : List Oper} {o : Oper} {a : Act} {Q : Exit → Act → World → Prop} (hgd : o.guard = none) (d s : Operand) (t : TypeId)
    (ho : o.op = .call { callee := .builtin .copy, args := #[d, s], argTypes := #[t, t] }) (hu : P.underlying t = some (.slice 5)) (hinfo : (P.info? 5).map (fun i => (i.zero, i.size, i.bytes)) = some (some (.int .u8 0), 1, 1))
    (dp : Option Addr) (dLen dCap : Nat) (hd : a.eval d = .slice dp dLen dCap) (x : Value) (hs : a.eval s = x) (l : List (BitVec 8)) (hr : ReadsV w x l) (hl : l.length ≤ dLen)
    (g off : Nat) (hdp : 0 < l.length → dp = some ⟨g, off, none⟩) (cur : List Value) (hg : w.heap[g]? = some (.cells cur.toArray 5 (0, 0))) (hfit : off + l.length ≤ cur.length)
    (h : ∀ w', Hid (w'.heap[g]? = some (.cells (splice cur off (bytesV l)).toArray 5 (0, 0))) → w.grownBy w' (some g) → wpList P ops Q rest (a.put o.dst (goInt l.length)) w') :
    wpList P ops Q (o :: rest) a w := by
  obtain ⟨sp, sCap, rfl, hnil, _, _, hrd⟩ := hr
  have hsz : (P.info? 5).map (·.size) = some 1 := by
    obtain ⟨i, hi, _, h1, _⟩ := info_parts hinfo
    rw [hi]; simp [h1]
  rcases hrd.2 with h0 | ⟨b, off2, rfl, hc⟩
  · subst h0
    refine wpList_copy_nothing hgd d s t t ho 5 hu hsz dp sp _ dCap _ sCap hd hs (Nat.zero_min _) ?_
    exact h w (show _ = _ by simpa [splice, bytesV] using hg) ⟨rfl, rfl, rfl, Nat.le_refl _, fun _ _ _ => rfl⟩
  · by_cases hz : l.length = 0
    · obtain rfl : l = [] := List.length_eq_zero_iff.1 hz
      refine wpList_copy_nothing hgd d s t t ho 5 hu hsz dp _ _ dCap _ sCap hd hs (Nat.zero_min _) ?_
      exact h w (show _ = _ by simpa [splice, bytesV] using hg) ⟨rfl, rfl, rfl, Nat.le_refl _, fun _ _ _ => rfl⟩
    · obtain rfl := hdp (by omega)
      have hlen := bytesV_length l
      refine wpList_copy_own hgd d s t t ho 5 hu hsz g off dLen dCap ⟨b, off2, none⟩ l.length sCap hd hs cur.toArray 5 hg (bytesV l) (by rw [hlen]; exact (Nat.min_eq_left hl).symm) ?_ (by rw [hlen]; simpa using hfit) bytesV_one ?_
      · intro j v hj
        obtain ⟨hj1, rfl⟩ := bytesV_getElem hj
        rw [add_plain]; exact hc j hj1
      · rw [hlen]
        refine h _ (show _ = _ by simpa [splice, hlen] using setRow_heap w g _ _ 5 _ hg) ⟨rfl, rfl, rfl, by simp [World.setRow], fun k _ hk => setRow_other w g k _ (fun e => hk (by rw [e]))⟩

theorem ReadsV.grown {w w' : World} {g1 o n c g : Nat} {l : List (BitVec 8)} (h : ReadsV w (.slice (some ⟨g1, o, none⟩) n c) l) (hg : w.grownBy w' (some g)) (hne : g1 ≠ g) : ReadsV w' (.slice (some ⟨g1, o, none⟩) n c) l := by
  obtain ⟨a', c', hv, h1, h2, h3, hm, hr⟩ := h
  simp only [Value.slice.injEq] at hv
  obtain ⟨rfl, rfl, rfl⟩ := hv
  refine ⟨_, c, rfl, h1, h2, h3, hm, ?_⟩
  rcases hr with hr | ⟨b, off, hb, hc⟩
  · exact .inl hr
  · refine .inr ⟨b, off, hb, fun i hi => hg.cell (hc i hi) ?_⟩
    cases hb
    exact fun e => hne (Option.some.inj e)

/-- The row that was made, and the row that grew, are two. -/
theorem two_rows {w w1 : World} {base g g1 L c R c1 : Nat} {a : Option Addr} {l r : List (BitVec 8)} (ho : Owns w base (.slice a L c) l) (hg1 : w.heap.size ≤ g1) (hr : ReadsV w1 (.slice (some ⟨g1, 0, none⟩) R c1) r) (hR : 0 < R) (hg : g < w1.heap.size → a = some ⟨g, 0, none⟩) : g1 ≠ g := by
  rintro rfl
  obtain ⟨b, off, hb, hlt, _⟩ := cells_of hr hR
  cases hb
  have ha := hg hlt
  subst ha
  have := (World.ownsRow.lt ho g1 rfl).2
  omega

theorem splice_two {cur R S L : List Value} (h : cur.take L.length = L) (hc : L.length + R.length + S.length ≤ cur.length) :
    (splice (splice cur (L.length + R.length) S) L.length R).take (L.length + R.length + S.length) = L ++ R ++ S := by
  have e1 : (splice cur (L.length + R.length) S).take L.length = L := by
    unfold splice
    rw [List.take_append_of_le_length (by simp; omega), List.take_take, Nat.min_eq_left (by omega), h]
  have e2 : (splice cur (L.length + R.length) S).drop (L.length + R.length) = S ++ cur.drop (L.length + R.length + S.length) := by
    unfold splice
    exact List.drop_left' (by simp; omega)
  have e3 : splice (splice cur (L.length + R.length) S) L.length R = (L ++ R ++ S) ++ cur.drop (L.length + R.length + S.length) := by
    show (splice cur (L.length + R.length) S).take L.length ++ (R ++ (splice cur (L.length + R.length) S).drop (L.length + R.length)) = _
    rw [e1, e2]; simp
  rw [e3]
  exact List.take_left' (by simp; omega)

theorem own_final {w : World} {base g C L R n : Nat} {cur : List Value} {l r s : List (BitVec 8)} (hl : l.length = L) (hr : r.length = R) (hs : s.length = n) (hb : base ≤ g) (hC : L + (R + n) ≤ C) (hC2 : C ≤ 9223372036854775807) (hcl : cur.length = C) (hct : cur.take L = bytesV l)
    (hh : w.heap[g]? = some (.cells (splice (splice cur (L + R) (bytesV s)) L (bytesV r)).toArray 5 (0, 0))) : Owns w base (.slice (some ⟨g, 0, none⟩) (L + R + n) C) (l ++ (r ++ s)) := by
  subst hl hr hs
  have h1 := splice_two (cur := cur) (L := bytesV l) (R := bytesV r) (S := bytesV s) (by rw [bytesV_length]; exact hct) (by simp only [bytesV_length]; omega)
  simp only [bytesV_length] at h1
  have hlen : (splice (splice cur (l.length + r.length) (bytesV s)) l.length (bytesV r)).length = C := by
    rw [length_splice _ _ _ (by rw [length_splice _ _ _ (by rw [bytesV_length]; omega), bytesV_length]; omega), length_splice _ _ _ (by rw [bytesV_length]; omega), hcl]
  have hL : (l ++ (r ++ s)).length = l.length + r.length + s.length := by simp; omega
  refine ⟨by simp [bytesV_length], .inr ⟨g, C, _, by rw [hL], hb, hh, by omega, by rw [maxLen_eq]; exact hC2, by simpa using hlen, ?_⟩⟩
  rw [Nat.mul_one, hL]
  show (splice (splice cur (l.length + r.length) (bytesV s)) l.length (bytesV r)).take _ = _
  rw [h1, ← bytesV_append, ← bytesV_append, List.append_assoc]

theorem below_two {w w1 w2 w3 w4 : World} {base g : Nat} (h0 : base ≤ w.heap.size) (h1 : Below w.heap.size w w1) (h2 : Below w1.heap.size w1 w2) (h3 : w2.grownBy w3 (some g)) (h4 : w3.grownBy w4 (some g)) (hg : base ≤ g) : Below base w w4 := by
  have e1 : Below base w w1 := h1.mono h0
  have e2 : Below base w w2 := e1.trans (h2.mono (Nat.le_trans h0 h1.size))
  have s2 : base ≤ w2.heap.size := Nat.le_trans h0 e2.size
  have e3 : Below base w w3 := e2.grown h3 s2 (fun k hk => by cases hk; exact hg)
  exact e3.grown h4 (Nat.le_trans h0 e3.size) (fun k hk => by cases hk; exact hg)
end V
namespace V
open Go.RowKit Pack

theorem take_row (n : Nat) (T : List (BitVec 8)) : (urow n ++ T).take (urow n).length = urow n := List.take_left
theorem drop_row (n : Nat) (T : List (BitVec 8)) : (urow n ++ T).drop (urow n).length = T := List.drop_left
theorem val_row (n : Nat) (T : List (BitVec 8)) : val ((urow n ++ T).take (urow n).length) = n := by rw [take_row, val_urow]

theorem below3 {w w1 w2 : World} {B : Nat} (h : Below B w w1) (h2 : Below w1.heap.size w1 w2) (hB : B ≤ w.heap.size) : Below B w w2 := h.trans (h2.mono (Nat.le_trans hB h.size))
end V
end Go.Proofs.Ytlaiacjlphjmlaa
