/-
  What a crash keeps; rows that the caller makes beside a disk.
-/
import Derived.Test.YtcmnjiichkcmgaaTwice
namespace Go.Proofs.Ytcmnjiichkcmgaa
open Go.RowKit Go.Maps Go.Sort
set_option linter.unusedVariables false

theorem bytesOf_settled {F : Tab} {k : Key} {l : List (BitVec 8)} (h : F k = settled l) : bytesOf F k = l ∧ syncOf F k = l.length := by
  unfold bytesOf syncOf
  rw [h]
  unfold settled
  by_cases e : l = []
  · subst e; simp
  · rw [if_neg e]; exact ⟨rfl, rfl⟩
theorem keeps_at {F : Tab} {ks : List Key} {M : Nat} (zs : List Int) (h : NamesOf F ks) (hf : Fits F M) {i : Nat} (hi : i < ks.length) :
    bytesOf (crashTo F ks zs ks.length) (ks.getD i []) = (bytesOf F (ks.getD i [])).take (bytesOf (crashTo F ks zs ks.length) (ks.getD i [])).length ∧ syncOf F (ks.getD i []) ≤ (bytesOf (crashTo F ks zs ks.length) (ks.getD i [])).length ∧
      (bytesOf (crashTo F ks zs ks.length) (ks.getD i [])).length ≤ (bytesOf F (ks.getD i [])).length ∧ syncOf (crashTo F ks zs ks.length) (ks.getD i []) = (bytesOf (crashTo F ks zs ks.length) (ks.getD i [])).length := by
  obtain ⟨h1, h2⟩ := bytesOf_settled (crashTo_at (F := F) zs h.once hi _ hi (Nat.le_refl _))
  have h3 := hf.sync (ks.getD i [])
  rw [h1, h2]
  unfold left
  refine ⟨?_, ?_, ?_, rfl⟩
  · rw [List.length_take, List.take_eq_take_iff]; omega
  · rw [List.length_take]; omega
  · rw [List.length_take]; omega
theorem names_le {F G : Tab} {ks ks' : List Key} (h : NamesOf F ks) (h' : NamesOf G ks') (hs : ∀ k, F k = none → G k = none) : ks'.length ≤ ks.length := by
  have hh : NamesOf G (ks.filter fun k => (G k).isSome) := by
    refine ⟨h.sorted.filter _, h.once.filter _, fun k => ?_⟩
    rw [List.mem_filter, h.mem]
    constructor
    · exact fun h => h.2
    · intro hk
      refine ⟨?_, hk⟩
      cases hF : F k with
      | none => rw [hs k hF] at hk; cases hk
      | some x => rfl
  rw [h'.unique hh]
  exact List.length_filter_le _ _

theorem info30 : (Try.prog.info? 30).map (fun i => (i.zero, i.size, i.bytes)) = some (some (.slice none 0 0), 1, 24) := by kernel_rfl
theorem info3 : (Try.prog.info? 3).map (fun i => (i.zero, i.size, i.bytes)) = some (some (.int .i64 0), 1, 8) := by kernel_rfl

/-- The rows that the caller makes: was and firm. B: blocks from B on are theirs. -/
structure Rows2 (w0 wN wr : World) (pb : Nat) (fp : Nat → Prop) (N : Nat) (F : Tab) (ks : List Key) (vw vf : Value) (vals : List Value) (c : Nat) : Prop where
  st : St w0 wr pb fp N F
  bel : Below wN.heap.size wN wr
  ow : wr.ownsRow wN.heap.size 30 1 vw vals.length vals
  fi : wr.ownsRow wN.heap.size 3 1 vf c ((List.range c).map fun i => .int .i64 (syncOf F (ks.getD i [])))
  rd : ∀ i, i < vals.length → Owns wr wN.heap.size (vals.getD i undef) (bytesOf F (ks.getD i []))
  ne1 : ∀ i, i < vals.length → ∀ g, (vals.getD i undef).ownBlock = some g → vw.ownBlock ≠ some g ∧ vf.ownBlock ≠ some g
  ne2 : ∀ g, vw.ownBlock = some g → vf.ownBlock ≠ some g
  fpb : ∀ i, fp i → i < wN.heap.size
  base : w0.heap.size ≤ wN.heap.size

section
variable {w0 wN wr w' : World} {pb N c : Nat} {fp : Nat → Prop} {F : Tab} {ks : List Key} {vw vf : Value} {vals : List Value}

theorem Rows2.start (h : St w0 wN pb fp N F) : Rows2 w0 wN wN pb fp N F ks (.slice none 0 0) (.slice none 0 0) [] 0 :=
  { st := h, bel := Below.refl _ _, ow := World.ownsRow_nil _ _ _ _, fi := World.ownsRow_nil _ _ _ _, rd := fun i hi => by simp at hi, ne1 := fun i hi => by simp at hi, ne2 := fun g hg => by simp [Value.ownBlock] at hg, fpb := fun i hi => h.1.lt hi, base := h.2.1.size }

theorem Rows2.kept (h : Rows2 w0 wN wr pb fp N F ks vw vf vals c) (ht : Turned (fun _ => False) wr w') : Rows2 w0 wN w' pb fp N F ks vw vf vals c :=
  { h with
    st := h.st.kept ht
    bel := h.bel.trans (ht.below h.bel.size (fun _ h => h.elim))
    ow := owns_turned h.ow ht (fun _ _ h => h)
    fi := owns_turned h.fi ht (fun _ _ h => h)
    rd := fun i hi => owns_turned (h.rd i hi) ht (fun _ _ h => h) }

theorem keep_row {w w' : World} {b e s n : Nat} {v : Value} {xs : List Value} {row : Option Nat} (h : w.ownsRow b e s v n xs) (hg : w.grownBy w' row) (hne : ∀ g, v.ownBlock = some g → row ≠ some g) : w'.ownsRow b e s v n xs := by
  refine h.kept hg ?_
  cases hb : v.ownBlock with
  | none => exact .inl rfl
  | some g => exact .inr (fun e => hne g hb e.symm)

/-- 'was = append(was, v1)'. -/
theorem Rows2.was {v1 vw' : Value} (h : Rows2 w0 wN wr pb fp N F ks vw vf vals c) (h1 : Owns wr wN.heap.size v1 (bytesOf F (ks.getD vals.length []))) (hn1 : ∀ g, v1.ownBlock = some g → vw.ownBlock ≠ some g ∧ vf.ownBlock ≠ some g)
    (hown : w'.ownsRow wN.heap.size 30 1 vw' (vals.length + 1) (vals ++ [v1])) (hg : wr.grownBy w' vw.ownBlock) (hloc : vw'.ownBlock = vw.ownBlock ∨ vw'.ownBlock = some wr.heap.size) :
    Rows2 w0 wN w' pb fp N F ks vw' vf (vals ++ [v1]) c := by
  have hT : Turned (fun i => vw.ownBlock = some i) wr w' := Turned.of_grown hg (fun i e => e)
  have hb : ∀ i, vw.ownBlock = some i → wN.heap.size ≤ i := fun i e => (World.ownsRow.lt h.ow i e).1
  have hget : ∀ i, i < vals.length + 1 → ((vals ++ [v1]).getD i undef = vals.getD i undef ∧ i < vals.length) ∨ ((vals ++ [v1]).getD i undef = v1 ∧ i = vals.length) := by
    intro i hi
    by_cases hl : i < vals.length
    · left; exact ⟨by simp [List.getD, List.getElem?_append_left hl], hl⟩
    · right
      have : i = vals.length := by omega
      subst this
      exact ⟨by simp [List.getD], rfl⟩
  have hlt : ∀ g, vw'.ownBlock = some g → vw.ownBlock = some g ∨ g = wr.heap.size := fun g e => by
    rcases hloc with l | l
    · exact .inl (l ▸ e)
    · rw [l] at e; simp at e; exact .inr e.symm
  refine { st := ?_, bel := h.bel.trans (hT.below h.bel.size hb), ow := by simpa using hown, fi := ?_, rd := ?_, ne1 := ?_, ne2 := ?_, fpb := h.fpb, base := h.base }
  · exact ⟨h.st.1.kept hT (fun i hi e => by have := h.fpb i hi; have := hb i e; omega), h.st.2.1.trans (hT.below h.st.2.1.size (fun i e => Nat.le_trans h.base (hb i e))), h.st.2.2⟩
  · exact keep_row h.fi hg (fun g hg e => h.ne2 g e hg)
  · intro i hi
    rw [List.length_append] at hi
    rcases hget i hi with ⟨e, hl⟩ | ⟨e, rfl⟩
    · rw [e]; exact keep_row (h.rd i hl) hg (fun g hg => (h.ne1 i hl g hg).1)
    · rw [e]; exact keep_row h1 hg (fun g hg => (hn1 g hg).1)
  · intro i hi g hgi
    rw [List.length_append] at hi
    rcases hget i hi with ⟨e, hl⟩ | ⟨e, rfl⟩
    · rw [e] at hgi
      have h2 := h.ne1 i hl g hgi
      have h3 := (World.ownsRow.lt (h.rd i hl) g hgi).2
      refine ⟨fun e2 => ?_, h2.2⟩
      rcases hlt g e2 with h4 | h4
      · exact h2.1 h4
      · omega
    · rw [e] at hgi
      have h2 := hn1 g hgi
      have h3 := (World.ownsRow.lt h1 g hgi).2
      refine ⟨fun e2 => ?_, h2.2⟩
      rcases hlt g e2 with h4 | h4
      · exact h2.1 h4
      · omega
  · intro g e2 e3
    rcases hlt g e2 with h4 | h4
    · exact h.ne2 g h4 e3
    · have := (World.ownsRow.lt h.fi g e3).2; omega

/-- 'firm = append(firm, x)'. -/
theorem Rows2.firm {vf' : Value} (h : Rows2 w0 wN wr pb fp N F ks vw vf vals c)
    (hown : w'.ownsRow wN.heap.size 3 1 vf' (c + 1) (((List.range c).map fun i => .int .i64 (syncOf F (ks.getD i []))) ++ [.int .i64 (syncOf F (ks.getD c []))])) (hg : wr.grownBy w' vf.ownBlock) (hloc : vf'.ownBlock = vf.ownBlock ∨ vf'.ownBlock = some wr.heap.size) :
    Rows2 w0 wN w' pb fp N F ks vw vf' vals (c + 1) := by
  have hT : Turned (fun i => vf.ownBlock = some i) wr w' := Turned.of_grown hg (fun i e => e)
  have hb : ∀ i, vf.ownBlock = some i → wN.heap.size ≤ i := fun i e => (World.ownsRow.lt h.fi i e).1
  have hlt : ∀ g, vf'.ownBlock = some g → vf.ownBlock = some g ∨ g = wr.heap.size := fun g e => by
    rcases hloc with l | l
    · exact .inl (l ▸ e)
    · rw [l] at e; simp at e; exact .inr e.symm
  refine { st := ?_, bel := h.bel.trans (hT.below h.bel.size hb), ow := ?_, fi := by rw [List.range_succ, List.map_append]; exact hown, rd := ?_, ne1 := ?_, ne2 := ?_, fpb := h.fpb, base := h.base }
  · exact ⟨h.st.1.kept hT (fun i hi e => by have := h.fpb i hi; have := hb i e; omega), h.st.2.1.trans (hT.below h.st.2.1.size (fun i e => Nat.le_trans h.base (hb i e))), h.st.2.2⟩
  · exact keep_row h.ow hg (fun g hg => h.ne2 g hg)
  · intro i hl
    exact keep_row (h.rd i hl) hg (fun g hg => (h.ne1 i hl g hg).2)
  · intro i hl g hgi
    have h2 := h.ne1 i hl g hgi
    have h3 := (World.ownsRow.lt (h.rd i hl) g hgi).2
    refine ⟨h2.1, fun e2 => ?_⟩
    rcases hlt g e2 with h4 | h4
    · exact h2.2 h4
    · omega
  · intro g e2 e3
    rcases hlt g e3 with h4 | h4
    · exact h.ne2 g e2 h4
    · have := (World.ownsRow.lt h.ow g e2).2; omega
end

/-- The rows as they are read behind the crash. -/
structure Rows3 (w1 wr : World) (F : Tab) (ks : List Key) (vw vf vn : Value) (vals : List Value) : Prop where
  bel : Turned (fun _ => False) w1 wr
  ow : ∃ a c, vw = .slice a ks.length c ∧ (0 < ks.length → ∃ g, a = some ⟨g, 0, none⟩ ∧ ∀ i, i < ks.length → wr.cell? ⟨g, i, none⟩ = some (vals.getD i undef))
  fi : ∃ a c, vf = .slice a ks.length c ∧ (0 < ks.length → ∃ g, a = some ⟨g, 0, none⟩ ∧ ∀ i, i < ks.length → wr.cell? ⟨g, i, none⟩ = some (.int .i64 (syncOf F (ks.getD i []))))
  rd : ∀ i, i < ks.length → ReadsV wr (vals.getD i undef) (bytesOf F (ks.getD i []))
  nm : StrsV wr vn ks

theorem row_cells {w : World} {b e n : Nat} {v : Value} {xs : List Value} (h : w.ownsRow b e 1 v n xs) : ∃ a c, v = .slice a n c ∧ (0 < n → ∃ g, a = some ⟨g, 0, none⟩ ∧ ∀ i, i < n → w.cell? ⟨g, i, none⟩ = some (xs.getD i undef)) := by
  have hl := h.1
  have hh := h
  rcases h.2 with ⟨rfl, rfl⟩ | ⟨g, cap, cur, rfl, _⟩
  · exact ⟨none, 0, rfl, fun h => by omega⟩
  · refine ⟨_, cap, rfl, fun _ => ⟨g, rfl, fun i hi => ?_⟩⟩
    rw [hh.cellAt i (by omega), List.getD, List.getElem?_eq_getElem (by omega)]
    rfl

theorem Rows3.of {w0 wN wr w1 : World} {pb N : Nat} {fp : Nat → Prop} {F : Tab} {ks : List Key} {vw vf vn : Value} {vals : List Value} (h : Rows2 w0 wN wr pb fp N F ks vw vf vals ks.length) (hv : vals.length = ks.length) {b : Nat} (hn : wN.ownsRow b 9 1 vn ks.length (ks.map encStr)) (hb : ∀ i, fp i → i < b) (hT : Turned fp wr w1) : Rows3 w1 w1 F ks vw vf vn vals := by
  have hno : ∀ {v : Value} {e n : Nat} {xs : List Value}, wr.ownsRow wN.heap.size e 1 v n xs → w1.ownsRow wN.heap.size e 1 v n xs := fun hr => owns_turned hr hT (fun g hg hf => by have h1 := (World.ownsRow.lt hr g hg).1; have h2 := h.fpb g hf; omega)
  refine { bel := Turned.refl _ _, ow := ?_, fi := ?_, rd := fun i hi => ReadsV.of_own (hno (h.rd i (by omega))), nm := ?_ }
  · have := row_cells (hno h.ow)
    rw [hv] at this
    exact this
  · obtain ⟨a, c, e, hp⟩ := row_cells (hno h.fi)
    refine ⟨a, c, e, fun h0 => ?_⟩
    obtain ⟨g, e2, hc⟩ := hp h0
    refine ⟨g, e2, fun i hi => ?_⟩
    rw [hc i hi]
    simp [List.getD, hi]
  · have h1 : wr.ownsRow b 9 1 vn ks.length (ks.map encStr) := owns_turned hn (Turned.of_below (tu := fun i => wN.heap.size ≤ i) h.bel (fun i h _ => h)) (fun g hg e => by have := (World.ownsRow.lt hn g hg).2; omega)
    exact strs_of_row (owns_turned h1 hT (fun g hg hf => by have h3 := (World.ownsRow.lt h1 g hg).1; have h2 := hb g hf; omega))
theorem Rows3.kept {w1 wr w' : World} {F : Tab} {ks : List Key} {vw vf vn : Value} {vals : List Value} (h : Rows3 w1 wr F ks vw vf vn vals) (hT : Turned (fun _ => False) wr w') : Rows3 w1 w' F ks vw vf vn vals := by
  have hB : Below wr.heap.size wr w' := hT.below (Nat.le_refl _) (fun _ h => h.elim)
  have hc : ∀ {g i : Nat} {v : Value}, wr.cell? ⟨g, i, none⟩ = some v → w'.cell? ⟨g, i, none⟩ = some v := fun hv => (hB.cell (World.block_lt_of_cell? wr _ hv)).trans hv
  refine { bel := h.bel.trans hT (fun _ _ h => h), ow := ?_, fi := ?_, rd := fun i hi => (h.rd i hi).below hB, nm := h.nm.below hB }
  · obtain ⟨a, c, e, hp⟩ := h.ow
    refine ⟨a, c, e, fun h0 => ?_⟩
    obtain ⟨g, e2, hcc⟩ := hp h0
    exact ⟨g, e2, fun i hi => hc (hcc i hi)⟩
  · obtain ⟨a, c, e, hp⟩ := h.fi
    refine ⟨a, c, e, fun h0 => ?_⟩
    obtain ⟨g, e2, hcc⟩ := hp h0
    exact ⟨g, e2, fun i hi => hc (hcc i hi)⟩

end Go.Proofs.Ytcmnjiichkcmgaa
