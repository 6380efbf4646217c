/- scan: look, walked. -/
import Derived.Test.YtadlimfpcfdgcaaScnG
set_option linter.unusedVariables false
set_option linter.unusedSimpArgs false
namespace Go.Proofs.Ytadlimfpcfdgcaa
open Go Go.RowKit Go.BigFrame Go.Maps
open Scn (runOf wins winsTo firsts)
attribute [local go_sem] Oper.semAt_some

theorem grown_trans {w W W' : World} {mb : Nat} {row : Option Nat} (h : w.grownBy W (some mb)) (hg : W.grownBy W' row) (hr : ∀ r, row = some r → r = mb ∨ w.heap.size ≤ r) : w.grownBy W' (some mb) :=
  ⟨hg.os.trans h.os, hg.tape.trans h.tape, hg.output.trans h.output, Nat.le_trans h.size hg.size, fun k hk hne => (hg.block k (Nat.lt_of_lt_of_le hk h.size) (fun e => by
    rcases hr k e.symm with h1 | h1
    · exact hne (by rw [h1])
    · omega)).trans (h.block k hk hne)⟩
theorem has_of_size {D : DataW Unit} (hm : IsMap D) (h : Maps.size D = 0) (k : Lit) : has D k = false := by
  obtain ⟨es, rfl⟩ := hm
  rw [size_eq] at h
  have : es = [] := List.eq_nil_of_length_eq_zero h
  subst this
  rfl
/-- What look leaves. -/
structure LookW (w : World) (fb mb : Nat) (ks : List ByteArray) (ws : List ByteArray) (n0 : Nat) (W : World) : Prop where
  grown : w.grownBy W (some mb)
  cnt : ∃ c n, CountAt W mb ks c n ∧ n ≤ n0 + ws.length ∧ (∀ s, 0 < c s ↔ isIn s ks = true ∧ s ∈ ws) ∧ ∀ s, c s ≤ ws.length
  box : W.heap[fb]? = some (.cells #[.map (some mb)] 70 (0, 0))
theorem LookW.turn {w W W' : World} {fb mb n0 : Nat} {ks ws : List ByteArray} {row : Option Nat} (h : LookW w fb mb ks ws n0 W) (hg : W.grownBy W' row) (hr : ∀ r, row = some r → w.heap.size ≤ r) (hm : mb < w.heap.size) (hf : fb < w.heap.size) : LookW w fb mb ks ws n0 W' := by
  obtain ⟨h1, ⟨c, n, h2, h3⟩, h4⟩ := h
  refine ⟨grown_trans h1 hg (fun r e => .inr (hr r e)), ⟨c, n, h2.block (hg.block _ h2.lt fun e => by have := hr _ e.symm; omega), h3⟩, (hg.block _ (block_lt h4) fun e => by have := hr _ e.symm; omega).trans h4⟩
/-- Between two rounds of look. -/
structure LookR (w W0 : World) (fb mb : Nat) (ks : List ByteArray) (n0 : Nat) (pre : List T32) (W : World) : Prop where
  look : LookW w fb mb ks (pre.map (·.1)) n0 W
  bx : Boxed W w.heap.size 58 (.pointer (some ⟨fb, 0, none⟩))
  size : W0.heap.size ≤ W.heap.size
def LookPost (w : World) (fb mb : Nat) (ks : List ByteArray) (s : ByteArray) (n0 : Nat) (e : Ending) (W : World) : Prop := (∃ v, e = .returned v) ∧ LookW w fb mb ks (winB s) n0 W
set_option maxRecDepth 100000 in
set_option maxHeartbeats 4000000 in
theorem look_any (s : ByteArray) (fb mb n0 : Nat) (ks : List ByteArray) (w : World) (hs : s.size ≤ 1000000) (hbox : w.heap[fb]? = some (.cells #[.map (some mb)] 70 (0, 0))) (hne : fb ≠ mb)
    (hc : CountAt w mb ks (fun _ => 0) n0) (hn0 : n0 ≤ 1000000) :
    Calls Try.prog 23 #[.pointer (some ⟨fb, 0, none⟩), .string s] w (LookPost w fb mb ks s n0) := by
  refine (callsIn_wide (n := 6)).1 ?_
  have hro : Fence.wide.round = none := rfl
  have hfl := block_lt hbox
  have hml := hc.lt
  obtain ⟨D, hD1, hD2⟩ := hc
  have hcf : (w.alloc (.cells #[.pointer (some ⟨fb, 0, none⟩)] 58)).cell? ⟨fb, 0, none⟩ = some (.map (some mb)) := by
    rw [cell_of_row _ _ _ _ _ _ ((old_block w _ _ hfl).trans hbox)]; rfl
  have hDa := hD1.alloc (.cells #[.pointer (some ⟨fb, 0, none⟩)] 58)
  refine callsIn_of_wp_marks Try.func23 rfl trivial ?_ hro
  simp only [Try.ntmps23, List.size_toArray, List.length_cons, List.length_nil, Nat.reduceAdd, Nat.reduceSub, Array.replicate_succ, Array.replicate_zero, List.push_toArray, List.append_toArray, List.nil_append, List.cons_append]
  by_cases h0 : Maps.size D = 0
  · gi_wp2_with (gi_at_len; refine wpListIn_len_own _ rfl _ 68 rfl 9 3 Try.underlying68 _ mb n0 D rfl hDa ?_; rw [h0])
    refine ⟨_, results_none rfl _ _ _, ⟨_, rfl⟩, World.grownBy_alloc w _ (some mb), ⟨fun _ => 0, n0, CountAt.block ⟨D, hD1, hD2⟩ (old_block w _ _ hml), by omega, fun t => ⟨fun h => absurd h (Nat.lt_irrefl 0), fun h => ?_⟩, fun t => Nat.zero_le _⟩, (old_block w _ _ hfl).trans hbox⟩
    have h1 := (hD2 t).1
    rw [has_of_size hD1.isMap h0, h.1] at h1
    cases h1
  · by_cases h32 : s.size < 32
    · have h0i : ¬ (Maps.size D : Int) = 0 := by omega
      have h32i : (s.size : Int) < 32 := by omega
      gi_wp2_with (gi_at_len; refine wpListIn_len_own _ rfl _ 68 rfl 9 3 Try.underlying68 _ mb n0 D rfl hDa ?_)
      refine ⟨_, results_none rfl _ _ _, ⟨_, rfl⟩, World.grownBy_alloc w _ (some mb), ⟨fun _ => 0, n0, CountAt.block ⟨D, hD1, hD2⟩ (old_block w _ _ hml), by omega, fun t => ⟨fun h => absurd h (Nat.lt_irrefl 0), fun h => ?_⟩, fun t => Nat.zero_le _⟩, (old_block w _ _ hfl).trans hbox⟩
      have h1 := h.2
      rw [show winB s = [] by unfold winB; rw [Scn.wins_short _ _ _ (by rw [Array.length_toList]; exact h32)]; rfl] at h1
      cases h1
    · have h0i : ¬ (Maps.size D : Int) = 0 := by omega
      have h32i : ¬ (s.size : Int) < 32 := by omega
      gi_wp2_with (first | (gi_at_len; refine wpListIn_len_own _ rfl _ 68 rfl 9 3 Try.underlying68 _ mb n0 D rfl hDa ?_) | (refine ⟨trivial, ((callsIn_wide (n := 5)).2 (windows_any s _)).mono ?_⟩; rintro e W1 ⟨rfl, rfl⟩))
      have hbt : ((w.alloc (.cells #[.pointer (some ⟨fb, 0, none⟩)] 58)).alloc (.cells #[.string s] 9)).heap[w.heap.size + 1]? = some (.cells #[.string s] 9 (0, 0)) := by
        have := heap_alloc_new (w.alloc (.cells #[.pointer (some ⟨fb, 0, none⟩)] 58)) (.cells #[.string s] 9)
        simpa using this
      have hst : LookR w ((w.alloc (.cells #[.pointer (some ⟨fb, 0, none⟩)] 58)).alloc (.cells #[.string s] 9)) fb mb ks n0 [] ((w.alloc (.cells #[.pointer (some ⟨fb, 0, none⟩)] 58)).alloc (.cells #[.string s] 9)) :=
        ⟨⟨grown_trans (World.grownBy_alloc w _ (some mb)) (World.grownBy_alloc _ _ none) (fun r e => by cases e), ⟨fun _ => 0, n0, CountAt.block ⟨D, hD1, hD2⟩ ((old_block _ _ _ (by simp; omega)).trans (old_block w _ _ hml)), by omega, fun t => ⟨fun h => absurd h (Nat.lt_irrefl 0), fun h => by have := h.2; simp at this⟩, fun t => Nat.zero_le _⟩, (old_block _ _ _ (by simp; omega)).trans ((old_block w _ _ hfl).trans hbox)⟩, (Boxed.new w _ _).alloc _, Nat.le_refl _⟩
      have hz2 : ((w.alloc (.cells #[.pointer (some ⟨fb, 0, none⟩)] 58)).alloc (.cells #[.string s] 9)).heap.size = w.heap.size + 2 := by simp
      generalize (w.alloc (.cells #[.pointer (some ⟨fb, 0, none⟩)] 58)).alloc (.cells #[.string s] 9) = W2 at *
      clear hDa hcf hD1 hD2 hbox
      refine wpIn_rangeFunc_ownG hro (by omega) (gf := 31) (lb := #[.pointer (some ⟨w.heap.size + 1, 0, none⟩)]) rfl trivial (enters_of Try.func31 (by kernel_rfl) rfl)
        (windows_stops 5 (by omega) W2 (w.heap.size + 1) s (by unfold maxLen; omega) hbt) (fun h k => h.trans k) (fun W j o o' hj hjo _ _ => ((grownBy_putObj' W j o').block (w.heap.size + 1) (by have := block_lt hjo; omega) (fun e => by cases e; omega))) (Below.refl _ _) (fun _ => rfl)
        (LookR w W2 fb mb ks n0) (fun _ _ _ => False) ?own (fun _ _ _ _ _ hs _ _ => hs) hst
        (fun x => { tmps := #[Value.pointer (some { block := fb, off := 0 }), Value.string s,
          Value.pointer (some { block := w.heap.size, off := 0 }), undef, .string x.1, undef, undef,
          Value.pointer (some { block := fb, off := 0 }), Value.pointer (some { block := fb, off := 0 }),
          Value.pointer (some { block := fb, off := 0 }), Value.map (some mb), Value.int IntKind.i64 (Maps.size D : Int),
          Value.bool false, Value.bool false, Value.string s, Value.int IntKind.i64 (s.size : Int), Value.bool false,
          Value.bool false, Value.string s,
          Value.func (Fn.func 31) #[] #[Value.pointer (some { block := w.heap.size + 1, off := 0 })], .string x.1, undef,
          undef, undef, undef, undef, undef, undef, undef, undef, undef, undef, undef, undef, undef, undef, undef, undef], defers := [] }) ?assign ?body ?done ?stop
      case own =>
        intro q X Y row hs hg hr
        obtain ⟨hl, hbx, hz⟩ := hs
        exact ⟨hl.turn hg (fun r e => by have := (hr r e).1; omega) hml hfl, hbx.kept hg (fun e => by have := (hr _ e.symm).1; omega), Nat.le_trans hz hg.size⟩
      case assign =>
        intro l' x W K hK
        gi_wp2
        exact hK
      case body =>
        rintro l' pre x W ⟨hl, hbx, hz⟩ hlen
        have hcB := hbx.cell
        have hcf : W.cell? ⟨fb, 0, none⟩ = some (.map (some mb)) := by rw [cell_of_row _ _ _ _ _ _ hl.box]; rfl
        have hxs : x.1.size ≤ maxLen := by rw [x.2]; decide
        have hpl : pre.length ≤ 1000001 := by have := winB_len s; omega
        have HL := Lib.hid hl
        obtain ⟨hgr, ⟨c, n, ⟨D2, hD1, hD2⟩, hn, hc1, hc2⟩, hbx2⟩ := hl
        rw [List.length_map] at hn
        have hcx := hc2 x.1
        rw [List.length_map] at hcx
        have HC := Lib.hid (And.intro hc1 (And.intro hc2 hD2))
        have hh := (hD2 x.1).1
        clear hc1 hc2 hgr hbx2
        cases hin : isIn x.1 ks with
        | true =>
          rw [hin] at hh
          have hw1 : IntKind.i64.wrap ((c x.1 : Int) + 1) = (c x.1 : Int) + 1 := IntWalk.i64_in _ (by omega)
          gi_wp2_with (first | (gi_at_lookup; go_loud (refine wpListIn_lookup_own_ok_int _ rfl _ _ 68 rfl 9 3 .i64 keyStr Try.underlying68 Try.underlying3 (zeroInt _) mb n D2 rfl hD1 _ (kS x.1) rfl (Go.WideMaps.keyOf_string_mk Try.underlying9 hxs) ?_); intro cc hat _; have hcc : cc = (c x.1 : Int) := (by have h := hat.symm.trans (HC.out.2.2 x.1).2; simpa using h); subst hcc; rw [hh]) | (gi_at_mapUpdate; go_loud (refine wpListIn_mapUpdate_own _ rfl _ _ _ 68 rfl 9 3 keyStr Try.underlying68 _ mb n D2 rfl hD1 (by unfold maxLen; omega) _ _ (kS x.1) rfl rfl (Go.WideMaps.keyOf_string_mk Try.underlying9 hxs) (.lit (.int .i64 ((c x.1 + 1 : Nat) : Int))) [] (plainElem_int Try.underlying3 (by simp [Lit.wf, IntKind.min, IntKind.max, IntKind.signed, IntKind.bits]; omega)) ?_); intro w1 hown1 hgrow1))
          refine ⟨KeepsFrom.of_grownBy hgrow1 (fun j e => by cases e; omega), hgrow1.block (w.heap.size + 1) (by omega) (fun e => by injection e with e; omega),
            ⟨grown_trans HL.out.grown hgrow1 (fun r e => .inl (by cases e; rfl)), ⟨fun t => if t = x.1 then c x.1 + 1 else c t, n + 1, (CountAt.put (x := c x.1 + 1) hD1 HC.out.2.2 hown1).keys (fun t => ?_) (fun t => rfl), by simp; omega, fun t => ?_, fun t => ?_⟩, (hgrow1.block fb (by have := block_lt HL.out.box; omega) (fun e => by injection e with e; omega)).trans HL.out.box⟩,
            hbx.kept hgrow1 (fun e => by injection e with e; omega), Nat.le_trans hz hgrow1.size⟩
          · rw [isIn_snoc]
            by_cases e : x.1 = t
            · rw [← e, hin]; rfl
            · simp [e]
          · dsimp only
            rw [List.map_append, List.mem_append, List.map_cons, List.map_nil, List.mem_singleton]
            by_cases e : t = x.1
            · rw [if_pos e, e, hin]
              exact ⟨fun _ => ⟨rfl, .inr rfl⟩, fun _ => Nat.succ_pos _⟩
            · rw [if_neg e, HC.out.1 t]
              exact ⟨fun h => ⟨h.1, .inl h.2⟩, fun h => ⟨h.1, h.2.resolve_right e⟩⟩
          · dsimp only
            have h1 := HC.out.2.1 t
            rw [List.length_map] at h1
            rw [List.length_map, List.length_append, List.length_singleton]
            split
            · omega
            · omega
        | false =>
          rw [hin] at hh
          gi_wp2_with (gi_at_lookup; go_loud (refine wpListIn_lookup_own_ok_int _ rfl _ _ 68 rfl 9 3 .i64 keyStr Try.underlying68 Try.underlying3 (zeroInt _) mb n D2 rfl hD1 _ (kS x.1) rfl (Go.WideMaps.keyOf_string_mk Try.underlying9 hxs) ?_); intro cc hat _; rw [hh])
          refine ⟨KeepsFrom.refl _ _, rfl, ⟨HL.out.grown, ⟨c, n, ⟨D2, hD1, HC.out.2.2⟩, by simp; omega, fun t => ?_, fun t => by have := HC.out.2.1 t; simp at this ⊢; omega⟩, HL.out.box⟩, hbx, hz⟩
          rw [HC.out.1 t, List.map_append, List.mem_append, List.map_cons, List.map_nil, List.mem_singleton]
          constructor
          · rintro ⟨h1, h2⟩; exact ⟨h1, .inl h2⟩
          · rintro ⟨h1, h2 | h2⟩
            · exact ⟨h1, h2⟩
            · subst h2; rw [hin] at h1; cases h1
      case done =>
        rintro D' ys W hD hS ⟨hl, hbx, hz⟩ hK
        gi_wp2
        refine ⟨by simp, .inl ⟨_, _, rfl, run_takeDeferred hK, ?_⟩⟩
        refine ⟨_, results_none rfl _ _ _, ⟨_, rfl⟩, ?_⟩
        rw [hS] at hl
        exact hl.turn (grownBy_putObj' W D' _) (fun r e => by cases e; omega) hml hfl
      case stop =>
        rintro D' c pre W _ _ h _
        exact h.elim
end Go.Proofs.Ytadlimfpcfdgcaa
