/- scan: look of a map that counted; a tree, walked. -/
import Derived.Test.YtadlimfpcfdgcaaScnM
import Derived.Test.YtadlimfpcfdgcaaFilSi
set_option linter.unusedVariables false
set_option linter.unusedSimpArgs false
namespace Go.Proofs.Ytadlimfpcfdgcaa
open Go Go.RowKit Go.BigFrame Go.Maps
open Scn (runOf wins winsTo firsts)
open Fil (Es Nd Sp)
attribute [local go_sem] Oper.semAt_some

/-- The map's counts tell just the keys that stand in a list. -/
def CntAt (w : World) (mb : Nat) (ks L : List ByteArray) (n0 : Nat) : Prop :=
  ∃ c n, CountAt w mb ks c n ∧ n ≤ n0 + L.length ∧ (∀ s, 0 < c s ↔ isIn s ks = true ∧ s ∈ L) ∧ ∀ s, c s ≤ L.length
/-- Between two rounds of look, of a map that counted. -/
structure LookS (w W0 : World) (fb mb : Nat) (ks L : List ByteArray) (n0 : Nat) (pre : List T32) (W : World) : Prop where
  look : LookW w fb mb ks (L ++ pre.map (·.1)) n0 W
  bx : Boxed W w.heap.size 58 (.pointer (some ⟨fb, 0, none⟩))
  size : W0.heap.size ≤ W.heap.size
def LookQ (w : World) (fb mb : Nat) (ks L : List ByteArray) (s : ByteArray) (n0 : Nat) (e : Ending) (W : World) : Prop := (∃ v, e = .returned v) ∧ LookW w fb mb ks (L ++ winB s) n0 W
set_option maxRecDepth 100000 in
set_option maxHeartbeats 4000000 in
theorem look2_any (s : ByteArray) (fb mb n0 : Nat) (ks L : List ByteArray) (w : World) (hs : s.size ≤ 1000000) (hbox : w.heap[fb]? = some (.cells #[.map (some mb)] 70 (0, 0))) (hne : fb ≠ mb)
    (hc : CntAt w mb ks L n0) (hn0 : n0 ≤ 1000000) (hLz : L.length ≤ 1000000) :
    Calls Try.prog 23 #[.pointer (some ⟨fb, 0, none⟩), .string s] w (LookQ w fb mb ks L s n0) := by
  refine (callsIn_wide (n := 6)).1 ?_
  have hro : Fence.wide.round = none := rfl
  have hfl := block_lt hbox
  obtain ⟨c0, n1, hc0, hn1, hc01, hc02⟩ := hc
  have hml := hc0.lt
  obtain ⟨D, hD1, hD2⟩ := hc0
  have hcf : (w.alloc (.cells #[.pointer (some ⟨fb, 0, none⟩)] 58)).cell? ⟨fb, 0, none⟩ = some (.map (some mb)) := by
    rw [cell_of_row _ _ _ _ _ _ ((old_block w _ _ hfl).trans hbox)]; rfl
  have hDa := hD1.alloc (.cells #[.pointer (some ⟨fb, 0, none⟩)] 58)
  refine callsIn_of_wp_marks Try.func23 rfl trivial ?_ hro
  simp only [Try.ntmps23, List.size_toArray, List.length_cons, List.length_nil, Nat.reduceAdd, Nat.reduceSub, Array.replicate_succ, Array.replicate_zero, List.push_toArray, List.append_toArray, List.nil_append, List.cons_append]
  by_cases h0 : Maps.size D = 0
  · gi_wp2_with (gi_at_len; refine wpListIn_len_own _ rfl _ 68 rfl 9 3 Try.underlying68 _ mb n1 D rfl hDa ?_; rw [h0])
    refine ⟨_, results_none rfl _ _ _, ⟨_, rfl⟩, World.grownBy_alloc w _ (some mb), ⟨c0, n1, CountAt.block ⟨D, hD1, hD2⟩ (old_block w _ _ hml), by rw [List.length_append]; omega, fun t => ?_, fun t => by rw [List.length_append]; have := hc02 t; omega⟩, (old_block w _ _ hfl).trans hbox⟩
    have h1 := (hD2 t).1
    rw [has_of_size hD1.isMap h0] at h1
    rw [hc01 t, ← h1]
    simp
  · by_cases h32 : s.size < 32
    · have h0i : ¬ (Maps.size D : Int) = 0 := by omega
      have h32i : (s.size : Int) < 32 := by omega
      gi_wp2_with (gi_at_len; refine wpListIn_len_own _ rfl _ 68 rfl 9 3 Try.underlying68 _ mb n1 D rfl hDa ?_)
      refine ⟨_, results_none rfl _ _ _, ⟨_, rfl⟩, World.grownBy_alloc w _ (some mb), ⟨c0, n1, CountAt.block ⟨D, hD1, hD2⟩ (old_block w _ _ hml), by rw [List.length_append]; omega, fun t => ?_, fun t => by rw [List.length_append]; have := hc02 t; omega⟩, (old_block w _ _ hfl).trans hbox⟩
      rw [show winB s = [] by unfold winB; rw [Scn.wins_short _ _ _ (by rw [Array.length_toList]; exact h32)]; rfl, List.append_nil]
      exact hc01 t
    · have h0i : ¬ (Maps.size D : Int) = 0 := by omega
      have h32i : ¬ (s.size : Int) < 32 := by omega
      gi_wp2_with (first | (gi_at_len; refine wpListIn_len_own _ rfl _ 68 rfl 9 3 Try.underlying68 _ mb n1 D rfl hDa ?_) | (refine ⟨trivial, ((callsIn_wide (n := 5)).2 (windows_any s _)).mono ?_⟩; rintro e W1 ⟨rfl, rfl⟩))
      have hbt : ((w.alloc (.cells #[.pointer (some ⟨fb, 0, none⟩)] 58)).alloc (.cells #[.string s] 9)).heap[w.heap.size + 1]? = some (.cells #[.string s] 9 (0, 0)) := by
        have := heap_alloc_new (w.alloc (.cells #[.pointer (some ⟨fb, 0, none⟩)] 58)) (.cells #[.string s] 9)
        simpa using this
      have hst : LookS w ((w.alloc (.cells #[.pointer (some ⟨fb, 0, none⟩)] 58)).alloc (.cells #[.string s] 9)) fb mb ks L n0 [] ((w.alloc (.cells #[.pointer (some ⟨fb, 0, none⟩)] 58)).alloc (.cells #[.string s] 9)) :=
        ⟨⟨grown_trans (World.grownBy_alloc w _ (some mb)) (World.grownBy_alloc _ _ none) (fun r e => by cases e), ⟨c0, n1, CountAt.block ⟨D, hD1, hD2⟩ ((old_block _ _ _ (by simp; omega)).trans (old_block w _ _ hml)), by simp; omega, fun t => by simpa using hc01 t, fun t => by simpa using hc02 t⟩, (old_block _ _ _ (by simp; omega)).trans ((old_block w _ _ hfl).trans hbox)⟩, (Boxed.new w _ _).alloc _, Nat.le_refl _⟩
      have hz2 : ((w.alloc (.cells #[.pointer (some ⟨fb, 0, none⟩)] 58)).alloc (.cells #[.string s] 9)).heap.size = w.heap.size + 2 := by simp
      generalize (w.alloc (.cells #[.pointer (some ⟨fb, 0, none⟩)] 58)).alloc (.cells #[.string s] 9) = W2 at *
      clear hDa hcf hD1 hD2 hbox
      refine wpIn_rangeFunc_ownG hro (by omega) (gf := 31) (lb := #[.pointer (some ⟨w.heap.size + 1, 0, none⟩)]) rfl trivial (enters_of Try.func31 (by kernel_rfl) rfl)
        (windows_stops 5 (by omega) W2 (w.heap.size + 1) s (by unfold maxLen; omega) hbt) (fun h k => h.trans k) (fun W j o o' hj hjo _ _ => ((grownBy_putObj' W j o').block (w.heap.size + 1) (by have := block_lt hjo; omega) (fun e => by cases e; omega))) (Below.refl _ _) (fun _ => rfl)
        (LookS w W2 fb mb ks L n0) (fun _ _ _ => False) ?own (fun _ _ _ _ _ hs _ _ => hs) hst
        (fun x => { tmps := #[Value.pointer (some { block := fb, off := 0 }), Value.string s,
          Value.pointer (some { block := w.heap.size, off := 0 }), undef, .string x.1, undef, undef,
          Value.pointer (some { block := fb, off := 0 }), Value.pointer (some { block := fb, off := 0 }),
          Value.pointer (some { block := fb, off := 0 }), Value.map (some mb), Value.int IntKind.i64 (Maps.size D : Int),
          Value.bool false, Value.bool false, Value.string s, Value.int IntKind.i64 (s.size : Int), Value.bool false,
          Value.bool false, Value.string s,
          Value.func (Fn.func 31) #[] #[Value.pointer (some { block := w.heap.size + 1, off := 0 })], .string x.1, undef,
          undef, undef, undef, undef, undef, undef, undef, undef, undef, undef, undef, undef, undef, undef, undef, undef], defers := [] }) ?assign ?body ?done ?stop
      case own =>
        intro q X Y row hs hg hr
        obtain ⟨hl, hbx, hz⟩ := hs
        exact ⟨hl.turn hg (fun r e => by have := (hr r e).1; omega) hml hfl, hbx.kept hg (fun e => by have := (hr _ e.symm).1; omega), Nat.le_trans hz hg.size⟩
      case assign =>
        intro l' x W K hK
        gi_wp2
        exact hK
      case body =>
        rintro l' pre x W ⟨hl, hbx, hz⟩ hlen
        have hcB := hbx.cell
        have hcf : W.cell? ⟨fb, 0, none⟩ = some (.map (some mb)) := by rw [cell_of_row _ _ _ _ _ _ hl.box]; rfl
        have hxs : x.1.size ≤ maxLen := by rw [x.2]; decide
        have hpl : pre.length ≤ 1000001 := by have := winB_len s; omega
        have HL := Lib.hid hl
        obtain ⟨hgr, ⟨c, n, ⟨D2, hD1, hD2⟩, hn, hc1, hc2⟩, hbx2⟩ := hl
        rw [List.length_append, List.length_map] at hn
        have hcx := hc2 x.1
        rw [List.length_append, List.length_map] at hcx
        have HC := Lib.hid (And.intro hc1 (And.intro hc2 hD2))
        have hh := (hD2 x.1).1
        clear hc1 hc2 hgr hbx2
        cases hin : isIn x.1 ks with
        | true =>
          rw [hin] at hh
          have hw1 : IntKind.i64.wrap ((c x.1 : Int) + 1) = (c x.1 : Int) + 1 := IntWalk.i64_in _ (by omega)
          gi_wp2_with (first | (gi_at_lookup; go_loud (refine wpListIn_lookup_own_ok_int _ rfl _ _ 68 rfl 9 3 .i64 keyStr Try.underlying68 Try.underlying3 (zeroInt _) mb n D2 rfl hD1 _ (kS x.1) rfl (Go.WideMaps.keyOf_string_mk Try.underlying9 hxs) ?_); intro cc hat _; have hcc : cc = (c x.1 : Int) := (by have h := hat.symm.trans (HC.out.2.2 x.1).2; simpa using h); subst hcc; rw [hh]) | (gi_at_mapUpdate; go_loud (refine wpListIn_mapUpdate_own _ rfl _ _ _ 68 rfl 9 3 keyStr Try.underlying68 _ mb n D2 rfl hD1 (by unfold maxLen; omega) _ _ (kS x.1) rfl rfl (Go.WideMaps.keyOf_string_mk Try.underlying9 hxs) (.lit (.int .i64 ((c x.1 + 1 : Nat) : Int))) [] (plainElem_int Try.underlying3 (by simp [Lit.wf, IntKind.min, IntKind.max, IntKind.signed, IntKind.bits]; omega)) ?_); intro w1 hown1 hgrow1))
          refine ⟨KeepsFrom.of_grownBy hgrow1 (fun j e => by cases e; omega), hgrow1.block (w.heap.size + 1) (by omega) (fun e => by injection e with e; omega),
            ⟨grown_trans HL.out.grown hgrow1 (fun r e => .inl (by cases e; rfl)), ⟨fun t => if t = x.1 then c x.1 + 1 else c t, n + 1, (CountAt.put (x := c x.1 + 1) hD1 HC.out.2.2 hown1).keys (fun t => ?_) (fun t => rfl), by simp; omega, fun t => ?_, fun t => ?_⟩, (hgrow1.block fb (by have := block_lt HL.out.box; omega) (fun e => by injection e with e; omega)).trans HL.out.box⟩,
            hbx.kept hgrow1 (fun e => by injection e with e; omega), Nat.le_trans hz hgrow1.size⟩
          · rw [isIn_snoc]
            by_cases e : x.1 = t
            · rw [← e, hin]; rfl
            · simp [e]
          · dsimp only
            rw [List.map_append, ← List.append_assoc, List.mem_append, List.map_cons, List.map_nil, List.mem_singleton]
            by_cases e : t = x.1
            · rw [if_pos e, e, hin]
              exact ⟨fun _ => ⟨rfl, .inr rfl⟩, fun _ => Nat.succ_pos _⟩
            · rw [if_neg e, HC.out.1 t]
              exact ⟨fun h => ⟨h.1, .inl h.2⟩, fun h => ⟨h.1, h.2.resolve_right e⟩⟩
          · dsimp only
            have h1 := HC.out.2.1 t
            rw [List.length_append, List.length_map] at h1
            rw [List.length_append, List.length_map, List.length_append, List.length_singleton]
            split
            · omega
            · omega
        | false =>
          rw [hin] at hh
          gi_wp2_with (gi_at_lookup; go_loud (refine wpListIn_lookup_own_ok_int _ rfl _ _ 68 rfl 9 3 .i64 keyStr Try.underlying68 Try.underlying3 (zeroInt _) mb n D2 rfl hD1 _ (kS x.1) rfl (Go.WideMaps.keyOf_string_mk Try.underlying9 hxs) ?_); intro cc hat _; rw [hh])
          refine ⟨KeepsFrom.refl _ _, rfl, ⟨HL.out.grown, ⟨c, n, ⟨D2, hD1, HC.out.2.2⟩, by simp; omega, fun t => ?_, fun t => by have := HC.out.2.1 t; simp at this ⊢; omega⟩, HL.out.box⟩, hbx, hz⟩
          rw [HC.out.1 t, List.map_append, ← List.append_assoc, List.mem_append (s := L ++ pre.map (·.1)), List.map_cons, List.map_nil, List.mem_singleton]
          constructor
          · rintro ⟨h1, h2⟩; exact ⟨h1, .inl h2⟩
          · rintro ⟨h1, h2 | h2⟩
            · exact ⟨h1, h2⟩
            · subst h2; rw [hin] at h1; cases h1
      case done =>
        rintro D' ys W hD hS ⟨hl, hbx, hz⟩ hK
        gi_wp2
        refine ⟨by simp, .inl ⟨_, _, rfl, run_takeDeferred hK, ?_⟩⟩
        refine ⟨_, results_none rfl _ _ _, ⟨_, rfl⟩, ?_⟩
        rw [hS] at hl
        exact hl.turn (grownBy_putObj' W D' _) (fun r e => by cases e; omega) hml hfl
      case stop =>
        rintro D' c pre W _ _ h _
        exact h.elim
theorem LookW.next {w W W2 : World} {fb mb n0 : Nat} {ks L L2 : List ByteArray} (h : LookW w fb mb ks L n0 W) (h2 : LookW W fb mb ks L2 n0 W2) : LookW w fb mb ks L2 n0 W2 :=
  ⟨grown_trans h.grown h2.grown (fun r e => .inl (by cases e; rfl)), h2.cnt, h2.box⟩
theorem LookW.keep {w W : World} {fb mb n0 B : Nat} {ks L : List ByteArray} (h : LookW w fb mb ks L n0 W) (hB : B ≤ w.heap.size) (hm : B ≤ mb) : Below B w W := (Below.refl B w).grown h.grown hB (fun k e => by cases e; exact hm)
/-- Lists gathered of a tree. -/
def gE (f : ByteArray → List ByteArray) : Es → List ByteArray
  | .nil => []
  | .cons nm _ d s n => f nm ++ (f d ++ gE f s) ++ gE f n
def gN (f : ByteArray → List ByteArray) (nd : Nd) : List ByteArray := f nd.d ++ gE f nd.es
def gTo (f : ByteArray → List ByteArray) : Es → Nat → List ByteArray
  | .nil, _ => []
  | .cons _ _ _ _ _, 0 => []
  | .cons nm _ d s n, i + 1 => f nm ++ (f d ++ gE f s) ++ gTo f n i
theorem gTo_zero (f : ByteArray → List ByteArray) (es : Es) : gTo f es 0 = [] := by cases es <;> rfl
theorem gTo_step (f : ByteArray → List ByteArray) : ∀ (es : Es) (i : Nat), i < es.len → gTo f es (i + 1) = gTo f es i ++ (f (nmE es i) ++ gN f (kidE es i))
  | .nil, i, h => by simp [Es.len] at h
  | .cons nm k d s n, 0, _ => by simp [gTo, gTo_zero, nmE, kidE, gN]
  | .cons nm k d s n, i + 1, h => by
    have := gTo_step f n i (by simp [Es.len] at h; omega)
    simp only [gTo, nmE, kidE] at this ⊢
    rw [this]
    simp only [List.append_assoc]
theorem gTo_all (f : ByteArray → List ByteArray) : ∀ es : Es, gTo f es es.len = gE f es
  | .nil => rfl
  | .cons nm k d s n => by
    have := gTo_all f n
    simp only [Es.len, gTo, gE, this]
theorem gE_mem {f g : ByteArray → List ByteArray} (h : ∀ s x, x ∈ f s ↔ x ∈ g s) (x : ByteArray) : ∀ es : Es, x ∈ gE f es ↔ x ∈ gE g es
  | .nil => Iff.rfl
  | .cons nm k d s n => by
    have h1 := gE_mem h x s
    have h2 := gE_mem h x n
    simp only [gE, List.mem_append, h nm x, h d x, h1, h2]
theorem gN_mem {f g : ByteArray → List ByteArray} (h : ∀ s x, x ∈ f s ↔ x ∈ g s) (x : ByteArray) (nd : Nd) : x ∈ gN f nd ↔ x ∈ gN g nd := by
  unfold gN
  rw [List.mem_append, List.mem_append, h, gE_mem h]
theorem all_win (s x : ByteArray) : x ∈ allF s ↔ x ∈ winB s := Scn.mem_firsts _ _
theorem gE_len {f : ByteArray → List ByteArray} (h : ∀ s, (f s).length ≤ s.size + 1) : ∀ es : Es, (gE f es).length ≤ 2 * weiE es
  | .nil => Nat.zero_le _
  | .cons nm k d s n => by
    have h1 := gE_len h s
    have h2 := gE_len h n
    have h3 := h nm
    have h4 := h d
    simp only [gE, List.length_append, weiE]
    omega
theorem gN_len {f : ByteArray → List ByteArray} (h : ∀ s, (f s).length ≤ s.size + 1) (nd : Nd) : (gN f nd).length ≤ 2 * weiN nd := by
  have h1 := gE_len h nd.es
  have h2 := h nd.d
  unfold gN weiN
  rw [List.length_append]
  omega
theorem gTo_len {f : ByteArray → List ByteArray} (h : ∀ s, (f s).length ≤ s.size + 1) (es : Es) : ∀ i, i ≤ es.len → (gTo f es i).length ≤ 2 * weiTo es i
  | 0, _ => by rw [gTo_zero]; exact Nat.zero_le _
  | i + 1, hi => by
    have h1 := gTo_len h es i (by omega)
    have h2 := h (nmE es i)
    have h3 := gE_len h (kidE es i).es
    have h4 := h (kidE es i).d
    rw [gTo_step f es i (by omega), weiTo_step es i (by omega)]
    unfold gN weiN
    simp only [List.length_append]
    omega
theorem wei_kid (es : Es) (i : Nat) (hi : i < es.len) : weiTo es i + (nmE es i).size + weiN (kidE es i) ≤ weiE es := by
  rw [← weiTo_step es i hi]
  exact weiTo_le es (i + 1)
def TreeQ (w : World) (fb mb : Nat) (ks L : List ByteArray) (nd : Nd) (n0 : Nat) (e : Ending) (W : World) : Prop := (∃ v, e = .returned v) ∧ LookW w fb mb ks (L ++ gN winB nd) n0 W
set_option maxRecDepth 100000 in
set_option maxHeartbeats 4000000 in
theorem tree_any : ∀ (m : Nat) (nd : Nd), nd.es.count ≤ m → weiN nd ≤ 400000 → ∀ (L ks : List ByteArray) (fb mb n0 : Nat) (w : World) (B : Nat), B ≤ w.heap.size → B ≤ fb → B ≤ mb → fb ≠ mb →
    w.heap[fb]? = some (.cells #[.map (some mb)] 70 (0, 0)) → CntAt w mb ks L n0 → n0 ≤ 1000000 → L.length + 2 * weiN nd ≤ 1000000 → ∀ v, NdV w B v nd →
    Calls Try.prog 30 #[.pointer (some ⟨fb, 0, none⟩), v] w (TreeQ w fb mb ks L nd n0) := by
  intro m
  induction m using Nat.strongRecOn with
  | ind m ih =>
  intro nd hm hwei L ks fb mb n0 w B hB hfB hmB hne hbox hcnt hn0 hLz v hv
  obtain ⟨ev, rfl, hes, hd, hk⟩ := hv
  obtain ⟨A, c, rfl, hlc, hcm⟩ := hes.form
  have HIH := Lib.hid (And.intro ih hm)
  have hfl := block_lt hbox
  have hml : mb < w.heap.size := by obtain ⟨c0, n1, h, _⟩ := hcnt; exact h.lt
  clear ih hm
  have HP := Lib.hid (fun (W : World) (v : Value) (h : LookW w fb mb ks (L ++ gN winB nd) n0 W) => show TreeQ w fb mb ks L nd n0 (.returned v) W from ⟨⟨v, rfl⟩, h⟩)
  generalize TreeQ w fb mb ks L nd n0 = post at *
  go_enter Try.func30, Try.ntmps30
  have hg0 : (w.alloc (ndCells nd.k nd.d (.slice A nd.es.len c))).heap[w.heap.size]? = some (ndCells nd.k nd.d (.slice A nd.es.len c)) := heap_alloc_new _ _
  have hl0 : LookW w fb mb ks L n0 (w.alloc (ndCells nd.k nd.d (.slice A nd.es.len c))) := by
    obtain ⟨c0, n1, h1, h2⟩ := hcnt
    exact ⟨World.grownBy_alloc w _ (some mb), ⟨c0, n1, h1.block (old_block w _ _ h1.lt), h2⟩, (old_block w _ _ hfl).trans hbox⟩
  have hsz : (w.alloc (ndCells nd.k nd.d (.slice A nd.es.len c))).heap.size = w.heap.size + 1 := by simp
  go_upto_region 1 with (fail)
  change Code.wp _ _ _ _ (w.alloc (ndCells nd.k nd.d (.slice A nd.es.len c)))
  generalize w.alloc (ndCells nd.k nd.d (.slice A nd.es.len c)) = W1 at *
  obtain ⟨hx0, hx1, hx2, _⟩ := nd_box hg0
  have HES := Lib.hid hes
  have HL0 := Lib.hid hl0
  have hds : nd.d.size ≤ 1000000 := by unfold weiN at hwei; omega
  have HLK := Lib.hid (look2_any nd.d fb mb n0 ks L W1 hds hl0.box hne hl0.cnt hn0 (by omega))
  clear hes hcnt hbox hl0
  go_wp2_with (go_at_call 23; refine HLK.out.mono ?_; rintro e W2 ⟨⟨ve, rfl⟩, hl2⟩; have hx3 : W2.cell? ⟨w.heap.size, 2, none⟩ = some (.slice A nd.es.len c) := (nd_box ((hl2.grown.block _ (by omega) (fun e => by injection e with e; omega)).trans hg0)).2.2.1)
  have HW2 := Lib.hid (HL0.out.next hl2)
  clear hl2 hx0 hx1 hx2 hx3 hg0 hsz HLK HL0
  have hwe : weiE nd.es ≤ 400000 := by unfold weiN at hwei; omega
  have hwb := winB_len nd.d
  go_loopg [5, 13] nd.es.len (fun g u5 u13 wx => ∃ i : Nat, u13 = .int .i64 (i : Int) ∧ i + g = nd.es.len ∧ Hid (LookW w fb mb ks (L ++ winB nd.d ++ gTo winB nd.es i) n0 wx))
  case atStart => exact ⟨0, rfl, by omega, Lib.hid (by rw [gTo_zero, List.append_nil]; exact HW2.out)⟩
  case round =>
    obtain ⟨i, rfl, hig, HL⟩ := hrel
    have hwr := HL.out.grown.size
    cases gk with
    | zero =>
      obtain rfl : i = nd.es.len := by omega
      have h := HL.out
      rw [gTo_all, List.append_assoc] at h
      have HQ := Lib.hid (fun v => HP.out wr v h)
      clear h
      go_wp2
      go_end0
      exact HQ.out _
    | succ g =>
      have hil : i < nd.es.len := by omega
      have hBk := HL.out.keep hB hmB
      obtain ⟨ab, ao, rfl, hlt, hcs⟩ := es_addr HES.out (by omega)
      obtain ⟨hk1, hk2, hk3, hk4, A4, c4, hk5, hk6⟩ := kid_at hcs hil hlt
      obtain ⟨hk0, hk7⟩ := name_at hcs hil
      have hq0 : wr.cell? ⟨ab, ao + i * 4, none⟩ = _ := (hBk.cell (p := ⟨ab, ao + i * 4, none⟩) hlt).trans hk0
      have hq1 : wr.cell? ⟨ab, ao + i * 4 + 1, none⟩ = _ := (hBk.cell (p := ⟨ab, ao + i * 4 + 1, none⟩) hlt).trans hk1
      have hq2 : wr.cell? ⟨ab, ao + i * 4 + 2, none⟩ = _ := (hBk.cell (p := ⟨ab, ao + i * 4 + 2, none⟩) hlt).trans hk2
      have hq3 : wr.cell? ⟨ab, ao + i * 4 + 3, none⟩ = _ := (hBk.cell (p := ⟨ab, ao + i * 4 + 3, none⟩) hlt).trans hk5
      have hkc := kid_count nd.es i hil
      have hwk := wei_kid nd.es i hil
      have hst := gTo_step winB nd.es i hil
      have hgl := gTo_len winB_len nd.es i (by omega)
      have hgk := gN_len winB_len (kidE nd.es i)
      have hfn := winB_len (nmE nd.es i)
      have hLz1 : (L ++ winB nd.d ++ gTo winB nd.es i).length + (winB (nmE nd.es i)).length + 2 * weiN (kidE nd.es i) ≤ 1000000 := by
        simp only [List.length_append]
        unfold weiN at hLz
        have : weiN (kidE nd.es i) ≤ weiE nd.es := by omega
        omega
      have HREC := Lib.hid (HIH.out.1 (kidE nd.es i).es.count (by have := HIH.out.2; omega) (kidE nd.es i) (Nat.le_refl _) (by omega) (L ++ winB nd.d ++ gTo winB nd.es i ++ winB (nmE nd.es i)) ks fb mb n0)
      have HK := Lib.hid (fun (W : World) (hW : Below B w W) => show NdV W B (.agg #[.int .u8 ((kidE nd.es i).k : Int), .string (kidE nd.es i).d, .slice A4 (kidE nd.es i).es.len c4]) (kidE nd.es i) from ⟨_, rfl, hk6.keep hW, hk3, hk4⟩)
      have hnz : (nmE nd.es i).size ≤ 1000000 := by omega
      have HST := Lib.hid (show L ++ winB nd.d ++ gTo winB nd.es (i + 1) = (L ++ winB nd.d ++ gTo winB nd.es i ++ winB (nmE nd.es i)) ++ gN winB (kidE nd.es i) by rw [hst]; simp only [List.append_assoc])
      generalize L ++ winB nd.d ++ gTo winB nd.es i = L1 at *
      generalize kidE nd.es i = kd at *
      generalize nmE nd.es i = nmk at *
      have hl4 : LookW w fb mb ks L1 n0 (wr.alloc (.cells #[.string nmk, .int .u8 (kd.k : Int), .string kd.d, .slice A4 kd.es.len c4] 43)) := HL.out.turn (World.grownBy_alloc wr _ none) (fun r e => by cases e) hml hfl
      have hg4 : (wr.alloc (.cells #[.string nmk, .int .u8 (kd.k : Int), .string kd.d, .slice A4 kd.es.len c4] 43)).heap[wr.heap.size]? = some (.cells #[.string nmk, .int .u8 (kd.k : Int), .string kd.d, .slice A4 kd.es.len c4] 43 (0, 0)) := heap_alloc_new _ _
      have hz4 : (wr.alloc (.cells #[.string nmk, .int .u8 (kd.k : Int), .string kd.d, .slice A4 kd.es.len c4] 43)).heap.size = wr.heap.size + 1 := by simp
      have HLK := Lib.hid (look2_any nmk fb mb n0 ks L1 _ hnz hl4.box hne hl4.cnt hn0 (by omega))
      have HL4 := Lib.hid hl4
      have hw2 : IntKind.i64.wrap ((i : Int) + 1) = (i : Int) + 1 := IntWalk.i64_in _ (by unfold maxLen at hcm; omega)
      have hiI : (i : Int) < (nd.es.len : Int) := by omega
      have hi0 : (0 : Int) ≤ (i : Int) := by omega
      clear hkc hwk hst hgl hgk hfn hcs hk0 hk1 hk2 hk3 hk4 hk5 hk6 hk7 hl4 hBk
      go_upto_region 5 with (fail)
      generalize World.alloc wr _ = W4 at *
      have HEB := Lib.hid (fun (W : World) (h : W.heap[wr.heap.size]? = some (.cells #[.string nmk, .int .u8 (kd.k : Int), .string kd.d, .slice A4 kd.es.len c4] 43 (0, 0))) => show W.cell? ⟨wr.heap.size, 0, none⟩ = some (.string nmk) ∧ W.cell? ⟨wr.heap.size, 1, none⟩ = some (.int .u8 (kd.k : Int)) ∧ W.cell? ⟨wr.heap.size, 2, none⟩ = some (.string kd.d) ∧ W.cell? ⟨wr.heap.size, 3, none⟩ = some (.slice A4 kd.es.len c4) from by
        refine ⟨?_, ?_, ?_, ?_⟩ <;> (rw [cell_of_row _ _ _ _ _ _ h]; rfl))
      obtain ⟨hc0, _, _, _⟩ := HEB.out W4 hg4
      have HG4 := Lib.hid hg4
      clear hq0 hq1 hq2 hq3 hg4
      go_upto_region 6 with (go_at_call 23; refine HLK.out.mono ?_; rintro e W5 ⟨⟨ve5, rfl⟩, hl5⟩)
      obtain ⟨_, hc1, hc2, hc3⟩ := HEB.out W5 ((hl5.grown.block _ (by omega) (fun e => by injection e with e; omega)).trans HG4.out)
      have HL5 := Lib.hid (HL4.out.next hl5)
      have hz5 := hl5.grown.size
      have HTR := Lib.hid (HREC.out W5 B (by omega) hfB hmB hne HL5.out.box HL5.out.cnt hn0 (by rw [List.length_append]; omega) _ (HK.out W5 (HL5.out.keep hB hmB)))
      clear hc0 hl5 hz5
      go_wp2_with (go_at_call 30; refine HTR.out.mono ?_; rintro e W6 ⟨⟨ve6, rfl⟩, hl6⟩)
      go_roundg g
      case measure => omega
      case rel => exact ⟨i + 1, by simp, by omega, Lib.hid (by rw [HST.out]; exact HL5.out.next hl6)⟩
end Go.Proofs.Ytadlimfpcfdgcaa
