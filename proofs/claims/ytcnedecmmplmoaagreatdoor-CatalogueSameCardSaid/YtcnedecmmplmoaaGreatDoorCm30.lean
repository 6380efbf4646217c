/- catalogue: what reads a line, by its first word. -/
import Derived.Test.YtcnedecmmplmoaaGreatDoorCm29
import Derived.Test.YtcnedecmmplmoaaGreatDoorCm25
set_option linter.unusedVariables false
set_option linter.unusedSimpArgs false
namespace Go.Proofs.YtcnedecmmplmoaaGreatDoor
open Go Go.RowKit Go.BigFrame Go.Maps
open Ver (cmpV BL parts brk)
set_option maxRecDepth 100000

theorem wpList_insert_own {P : Program} (w : World) {ops : Array Oper} {rest : List Oper} {o : Oper} {a : Act} {Q : Exit → Act → World → Prop} (hgd : o.guard = none) (m x y : Operand) (t : TypeId) (ho : o.op = .insert t m x y)
    (k e : TypeId) (K : Keyed P k) (ht : P.underlying t = some (.map k e)) (R : Value → Option (DataW Unit × List MemPlace)) (b n : Nat) (D : DataW Unit) (hm : a.eval m = .map (some b)) (hown : w.ownsMap P k R b n D) (hn : n < maxLen)
    (key : Value) (kl : Lit) (hx : a.eval x = key) (hkey : keyOf P k key = some kl) (val : Value) (d : DataW Unit) (ps : List MemPlace) (hy : a.eval y = val) (hv : R val = some (d, ps))
    (h : ∀ w', w'.ownsMap P k R b (n + 1) (D.put kl d) → w.grownBy w' (some b) → wpList P ops Q rest (a.put o.dst undef) w') : wpList P ops Q (o :: rest) a w :=
  wpList_plain hgd fun _ hK => by
    obtain ⟨w', hrun, h1, h2⟩ := hown.update K ht hn hkey hv
    unfold Oper.wp execOp
    simp only [ho, hm, hx, hy, Sem.run_bind, Sem.run_map, hrun, Result.andThen]
    exact hK _ _ (h w' h1 h2)
theorem below_map {w W W' : World} (hb : Below w.heap.size w W) (hg : W.grownBy W' (some w.heap.size)) : Below w.heap.size w W' := hb.grown hg hb.size (fun k e => by cases e; exact Nat.le_refl _)
theorem keyStrC : Keyed Tryz.prog 9 := string_keyed Tryz.underlying9
def kS (s : ByteArray) : Lit := .string s.data.toList
theorem kS_inj {s t : ByteArray} (h : kS s = kS t) : s = t := by
  unfold kS at h
  injection h with h
  exact str_ext h
theorem kS_key (s : ByteArray) : WideAt.IsKeyLit (kS s) := by unfold kS; exact ⟨⟩
/-- A method's receiver: its block. -/
def recvB : List Value → Option Nat
  | [.pointer (some p)] => if p = ⟨p.block, 0, none⟩ then some p.block else none
  | _ => none
/-- How a method's value reads: its function, its receiver's block. -/
def fnElem : Value → Option (DataW Unit × List MemPlace)
  | .func (.func n) xs ys => if ys = #[] then (recvB xs.toList).map fun b => (.agg [.lit (.int .i64 (n : Int)), .lit (.int .i64 (b : Int))], []) else none
  | .nilFunc => some (.nil, [])
  | _ => none
theorem recvB_inv {xs : List Value} {b : Nat} (h : recvB xs = some b) : xs = [.pointer (some ⟨b, 0, none⟩)] := by
  unfold recvB at h
  split at h
  · split at h
    · next hp => cases h; rw [← hp]
    · cases h
  · cases h
theorem fnElem_inv {v : Value} {z : DataW Unit × List MemPlace} (h : fnElem v = some z) : (∃ n b : Nat, v = .func (.func n) #[.pointer (some ⟨b, 0, none⟩)] #[] ∧ z = (.agg [.lit (.int .i64 (n : Int)), .lit (.int .i64 (b : Int))], [])) ∨ (v = .nilFunc ∧ z = (.nil, [])) := by
  unfold fnElem at h
  split at h
  · next n xs ys =>
    split at h
    · next hy =>
      cases hb : recvB xs.toList with
      | none => rw [hb] at h; cases h
      | some b =>
        rw [hb] at h
        cases h
        have := recvB_inv hb
        refine .inl ⟨n, b, ?_, rfl⟩
        rw [hy, ← Array.toArray_toList (xs := xs), this]
    · cases h
  · cases h; exact .inr ⟨rfl, rfl⟩
  · cases h
def fnD (n b : Nat) : DataW Unit := .agg [.lit (.int .i64 (n : Int)), .lit (.int .i64 (b : Int))]
theorem fnElem_fn (n b : Nat) : fnElem (.func (.func n) #[.pointer (some ⟨b, 0, none⟩)] #[]) = some (fnD n b, []) := by
  simp [fnElem, recvB, fnD]
def kindsD (rb : Nat) : DataW Unit := ((((DataW.map []).put (kS pkgW) (fnD 71 rb)).put (kS ndsW) (fnD 72 rb)).put (kS cfsW) (fnD 73 rb)).put (kS barW) (fnD 74 rb)
def KindsAt (w : World) (kb rb : Nat) : Prop := w.ownsMap Tryz.prog 9 fnElem kb 4 (kindsD rb)
set_option maxRecDepth 100000 in
set_option maxHeartbeats 2000000 in
theorem kinds_any (w : World) (rb : Nat) : Calls Tryz.prog 38 #[.pointer (some ⟨rb, 0, none⟩)] w fun e w' => e = .returned (.map (some w.heap.size)) ∧ KindsAt w' w.heap.size rb ∧ Below w.heap.size w w' := by
  have hmm := @run_makeMap Tryz.prog
  have ho0 := World.ownsMap_made w Tryz.prog 9 fnElem
  have hb0 : Below w.heap.size w (w.alloc (.map #[] 0)) := (Below.refl _ _).alloc (Nat.le_refl _) _
  go_enter Tryz.func38, Tryz.ntmps38
  go_wp2_with (refine wpList_insert_own _ rfl _ _ _ 79 rfl 9 86 keyStrC Tryz.underlying79 fnElem w.heap.size _ _ rfl (by assumption) (by decide) _ _ rfl (Go.WideMaps.keyOf_string_mk Tryz.underlying9 (by decide)) _ _ _ rfl (fnElem_fn _ _) ?_; intro w' ho' hg'; have hb' := below_map (by assumption) hg'; clear hg')
  go_ret
  exact ⟨rfl, ho', hb'⟩
theorem atKey_kS (D : DataW Unit) (hD : IsMap D) (u s : ByteArray) (d z : DataW Unit) : (D.put (kS u) d).atKey (kS s) z = if s = u then d else D.atKey (kS s) z := by
  split
  · next h => rw [h, atKey_put_same hD (kS_key _)]
  · next h => exact atKey_put_other (fun e => h (kS_inj e)) _ _
def fnV (n rb : Nat) : Value := .func (.func n) #[.pointer (some ⟨rb, 0, none⟩)] #[]
/-- What a line's first word picks. -/
def kindV (rb : Nat) (s : ByteArray) : Value := if s = barW then fnV 74 rb else if s = cfsW then fnV 73 rb else if s = ndsW then fnV 72 rb else if s = pkgW then fnV 71 rb else .nilFunc
theorem kinds_at (rb : Nat) (s : ByteArray) : (kindsD rb).atKey (kS s) .nil = (if s = barW then fnD 74 rb else if s = cfsW then fnD 73 rb else if s = ndsW then fnD 72 rb else if s = pkgW then fnD 71 rb else .nil) := by
  have h0 : IsMap (DataW.map [] : DataW Unit) := ⟨_, rfl⟩
  have h1 := h0.put (k := kS pkgW) (d := fnD 71 rb)
  have h2 := h1.put (k := kS ndsW) (d := fnD 72 rb)
  have h3 := h2.put (k := kS cfsW) (d := fnD 73 rb)
  unfold kindsD
  rw [atKey_kS _ h3, atKey_kS _ h2, atKey_kS _ h1, atKey_kS _ h0]
  rfl
theorem fnElem_fnD {v : Value} {n rb : Nat} {ps : List MemPlace} (h : fnElem v = some (fnD n rb, ps)) : v = fnV n rb := by
  rcases fnElem_inv h with ⟨n', b', rfl, hz⟩ | ⟨_, hz⟩
  · unfold fnD at hz
    injection hz with hz _
    injection hz with hz
    injection hz with h1 hz
    injection hz with h2 _
    injection h1 with h1
    injection h1 with _ h1
    injection h2 with h2
    injection h2 with _ h2
    have h1 : n = n' := by omega
    have h2 : rb = b' := by omega
    subst h1 h2
    rfl
  · injection hz with hz _
    cases hz
theorem zeroFnC (w : World) : (zeroValue 86).run Tryz.prog w = .ok .nilFunc w := by kernel_rfl
theorem kinds_look {w : World} {kb rb : Nat} (h : KindsAt w kb rb) (s : ByteArray) (hs : s.size ≤ maxLen) : (Instr.lookup 79 (.map (some kb)) (.string s) false).run Tryz.prog w = .ok (kindV rb s) w := by
  obtain ⟨v, ps, hrun, hv⟩ := World.ownsMap.lookup h keyStrC Tryz.underlying79 (zeroFnC w) (zd := .nil) (zp := []) rfl (Go.WideMaps.keyOf_string_mk Tryz.underlying9 hs)
  rw [hrun]
  have hk : (kS s : Lit) = .string s.data.toList := rfl
  rw [← hk, kinds_at] at hv
  congr 1
  unfold kindV
  split at hv
  · next h1 => rw [if_pos h1]; exact fnElem_fnD hv
  · next h1 =>
    rw [if_neg h1]
    split at hv
    · next h2 => rw [if_pos h2]; exact fnElem_fnD hv
    · next h2 =>
      rw [if_neg h2]
      split at hv
      · next h3 => rw [if_pos h3]; exact fnElem_fnD hv
      · next h3 =>
        rw [if_neg h3]
        split at hv
        · next h4 => rw [if_pos h4]; exact fnElem_fnD hv
        · next h4 =>
          rw [if_neg h4]
          rcases fnElem_inv hv with ⟨n', b', _, hz⟩ | ⟨hz, _⟩
          · injection hz with hz _; cases hz
          · exact hz
end Go.Proofs.YtcnedecmmplmoaaGreatDoor

/- catalogue: a line of a catalogue, as a whole; what Parse tells, by its lines. -/
namespace Go.Proofs.YtcnedecmmplmoaaGreatDoor
open Go Go.RowKit Go.BigFrame Go.Maps
open Ver (cmpV BL parts brk)
set_option maxRecDepth 100000

/-- All lines' letters, with their ends. -/
def sumL (l : List ByteArray) : Nat := (l.map fun x => x.size + 1).foldl (· + ·) 0
theorem foldl_add (l : List Nat) : ∀ n, l.foldl (· + ·) n = n + l.foldl (· + ·) 0 := by
  induction l with
  | nil => intro n; simp
  | cons x r ih => intro n; rw [List.foldl_cons, ih, List.foldl_cons, ih (0 + x)]; omega
theorem sumL_cons (x : ByteArray) (l : List ByteArray) : sumL (x :: l) = x.size + 1 + sumL l := by
  unfold sumL
  rw [List.map_cons, List.foldl_cons, foldl_add]
  omega
theorem sumL_app (a b : List ByteArray) : sumL (a ++ b) = sumL a + sumL b := by
  induction a with
  | nil => simp [sumL]
  | cons x r ih => rw [List.cons_append, sumL_cons, sumL_cons, ih]; omega
theorem lnsL_sumB : ∀ l : BL, sumL ((lnsL l).map strL) ≤ l.length + 1
  | [] => by simp [lnsL, sumL]
  | c :: r => by
    have ih := lnsL_sumB r
    unfold lnsL
    split
    · rw [List.map_cons, sumL_cons]
      have : (strL ([] : BL)).size = 0 := rfl
      rw [List.length_cons]
      omega
    · cases h : lnsL r with
      | nil =>
        rw [List.map_cons, List.map_nil, sumL_cons, List.length_cons]
        have h1 : (strL [c]).size = 1 := rfl
        have h2 : sumL [] = 0 := rfl
        omega
      | cons p ps =>
        rw [h] at ih
        simp only [List.map_cons, sumL_cons, List.length_cons] at ih ⊢
        have : (strL (c :: p)).size = (strL p).size + 1 := by show (c :: p).toArray.size = p.toArray.size + 1; simp
        omega
theorem lnsB_sum (s : ByteArray) : sumL (lnsB s) ≤ s.size + 1 := by
  have := lnsL_sumB s.data.toList
  rw [len_data] at this
  exact this
theorem sum_prefix {pre l : List ByteArray} (h : pre <+: l) : sumL pre ≤ sumL l := by
  obtain ⟨r, rfl⟩ := h
  rw [sumL_app]; omega
theorem mem_sum {x : ByteArray} {l : List ByteArray} (h : x ∈ l) : x.size + 1 ≤ sumL l := by
  obtain ⟨a, b, rfl⟩ := List.append_of_mem h
  rw [sumL_app, sumL_cons]; omega
theorem runS_stop {x : ByteArray} {rest : List ByteArray} {st : RSt} (hs : skipB x = false) (he : stepE st x ≠ 0) : ∀ (pre : List ByteArray) (st0 : RSt) (n : Nat), pre.foldl stepO (some st0) = some st → runS (pre ++ x :: rest) n st0 = (n + pre.length + 1, stepE st x, [])
  | [], st0, n, h => by
    cases h
    rw [List.nil_append, runS, if_neg (by rw [hs]; decide), if_neg he]
    rfl
  | y :: pre, st0, n, h => by
    rw [List.foldl_cons] at h
    rw [List.cons_append, runS]
    unfold stepO at h
    dsimp only at h
    split at h
    · next h1 =>
      rw [if_pos h1, runS_stop hs he pre st0 (n + 1) h, List.length_cons]
      congr 1; omega
    · next h1 =>
      rw [if_neg h1]
      split at h
      · next h2 =>
        rw [if_pos h2, runS_stop hs he pre _ (n + 1) h, List.length_cons]
        congr 1; omega
      · exfalso
        have hn : ∀ l : List ByteArray, l.foldl stepO none = none := fun l => by
          induction l with
          | nil => rfl
          | cons a b ih => exact ih
        have h' : pre.foldl stepO none = some st := h
        rw [hn] at h'; cases h'
theorem runS_done {st : RSt} : ∀ (l : List ByteArray) (st0 : RSt) (n : Nat), l.foldl stepO (some st0) = some st → runS l n st0 = (0, 0, closeS st)
  | [], st0, n, h => by cases h; rfl
  | y :: pre, st0, n, h => by
    rw [List.foldl_cons] at h
    rw [runS]
    unfold stepO at h
    dsimp only at h
    split at h
    · next h1 => rw [if_pos h1]; exact runS_done pre st0 (n + 1) h
    · next h1 =>
      rw [if_neg h1]
      split at h
      · next h2 => rw [if_pos h2]; exact runS_done pre _ (n + 1) h
      · exfalso
        have hn : ∀ l : List ByteArray, l.foldl stepO none = none := fun l => by
          induction l with
          | nil => rfl
          | cons a b ih => exact ih
        have h' : pre.foldl stepO none = some st := h
        rw [hn] at h'; cases h'
theorem rest1_le (s : ByteArray) : (rest1 s).size ≤ s.size := by
  unfold rest1
  split
  · have : (⟨(Lib.trimPrefix s.data.toList [124]).toArray⟩ : ByteArray).size = (Lib.trimPrefix s.data.toList [124]).length := by show (Lib.trimPrefix s.data.toList [124]).toArray.size = _; simp
    rw [this, ← len_data]
    unfold Lib.trimPrefix
    split
    · rw [List.length_drop]; omega
    · exact Nat.le_refl _
  · exact bR_le 32 s
theorem stepN_size (st : RSt) (s : ByteArray) : (stepN st s).2.size ≤ st.2.size + s.size + 1 := by
  have := rest1_le s
  unfold stepN
  split
  · unfold packN; exact Nat.zero_le _
  · split
    · unfold ndsN; dsimp only; omega
    · split
      · unfold cfsN; dsimp only; omega
      · unfold lineN; dsimp only
        rw [ByteArray.size_append, ByteArray.size_append]
        have : (⟨#[10]⟩ : ByteArray).size = 1 := rfl
        omega
/-- A line by its first word. -/
theorem step_any (w : World) (base rb mb : Nat) (ro : Nat → Nat) (vl vr : Value) (cs : List Value) (st : RSt) (h : RdAt w base rb mb ro vl vr cs st) (hsn : SeenP w mb st.1) (hB : base ≤ w.heap.size) (s : ByteArray) (hs : s.size ≤ 1000000) (hr : st.2.size + s.size ≤ 10000000) :
    (kindV rb (word1 s) = .nilFunc ∧ stepE st s = 150) ∨ ∃ n, (n = 71 ∨ n = 72 ∨ n = 73 ∨ n = 74) ∧ kindV rb (word1 s) = fnV n rb ∧ Calls Tryz.prog n #[.pointer (some ⟨rb, 0, none⟩), .string (rest1 s)] w (MPost w base rb mb ro st.1 (stepE st s) (stepN st s)) := by
  have h1 := rest1_le s
  have hs' : (rest1 s).size ≤ 1000000 := by omega
  unfold kindV stepE stepN
  by_cases e1 : word1 s = pkgW
  · have n1 : pkgW ≠ barW := by decide
    have n2 : pkgW ≠ cfsW := by decide
    have n3 : pkgW ≠ ndsW := by decide
    rw [e1, if_neg n1, if_neg n2, if_neg n3, if_pos rfl, if_pos rfl, if_pos rfl]
    refine .inr ⟨_, by decide, rfl, ?_⟩
    by_cases hok : twoOk (rest1 s) = true ∧ rightB (bA 32 (rest1 s)) = true ∧ okS (bR 32 (rest1 s)) = true ∧ st.1.length ≠ 2000
    · exact pack_yes w base rb mb ro vl vr cs st h hsn hB _ hs' hok
    · refine pack_no w base rb mb ro vl vr cs st h _ hs' ?_ _
      cases ht : twoOk (rest1 s) with
      | false => exact .inl rfl
      | true =>
        cases hn : rightB (bA 32 (rest1 s)) with
        | false => exact .inr (.inl rfl)
        | true =>
          cases hv : okS (bR 32 (rest1 s)) with
          | false => exact .inr (.inr (.inl rfl))
          | true => exact .inr (.inr (.inr (Decidable.byContradiction fun hl => hok ⟨ht, hn, hv, hl⟩)))
  · by_cases e2 : word1 s = ndsW
    · have n1 : ndsW ≠ barW := by decide
      have n2 : ndsW ≠ cfsW := by decide
      have n3 : ndsW ≠ pkgW := by decide
      rw [e2, if_neg n1, if_neg n2, if_pos rfl, if_neg n3, if_pos rfl, if_neg n3, if_pos rfl]
      exact .inr ⟨_, by decide, rfl, needs_any w base rb mb ro vl vr cs st h hB _ hs'⟩
    · by_cases e3 : word1 s = cfsW
      · have n1 : cfsW ≠ barW := by decide
        have n2 : cfsW ≠ ndsW := by decide
        have n3 : cfsW ≠ pkgW := by decide
        rw [e3, if_neg n1, if_pos rfl, if_neg n3, if_neg n2, if_pos rfl, if_neg n3, if_neg n2, if_pos rfl]
        exact .inr ⟨_, by decide, rfl, conflicts_any w base rb mb ro vl vr cs st h hB _ hs'⟩
      · rw [if_neg e1, if_neg e2, if_neg e3, if_neg e1, if_neg e2, if_neg e3, if_neg e1, if_neg e2, if_neg e3]
        by_cases e4 : word1 s = barW
        · rw [if_pos e4, if_pos e4]
          exact .inr ⟨_, by decide, rfl, line_any w base rb mb ro vl vr cs st h hB _ (by omega)⟩
        · rw [if_neg e4, if_neg e4]
          exact .inl ⟨rfl, rfl⟩
end Go.Proofs.YtcnedecmmplmoaaGreatDoor

/- catalogue: the reader's roles, of cells alone; what stands between two lines of Parse. -/
namespace Go.Proofs.YtcnedecmmplmoaaGreatDoor
open Go Go.RowKit Go.BigFrame Go.Maps
open Ver (cmpV BL parts brk)
set_option maxRecDepth 100000

/-- A block of cells. -/
def CellB (w : World) (b : Nat) : Prop := ∃ o, w.heap[b]? = some o ∧ o.isCells = true
theorem CellB.of_cell {w : World} {a : Addr} {u : Value} (h : w.cell? a = some u) : CellB w a.block := by
  unfold World.cell? at h
  cases ho : w.heap[a.block]? with
  | none => rw [ho] at h; cases h
  | some o =>
    rw [ho] at h
    cases o with
    | cells c t v => exact ⟨_, ho, rfl⟩
    | _ => cases h
theorem CellB.of_own {w : World} {base n sz : Nat} {e : TypeId} {v : Value} {xs : List Value} (h : w.ownsRow base e sz v n xs) {j : Nat} (hj : v.ownBlock = some j) : CellB w j := by
  obtain ⟨_, hl⟩ := h.lt j hj
  exact ⟨_, Array.getElem?_eq_getElem hl, own_cells h hj (Array.getElem?_eq_getElem hl)⟩
theorem RdS.tidy {w : World} {S : Nat → Prop} {v : Value} {n : Nat} {xs : List Value} (h : RdS w S v n xs) (hx : 0 < n → xs ≠ []) : RdS w (fun b => S b ∧ CellB w b) v n xs := by
  obtain ⟨A, cap, e, h1, h2, h3, h4⟩ := h
  refine ⟨A, cap, e, h1, h2, h3, fun hn => ?_⟩
  obtain ⟨ad, rfl, hb, hS, hc⟩ := h4 hn
  refine ⟨ad, rfl, hb, ⟨hS, ?_⟩, hc⟩
  obtain ⟨x, r, rfl⟩ := List.exists_cons_of_ne_nil (hx hn)
  exact CellB.of_cell (hc 0 x rfl)
theorem BRow.tidy {w : World} {S : Nat → Prop} {v : Value} {row : List Bd} (h : BRow w S v row) : BRow w (fun b => S b ∧ CellB w b) v row :=
  RdS.tidy h (fun hn e => by have := rowCells_len row; rw [e] at this; simp at this; omega)
theorem NdC.tidy {w : World} {S : Nat → Prop} {us : List Value} {n : Nde} (h : NdC w S us n) : NdC w (fun b => S b ∧ CellB w b) us n := by
  obtain ⟨u, e, vs, h1, h2, h3⟩ := h
  refine ⟨u, e, vs, RdS.tidy h1 (fun hn e => by rw [e] at h2; simp at h2; omega), h2, fun k u x hu hx => (h3 k u x hu hx).tidy⟩
/-- Roles of cells alone, and the set. -/
noncomputable def roC (w : World) (mb : Nat) (ro : Nat → Nat) (b : Nat) : Nat := by
  classical exact if b = mb ∨ CellB w b then ro b else 0
theorem roC_of {w : World} {mb : Nat} {ro : Nat → Nat} {b : Nat} (h : b = mb ∨ CellB w b) : roC w mb ro b = ro b := by unfold roC; rw [if_pos h]
theorem roC_zero {w : World} {mb : Nat} {ro : Nat → Nat} {b : Nat} (h : ro b = 0) : roC w mb ro b = 0 := by unfold roC; split <;> simp [h]
theorem roC_ne {w : World} {mb : Nat} {ro : Nat → Nat} {b : Nat} (h : roC w mb ro b ≠ 0) : (b = mb ∨ CellB w b) ∧ ro b ≠ 0 := by
  unfold roC at h
  split at h
  · next h1 => exact ⟨h1, h⟩
  · exact absurd rfl h
theorem NAt.tidy {w : World} {base mb q : Nat} {ro : Nat → Nat} {u : Value} {l : List Nde} (h : NAt w base ro q u l) : NAt w base (roC w mb ro) q u l := by
  obtain ⟨vs, h1, h2, h3, h4⟩ := h
  refine ⟨vs, h1, fun g hg => (roC_of (.inr (CellB.of_own h1 hg))).trans (h2 g hg), h3, fun k x hx => ?_⟩
  exact NdC.keeps.weak (h4 k x hx).tidy fun b _ hb => (roC_of (.inr hb.2)).trans hb.1
theorem LstAt.tidy {w : World} {base mb : Nat} {ro : Nat → Nat} {v : Value} {cs : List Value} {l : List Va} (h : LstAt w base ro v cs l) : LstAt w base (roC w mb ro) v cs l := by
  refine ⟨h.own, fun g hg => (roC_of (.inr (CellB.of_own h.own hg))).trans (h.role g hg), fun k x hx => ?_⟩
  obtain ⟨un, uc, e, h1, h2⟩ := h.item k x hx
  exact ⟨un, uc, e, h1.tidy, h2.tidy⟩
theorem RdAt.tidy {w : World} {base rb mb : Nat} {ro : Nat → Nat} {vl vr : Value} {cs : List Value} {st : RSt} (h : RdAt w base rb mb ro vl vr cs st) : RdAt w base rb mb (roC w mb ro) vl vr cs st :=
  ⟨h.box, (roC_of (.inr ⟨_, h.box, rfl⟩)).trans h.rrb, (roC_of (.inl rfl)).trans h.rmb, fun b hb => h.all b (roC_ne hb).2, h.lst.tidy, h.rcp, fun g hg => (roC_of (.inr (CellB.of_own h.rcp hg))).trans (h.rrcp g hg), h.seen, h.few, h.txt⟩
/-- What the roles tell of a world kept but for the reader. -/
theorem KeepsFrom.of_ch {w w' : World} {D mb : Nat} {ro : Nat → Nat} (hc : Ch w w' (Rdr (roC w mb ro))) (hmb : mb < D) : KeepsFrom D w w' := by
  refine ⟨hc.size, fun k o hk ho hno => hc.heap ho fun hm => ?_⟩
  rcases (roC_ne hm).1 with e | ⟨o', h1, h2⟩
  · omega
  · rw [ho] at h1; cases h1; rw [hno] at h2; cases h2
end Go.Proofs.YtcnedecmmplmoaaGreatDoor

/- catalogue: what stands between two lines of Parse. -/
namespace Go.Proofs.YtcnedecmmplmoaaGreatDoor
open Go Go.RowKit Go.BigFrame Go.Maps
open Ver (cmpV BL parts brk)
set_option maxRecDepth 100000

/-- Parse's memory: the results' boxes g, g+1, g+2, the set g+3, the reader g+4, the kinds' map g+5; the kinds' box q, the number's q+1. -/
structure PrJ (g q : Nat) (k : Nat) (st : RSt) (W : World) : Prop where
  r0 : W.heap[g]? = some (.cells #[.slice none 0 0] 22 (0, 0))
  r1 : W.heap[g + 1]? = some (.cells #[.int .i64 0] 3 (0, 0))
  r2 : W.heap[g + 2]? = some (.cells #[.int .i64 0] 25 (0, 0))
  kbx : W.heap[q]? = some (.cells #[.map (some (g + 5))] 79 (0, 0))
  num : W.heap[q + 1]? = some (.cells #[.int .i64 (k : Int)] 3 (0, 0))
  kin : KindsAt W (g + 5) (g + 4)
  rd : ∃ ro vl vr cs, RdAt W (g + 3) (g + 4) (g + 3) ro vl vr cs st ∧ SeenP W (g + 3) st.1 ∧ ∀ b, g + 5 ≤ b → b ≤ q + 4 → ro b = 0
theorem KindsAt.ch {w w' : World} {kb rb : Nat} {M : Nat → Prop} (h : KindsAt w kb rb) (hc : Ch w w' M) (hM : ¬ M kb) : KindsAt w' kb rb := by
  obtain ⟨es, clock, hb, F⟩ := h
  exact ⟨es, clock, hc.heap hb hM, F⟩
theorem KindsAt.lt {w : World} {kb rb : Nat} (h : KindsAt w kb rb) : kb < w.heap.size := by
  obtain ⟨es, clock, hb, _⟩ := h
  exact block_lt hb
theorem PrJ.ch {g q k : Nat} {st : RSt} {W W' : World} {M : Nat → Prop} (h : PrJ g q k st W) (hq : g + 6 ≤ q) (hc : Ch W W' M) (hM : ∀ b, b < W.heap.size → M b → b = q + 2 ∨ b = q + 3 ∨ b = q + 4) : PrJ g q k st W' := by
  have hb : ∀ {b : Nat} {o : Obj}, b ≤ q + 1 → W.heap[b]? = some o → W'.heap[b]? = some o := fun hb2 ho => hc.heap ho fun hm => by have := hM _ (block_lt ho) hm; omega
  obtain ⟨ro, vl, vr, cs, hr, hs, h0⟩ := h.rd
  have hc' : Ch W W' (fun b => M b ∧ b < W.heap.size) := ⟨hc.os, hc.tape, hc.output, hc.size, fun k hk hn => hc.block k hk (fun e => hn ⟨e, hk⟩)⟩
  refine ⟨hb (by omega) h.r0, hb (by omega) h.r1, hb (by omega) h.r2, hb (by omega) h.kbx, hb (by omega) h.num, h.kin.ch hc (fun hm => by have := hM _ h.kin.lt hm; omega), ro, vl, vr, cs, hr.ch hc' (fun b hm => h0 b (by have := hM b hm.2 hm.1; omega) (by have := hM b hm.2 hm.1; omega)), hs.block (hc.block _ hs.lt (fun hm => by have := hM _ hs.lt hm; omega)), h0⟩
theorem PrJ.step {g q k k' : Nat} {st : RSt} {W : World} (h : PrJ g q k st W) (hq : g + 6 ≤ q) : PrJ g q k' st (W.setCell ⟨q + 1, 0, none⟩ (.int .i64 (k' : Int))) := by
  have hc : Ch W (W.setCell ⟨q + 1, 0, none⟩ (.int .i64 (k' : Int))) (fun b => b = q + 1) := Ch.setCell (p := ⟨q + 1, 0, none⟩) (Ch.refl W (fun b => b = q + 1)) rfl _
  have hb : ∀ {b : Nat} {o : Obj}, b ≠ q + 1 → W.heap[b]? = some o → (W.setCell ⟨q + 1, 0, none⟩ (.int .i64 (k' : Int))).heap[b]? = some o := fun hb2 ho => hc.heap ho hb2
  obtain ⟨ro, vl, vr, cs, hr, hs, h0⟩ := h.rd
  exact ⟨hb (by omega) h.r0, hb (by omega) h.r1, hb (by omega) h.r2, hb (by omega) h.kbx, box_put h.num _, h.kin.ch hc (by omega), ro, vl, vr, cs, hr.ch hc (fun b hm => h0 b (by omega) (by omega)), hs.block (hc.block _ hs.lt (by omega)), h0⟩
/-- Behind a method that told no error. -/
theorem PrJ.next {g q k : Nat} {st st' : RSt} {W W' : World} {ro : Nat → Nat} {vl vr : Value} {cs : List Value} {e : Ending} (h : PrJ g q k st W) (hq : g + 6 ≤ q) (hl : q + 4 < W.heap.size) (hr : RdAt W (g + 3) (g + 4) (g + 3) ro vl vr cs st) (hs : SeenP W (g + 3) st.1) (h0 : ∀ b, g + 5 ≤ b → b ≤ q + 4 → ro b = 0)
    (hm : MPost W (g + 3) (g + 4) (g + 3) ro st.1 0 st' e W') : PrJ g q k st' W' := by
  obtain ⟨_, hc, hx⟩ := hm
  obtain ⟨ro', vl', vr', cs', hr', hz, hsn⟩ := hx rfl
  have hlow : ∀ b, b < g + 3 → ro b = 0 := fun b hb => Decidable.byContradiction fun hn => by have := (hr.all b hn).1; omega
  have hb : ∀ {b : Nat} {o : Obj}, ro b = 0 → W.heap[b]? = some o → W'.heap[b]? = some o := fun hb2 ho => hc.heap ho fun hm => hm hb2
  exact ⟨hb (hlow _ (by omega)) h.r0, hb (hlow _ (by omega)) h.r1, hb (hlow _ (by omega)) h.r2, hb (h0 _ (by omega) (by omega)) h.kbx, hb (h0 _ (by omega) (by omega)) h.num, h.kin.ch hc (fun hm => hm (h0 _ (by omega) (by omega))), ro', vl', vr', cs', hr', hsn hs, fun b h1 h2 => hz b (by omega) (h0 b h1 h2)⟩
/-- The roles, of cells alone. -/
theorem PrJ.open {g q k : Nat} {st : RSt} {W : World} (h : PrJ g q k st W) : ∃ ro0 vl vr cs, RdAt W (g + 3) (g + 4) (g + 3) (roC W (g + 3) ro0) vl vr cs st ∧ SeenP W (g + 3) st.1 ∧ ∀ b, g + 5 ≤ b → b ≤ q + 4 → roC W (g + 3) ro0 b = 0 := by
  obtain ⟨ro, vl, vr, cs, hr, hs, h0⟩ := h.rd
  exact ⟨ro, vl, vr, cs, hr.tidy, hs, fun b h1 h2 => roC_zero (h0 b h1 h2)⟩
/-- Between two rounds of Parse. -/
structure PrI (w : World) (q : Nat) (pre : List ByteArray) (W : World) : Prop where
  st : ∃ st, stAt pre = some st ∧ st.2.size ≤ sumL pre ∧ PrJ w.heap.size q pre.length st W
  below : Below w.heap.size w W
structure PrX (w : World) (k : Nat) (z : Int) (W : World) : Prop where
  r0 : W.heap[w.heap.size]? = some (.cells #[.slice none 0 0] 22 (0, 0))
  r1 : W.heap[w.heap.size + 1]? = some (.cells #[.int .i64 (k : Int)] 3 (0, 0))
  r2 : W.heap[w.heap.size + 2]? = some (.cells #[.int .i64 z] 25 (0, 0))
  below : Below w.heap.size w W
theorem PrI.own {w : World} {q bn D : Nat} (hq : w.heap.size + 6 ≤ q) (hb : bn = q + 2) (hD : D = q + 3) : OwnB bn D (PrI w q) := by
  intro pre A C row h hg hr
  obtain ⟨st, h1, h2, h3⟩ := h.st
  refine ⟨⟨st, h1, h2, h3.ch hq ((Ch.refl A (fun b => row = some b)).grown hg (fun k _ e => e)) fun b _ hm => ?_⟩, h.below.grown hg h.below.size (fun k e => by rcases hr k e with e2 | e2 <;> omega)⟩
  rcases hr b hm with e | e <;> omega
theorem PrX.own {w : World} {q bn D : Nat} (hq : w.heap.size + 6 ≤ q) (hb : bn = q + 2) (hD : D = q + 3) (Z : Nat → Int → Prop) (c : Code) : OwnB bn D (fun (_ : List ByteArray) W => c = .ret ∧ ∃ k z, Z k z ∧ PrX w k z W) := by
  intro pre A C row h hg hr
  obtain ⟨hc, k, z, hz, h⟩ := h
  have hne : ∀ b, b < w.heap.size + 3 → b < A.heap.size → C.heap[b]? = A.heap[b]? := fun b h1 hk => hg.block b hk (fun e => by rcases hr b e.symm with e2 | e2 <;> omega)
  exact ⟨hc, k, z, hz, (hne _ (by omega) (block_lt h.r0)).trans h.r0, (hne _ (by omega) (block_lt h.r1)).trans h.r1, (hne _ (by omega) (block_lt h.r2)).trans h.r2, h.below.grown hg h.below.size (fun k e => by rcases hr k e with e2 | e2 <;> omega)⟩
end Go.Proofs.YtcnedecmmplmoaaGreatDoor
