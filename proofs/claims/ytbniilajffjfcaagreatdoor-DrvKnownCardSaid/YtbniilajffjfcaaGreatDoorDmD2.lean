/- drv: rows of numbers and of texts in memory; the map of names' places. -/
import Derived.Test.YtbniilajffjfcaaGreatDoorDmB2
import Derived.Test.YtbniilajffjfcaaGreatDoorDmD1
import Derived.Maps.Own
import Derived.Maps.OwnOps
import Derived.Maps.OwnSet
import Derived.Maps.Views
import Derived.LoopTactic
import Derived.StringKeys
set_option linter.unusedVariables false
set_option linter.unusedSimpArgs false
namespace Go.Proofs.YtbniilajffjfcaaGreatDoor
open Go.RowKit Go.BigFrame Go.Maps
open Drv (posO edges edgeAt dupB)

/-- A row of numbers; a row of such rows. -/
def IRow (w : World) (S : Nat → Prop) (v : Value) (c : List Int) : Prop := RdS w S v c.length (ints c)
theorem IRow.keeps : Keeps IRow := ⟨fun h hs => RdS.keep h hs, fun h hw => RdS.weak h hw⟩
def RowsAt (w : World) (v : Value) (cs : List (List Int)) : Prop := OutS IRow w AllB v cs
theorem RowsAt.below {w w' : World} {v : Value} {cs : List (List Int)} (h : RowsAt w v cs) (hb : Below w.heap.size w w') : RowsAt w' v cs := OutS.below IRow.keeps h hb
theorem IRow.get {w : World} {S : Nat → Prop} {A : Option Addr} {n cap : Nat} {c : List Int} (h : IRow w S (.slice A n cap) c) (k : Nat) (hk : k < c.length) :
    ∃ ad, A = some ad ∧ w.cell? (ad.add k) = some (.int .i64 (c.getD k 0)) := by
  obtain ⟨A', cap', e, _, _, _, h4⟩ := h
  cases e
  obtain ⟨ad, rfl, _, _, hc⟩ := h4 (by omega)
  exact ⟨ad, rfl, hc k _ (ints_get c k hk)⟩
/-- A row of texts; a row of such rows. -/
def TRow (w : World) (S : Nat → Prop) (v : Value) (c : List ByteArray) : Prop := RdS w S v c.length (strs c)
theorem TRow.keeps : Keeps TRow := ⟨fun h hs => RdS.keep h hs, fun h hw => RdS.weak h hw⟩
def TextsAt (w : World) (v : Value) (cs : List (List ByteArray)) : Prop := OutS TRow w AllB v cs
theorem TextsAt.below {w w' : World} {v : Value} {cs : List (List ByteArray)} (h : TextsAt w v cs) (hb : Below w.heap.size w w') : TextsAt w' v cs := OutS.below TRow.keeps h hb
theorem TRow.get {w : World} {S : Nat → Prop} {A : Option Addr} {n cap : Nat} {c : List ByteArray} (h : TRow w S (.slice A n cap) c) (k : Nat) (hk : k < c.length) :
    ∃ ad, A = some ad ∧ w.cell? (ad.add k) = some (.string (c.getD k ⟨#[]⟩)) := by
  obtain ⟨A', cap', e, _, _, _, h4⟩ := h
  cases e
  obtain ⟨ad, rfl, _, _, hc⟩ := h4 (by omega)
  exact ⟨ad, rfl, hc k _ (strs_get c k hk)⟩
def Small (l : List ByteArray) : Prop := ∀ s ∈ l, s.size ≤ maxLen
theorem getD_at {l : List ByteArray} {k : Nat} (h : k < l.length) : l[k]? = some (l.getD k ⟨#[]⟩) := by simp [List.getD, h]
theorem getD_mem {l : List ByteArray} {k : Nat} (h : k < l.length) : l.getD k ⟨#[]⟩ ∈ l := List.mem_of_getElem? (getD_at h)
theorem Small.at {l : List ByteArray} (h : Small l) {k : Nat} (hk : k < l.length) : (l.getD k ⟨#[]⟩).size ≤ maxLen := h _ (getD_mem hk)

/-- A text as a map's key. -/
def kS (s : ByteArray) : Lit := .string s.data.toList
theorem kS_inj {s t : ByteArray} (h : kS s = kS t) : s = t := by
  unfold kS at h
  injection h with h
  cases s; cases t; congr 1
  exact Array.ext' h
theorem zeroInt (w : World) : (zeroValue 3).run Tryz.prog w = .ok (.int .i64 0) w := by kernel_rfl
theorem infoInt : (Tryz.prog.info? 3).map (fun i => (i.zero, i.size, i.bytes)) = some (some (.int .i64 0), 1, 8) := by kernel_rfl
theorem keyStr : Keyed Tryz.prog 9 := string_keyed Tryz.underlying9
/-- Block mb is the map of the places of names. -/
def MapIs (w : World) (mb : Nat) (l : List ByteArray) : Prop :=
  ∃ D : DataW Unit, w.ownsMap Tryz.prog 9 (plainElem Tryz.prog 3) mb l.length D ∧ ∀ s : ByteArray, D.atKey (kS s) (.lit (.int .i64 0)) = .lit (.int .i64 (((posO l s).getD 0 : Nat) : Int)) ∧ has D (kS s) = (posO l s).isSome
theorem MapIs.made (w : World) : MapIs (w.alloc (.map #[] 0)) w.heap.size [] := ⟨_, World.ownsMap_made _ _ _ _, fun s => ⟨rfl, rfl⟩⟩
theorem MapIs.kept {w w' : World} {mb : Nat} {l : List ByteArray} {row : Option Nat} (h : MapIs w mb l) (hg : w.grownBy w' row) (hne : some mb ≠ row) : MapIs w' mb l := by
  obtain ⟨D, h1, h2⟩ := h; exact ⟨D, h1.kept hg hne, h2⟩
theorem MapIs.lt {w : World} {mb : Nat} {l : List ByteArray} (h : MapIs w mb l) : mb < w.heap.size := by
  obtain ⟨D, h1, _⟩ := h; exact h1.lt
theorem MapIs.block {w w' : World} {mb : Nat} {l : List ByteArray} (h : MapIs w mb l) (hb : w'.heap[mb]? = w.heap[mb]?) : MapIs w' mb l := by
  obtain ⟨D, ⟨es, c, h1, h3⟩, h2⟩ := h; exact ⟨D, ⟨es, c, hb.trans h1, h3⟩, h2⟩
theorem MapIs.below {w w' : World} {mb : Nat} {l : List ByteArray} (h : MapIs w mb l) (hb : Below w.heap.size w w') : MapIs w' mb l := h.block (hb.block mb h.lt)
theorem MapIs.put {w w' : World} {mb : Nat} {l : List ByteArray} {s : ByteArray} {D : DataW Unit} (ho : w.ownsMap Tryz.prog 9 (plainElem Tryz.prog 3) mb l.length D)
    (hD : ∀ s : ByteArray, D.atKey (kS s) (.lit (.int .i64 0)) = .lit (.int .i64 (((posO l s).getD 0 : Nat) : Int)) ∧ has D (kS s) = (posO l s).isSome)
    (hs : posO l s = none) (h : w'.ownsMap Tryz.prog 9 (plainElem Tryz.prog 3) mb (l.length + 1) (D.put (kS s) (.lit (.int .i64 (l.length : Int))))) : MapIs w' mb (l ++ [s]) := by
  have hk : WideAt.IsKeyLit (kS s) := by unfold kS; exact ⟨⟩
  refine ⟨_, by rw [List.length_append]; exact h, fun t => ?_⟩
  rw [Drv.posO_snoc]
  by_cases e : s = t
  · subst e
    rw [atKey_put_same ho.isMap hk, has_put_same ho.isMap hk, hs]
    simp
  · have hne : kS t ≠ kS s := fun h => e (kS_inj h).symm
    rw [atKey_put_other hne, has_put_other hne, (hD t).1, (hD t).2]
    cases posO l t with
    | some i => simp
    | none => simp [e]
end Go.Proofs.YtbniilajffjfcaaGreatDoor

/- drv: a name's place asked of the map; places. -/
namespace Go.Proofs.YtbniilajffjfcaaGreatDoor
open Go.RowKit Go.BigFrame Go.Maps
open Drv (posO edges edgeAt dupB)

theorem wpList_look_some {w : World} {ops : Array Oper} {rest : List Oper} {o : Oper} {a : Act} {Q : Exit → Act → World → Prop} (hg : o.guard = none) (m x : Operand) (hop : o.op = Op.lookup 77 m x true)
    (mb : Nat) (l : List ByteArray) (hM : MapIs w mb l) (s : ByteArray) (hs : s.size ≤ maxLen) (i : Nat) (hp : posO l s = some i) (hm : a.eval m = .map (some mb)) (hx : a.eval x = .string s)
    (hK : wpList Tryz.prog ops Q rest (a.put o.dst (.tuple #[.int .i64 (i : Int), .bool true])) w) : wpList Tryz.prog ops Q (o :: rest) a w := by
  obtain ⟨D, h1, h2⟩ := hM
  refine wpList_lookup_own_ok_int w hg m x 77 hop 9 3 .i64 keyStr Tryz.underlying77 Tryz.underlying3 (zeroInt w) mb l.length D hm h1 (.string s) (kS s) hx (Go.WideMaps.keyOf_string_mk Tryz.underlying9 hs) ?_
  intro c hc _
  rw [(h2 s).1, hp] at hc
  rw [(h2 s).2, hp]
  have : c = (i : Int) := by
    injection hc with hc
    injection hc with _ hc
    exact hc.symm
  subst this
  exact hK
theorem wpList_look_none {w : World} {ops : Array Oper} {rest : List Oper} {o : Oper} {a : Act} {Q : Exit → Act → World → Prop} (hg : o.guard = none) (m x : Operand) (hop : o.op = Op.lookup 77 m x true)
    (mb : Nat) (l : List ByteArray) (hM : MapIs w mb l) (s : ByteArray) (hs : s.size ≤ maxLen) (hp : posO l s = none) (hm : a.eval m = .map (some mb)) (hx : a.eval x = .string s)
    (hK : wpList Tryz.prog ops Q rest (a.put o.dst (.tuple #[.int .i64 0, .bool false])) w) : wpList Tryz.prog ops Q (o :: rest) a w := by
  obtain ⟨D, h1, h2⟩ := hM
  refine wpList_lookup_own_ok_int w hg m x 77 hop 9 3 .i64 keyStr Tryz.underlying77 Tryz.underlying3 (zeroInt w) mb l.length D hm h1 (.string s) (kS s) hx (Go.WideMaps.keyOf_string_mk Tryz.underlying9 hs) ?_
  intro c hc _
  rw [(h2 s).1, hp] at hc
  rw [(h2 s).2, hp]
  have : c = 0 := by
    injection hc with hc
    injection hc with _ hc
    exact hc.symm
  subst this
  exact hK
/-- Places as Go has them. -/
def ofN (l : List Nat) : List Int := l.map fun (x : Nat) => (x : Int)
theorem ofN_len (l : List Nat) : (ofN l).length = l.length := by simp [ofN]
theorem ofN_snoc (l : List Nat) (x : Nat) : ofN (l ++ [x]) = ofN l ++ [(x : Int)] := by simp [ofN]
theorem ofN_get (l : List Nat) (k : Nat) (h : k < l.length) : (ofN l).getD k 0 = ((l.getD k 0 : Nat) : Int) := by simp [ofN, h, List.getD]
theorem ints_snoc2 (l : List Int) (x : Int) : ints (l ++ [x]) = ints l ++ [.int .i64 x] := by simp [ints]
theorem cell_one_at (w : World) (T : TypeId) (x : Value) (i : Nat) (h : i = w.heap.size) : ∀ j u, [x][j]? = some u → (w.alloc (.cells #[x] T)).cell? ((⟨i, 0, none⟩ : Addr).add j) = some u := by
  intro j u hj
  subst h
  match j, hj with
  | 0, hj => simp at hj; subst hj; simp [Addr.add]
theorem own_base {w : World} {base base' size n : Nat} {e : TypeId} {v : Value} {xs : List Value} (h : w.ownsRow base e size v n xs) (hb : base' ≤ base) : w.ownsRow base' e size v n xs := by
  obtain ⟨hl, hz | ⟨g, cap, cur, h1, hg, h2⟩⟩ := h
  · exact ⟨hl, .inl hz⟩
  · exact ⟨hl, .inr ⟨g, cap, cur, h1, Nat.le_trans hb hg, h2⟩⟩
theorem own_form {w : World} {base : Nat} {e : TypeId} {size : Nat} {v : Value} {n : Nat} {xs : List Value} (h : w.ownsRow base e size v n xs) : ∃ A cap, v = .slice A n cap := by
  rcases h.2 with ⟨e1, e2⟩ | ⟨g, cap, cur, e1, _⟩
  · exact ⟨none, 0, by rw [e1, e2]⟩
  · exact ⟨_, cap, e1⟩
def PlacesPost (names row : List ByteArray) (w : World) (e : Ending) (w' : World) : Prop :=
  ∃ u, e = .returned u ∧ w'.ownsRow w.heap.size 3 1 u (edges names row).length (ints (ofN (edges names row))) ∧ Below w.heap.size w w'
set_option maxRecDepth 100000 in
set_option maxHeartbeats 2000000 in
theorem places_any (mb : Nat) (A : Option Addr) (n cap : Nat) (names row : List ByteArray) (rv : Value) (w : World) (hM : MapIs w mb names) (hr : TRow w AllB rv row) (hsm : Small row) (hn : row.length ≤ 4000000) :
    Calls Tryz.prog 59 #[.agg #[.map (some mb), .slice A n cap], rv] w (PlacesPost names row w) := by
  obtain ⟨i0, hi, hz0, hz1, hz2⟩ := info_parts infoInt
  obtain ⟨B, cb, rfl, hlb, hmb⟩ := RdS.form hr
  unfold maxLen at hmb
  have HP := Lib.hid (fun (u : Value) (w' : World) (h1 : w'.ownsRow w.heap.size 3 1 u (edges names row).length (ints (ofN (edges names row)))) (h2 : Below w.heap.size w w') => show PlacesPost names row w (.returned u) w' from ⟨u, rfl, h1, h2⟩)
  generalize PlacesPost names row w = post at *
  go_enter Tryz.func59, Tryz.ntmps59
  go_upto_region 1 with (fail)
  obtain ⟨W0, hW0, hg0, hb0, hz0', hbb⟩ := row_at w w (.cells #[.map (some mb), .slice A n cap] 80) (Below.refl _ _)
  rw [← hW0]
  have HM := Lib.hid (hM.below hb0)
  have HR := Lib.hid (show TRow W0 AllB (.slice B row.length cb) row from RdS.below hr hb0)
  have HG := Lib.hid hg0
  have hzz : w.heap.size < W0.heap.size := by omega
  have HBB := Lib.hid hbb
  have HI := Lib.hid hi
  have HZ0 := Lib.hid hz0
  have HZ1 := Lib.hid hz1
  have HZ2 := Lib.hid hz2
  clear hW0 hM hr hg0 hb0 hz0' hbb hi hz0 hz1 hz2
  go_wp2
  go_loopw [5, 12] (fun pv kv wr => ∃ k : Nat, k ≤ row.length ∧ kv = .int .i64 k ∧ Hid (wr.ownsRow W0.heap.size 3 1 pv (edges names (row.take k)).length (ints (ofN (edges names (row.take k))))) ∧ Hid (Below W0.heap.size W0 wr)) (fun _ kv _ => row.length - (intOf kv).toNat)
  case atStart => exact ⟨0, by omega, rfl, Lib.hid (World.ownsRow_nil _ _ _ _), Lib.hid (Below.refl _ _)⟩
  case round =>
    obtain ⟨k, hk, rfl, HO, HB⟩ := hrel
    by_cases hlt : k < row.length
    · obtain ⟨ad, rfl, hcx⟩ := TRow.get (RdS.below HR.out HB.out) k hlt
      have hsz := hsm.at hlt
      have HT := Lib.hid (Drv.take_snoc row k _ (getD_at hlt))
      have HEL := Lib.hid (Nat.le_trans (Drv.edges_len names (row.take k)) (List.length_take_le _ _))
      obtain ⟨s, hs⟩ : ∃ s, s = row.getD k ⟨#[]⟩ := ⟨_, rfl⟩
      rw [← hs] at hcx hsz HT
      clear hs
      obtain ⟨hc0, _, _, _⟩ := cell_two ((HB.out.block w.heap.size hzz).trans HG.out)
      have hk' : (k : Int) < (row.length : Int) := by omega
      have HMr := Lib.hid (HM.out.below HB.out)
      cases hpos : posO names s with
      | none =>
        have HE := Lib.hid (Drv.edges_snoc names (row.take k) s)
        rw [hpos, ← HT.out] at HE
        have HO2 : Hid (wr.ownsRow W0.heap.size 3 1 u5 (edges names (row.take (k + 1))).length (ints (ofN (edges names (row.take (k + 1)))))) := Lib.hid (by rw [HE.out]; exact HO.out)
        have HPN := Lib.hid hpos
        clear HO HT HE hpos
        go_wp2_with (at_lookup; refine wpList_look_none rfl _ _ rfl mb names HMr.out s hsz HPN.out rfl rfl ?_)
        go_wp2
        go_roundw
        case rel => exact ⟨k + 1, by omega, by go_num, HO2, HB⟩
        case measure => simp [intOf]; omega
      | some i =>
        have HE := Lib.hid (Drv.edges_snoc names (row.take k) s)
        rw [hpos, ← HT.out] at HE
        have HPN := Lib.hid hpos
        have hil := HEL.out
        clear HT hpos HEL
        have hbs := HB.out.size
        go_wp2_with (first | (at_lookup; refine wpList_look_some rfl _ _ rfl mb names HMr.out s hsz i HPN.out rfl rfl ?_) | (at_builtin; refine wpList_append_own _ rfl _ _ 51 rfl W0.heap.size 3 i0 (.int .i64 0) 1 8 Tryz.underlying51 HI.out HZ0.out HZ1.out HZ2.out rfl (by decide) _ _ _ rfl (HO.out.alloc _) ⟨wr.heap.size, 0, none⟩ 1 1 [.int .i64 (i : Int)] rfl rfl ?c1 ?c2 ?c3 ?c4 ?c5 ?_))
        case c2 => rfl
        case c3 => unfold maxLen; omega
        case c4 => omega
        case c5 => first | omega | (simp; omega)
        intro v' w1 hown1 hgrow1 _
        have HB1 := Lib.hid ((HB.out.alloc hbs (.cells #[.int .i64 (i : Int)] 3)).grown hgrow1 (by simp; omega) (fun g e => (HO.out.lt g e).1))
        have HO2 : Hid (w1.ownsRow W0.heap.size 3 1 v' (edges names (row.take (k + 1))).length (ints (ofN (edges names (row.take (k + 1)))))) := Lib.hid (by rw [HE.out, ofN_snoc, ints_snoc2, List.length_append]; exact hown1)
        clear HO HB hgrow1 hown1 hcx HE hil hbs hc0
        go_wp2
        go_roundw
        case rel => exact ⟨k + 1, by omega, by go_num, HO2, HB1⟩
        case measure => simp [intOf]; omega
    · have hk' : ¬ (k : Int) < (row.length : Int) := by omega
      have h1 := HO.out
      rw [List.take_of_length_le (by omega)] at h1
      have HF := Lib.hid (own_base h1 (Nat.le_of_lt hzz))
      have HBF := Lib.hid (below_step HBB.out HB.out HBB.out.size)
      clear h1 HO
      obtain ⟨Ap, cp, rfl⟩ := own_form HF.out
      go_wp2
      exact HP.out _ _ HF.out HBF.out
end Go.Proofs.YtbniilajffjfcaaGreatDoor

/- drv's reference: Place, twice, has, all. -/
namespace Go.Proofs.YtbniilajffjfcaaGreatDoor
open Go.RowKit Go.BigFrame
open Drv (posO edges edgeAt dupB)

def placeI (l : List ByteArray) (s : ByteArray) : Int := match posO l s with | some i => (i : Int) | none => -1
theorem placeI_first {l : List ByteArray} {s : ByteArray} {k : Nat} (hk : k < l.length) (h : l.getD k ⟨#[]⟩ = s) (hn : ∀ j, j < k → l.getD j ⟨#[]⟩ ≠ s) : placeI l s = (k : Int) := by
  unfold placeI
  rw [Drv.posO_first (k := k) (by rw [getD_at hk, h]) fun j hj e => hn j hj (by rw [List.getD_eq_getElem?_getD, e]; rfl)]
theorem placeI_none {l : List ByteArray} {s : ByteArray} (hn : ∀ j, j < l.length → l.getD j ⟨#[]⟩ ≠ s) : placeI l s = -1 := by
  unfold placeI
  rw [(Drv.posO_none l s).2 fun hm => by
    obtain ⟨j, hj, e⟩ := List.mem_iff_getElem.1 hm
    exact hn j hj (by simpa [List.getD, hj] using e)]
theorem placeI_lt (l : List ByteArray) (s : ByteArray) : -1 ≤ placeI l s ∧ placeI l s < (l.length : Int) := by
  unfold placeI
  cases h : posO l s with
  | none => exact ⟨by simp, show (-1 : Int) < _ by omega⟩
  | some i => have := Drv.posO_lt h; exact ⟨show (-1 : Int) ≤ (i : Int) by omega, show (i : Int) < _ by omega⟩
set_option maxRecDepth 100000 in
set_option maxHeartbeats 800000 in
theorem place_any (a : Value) (l : List ByteArray) (s : ByteArray) (w : World) (ha : TRow w AllB a l) :
    Calls Tryz.prog 32 #[a, .string s] w fun e w' => e = .returned (.int .i64 (placeI l s)) ∧ w' = w := by
  have HA := Lib.hid ha
  obtain ⟨A, ca, rfl, hla, hma⟩ := RdS.form ha
  unfold maxLen at hma
  clear ha
  have HP := Lib.hid (fun (k : Nat) (hk : k < l.length) (h : l.getD k ⟨#[]⟩ = s) (hn : ∀ j, j < k → l.getD j ⟨#[]⟩ ≠ s) => placeI_first hk h hn)
  have HN := Lib.hid (fun (hn : ∀ j, j < l.length → l.getD j ⟨#[]⟩ ≠ s) => placeI_none hn)
  generalize placeI l s = r at *
  go_enter Tryz.func32, Tryz.ntmps32
  go_wp2
  go_loopw [5] (fun i wr => ∃ k : Nat, k ≤ l.length ∧ i = .int .i64 k ∧ Hid (wr = w) ∧ Hid (∀ j, j < k → l.getD j ⟨#[]⟩ ≠ s)) (fun i _ => l.length - (intOf i).toNat)
  case atStart => exact ⟨0, by omega, rfl, Lib.hid rfl, Lib.hid fun j h => absurd h (Nat.not_lt_zero j)⟩
  case round =>
    obtain ⟨k, hk, rfl, HW, HS⟩ := hrel
    rw [HW.out]
    clear HW
    by_cases hlt : k < l.length
    · obtain ⟨ad, rfl, hcx⟩ := TRow.get HA.out k hlt
      obtain ⟨y, hy⟩ : ∃ y, y = l.getD k ⟨#[]⟩ := ⟨_, rfl⟩
      have HY := Lib.hid hy
      rw [← hy] at hcx
      clear hy
      by_cases hb : y = s
      · have hbe : (y.toList == s.toList) = true := by rw [str_ne_iff, hb]; simp
        have HF := Lib.hid (HP.out k hlt (by rw [← HY.out]; exact hb) HS.out)
        clear hb
        go_wp2
        go_ret
        exact ⟨ret_int HF.out.symm, rfl⟩
      · have hbe : (y.toList == s.toList) = false := by rw [str_ne_iff]; simpa using hb
        have HS' : Hid (∀ j, j < k + 1 → l.getD j ⟨#[]⟩ ≠ s) := Lib.hid fun j hj => by
          rcases Nat.lt_or_ge j k with h | h
          · exact HS.out j h
          · obtain rfl : j = k := by omega
            rw [← HY.out]; exact hb
        clear hb
        go_wp2
        go_roundw
        case rel => exact ⟨k + 1, by omega, by go_num, Lib.hid (by first | trivial | rfl), HS'⟩
        case measure => simp [intOf]; omega
    · have HF := Lib.hid (HN.out fun j hj => HS.out j (by omega))
      go_wp2
      go_ret
      exact ⟨ret_int HF.out.symm, rfl⟩
theorem dup_not {l : List ByteArray} {k : Nat} (hk : k < l.length) (h : placeI l (l.getD k ⟨#[]⟩) ≠ (k : Int)) : dupB l = true := by
  unfold dupB
  rw [decide_eq_true_eq]
  intro hn
  apply h
  unfold placeI
  rw [Drv.posO_at l k _ hn (getD_at hk)]
theorem dup_none {l : List ByteArray} (h : ∀ k, k < l.length → placeI l (l.getD k ⟨#[]⟩) = (k : Int)) : dupB l = false := by
  unfold dupB
  rw [decide_eq_false_iff_not, Classical.not_not, List.nodup_iff_pairwise_ne, List.pairwise_iff_getElem]
  intro i j hi hj hij e
  have h1 := h i hi
  have h2 := h j hj
  have e1 : l.getD i ⟨#[]⟩ = l.getD j ⟨#[]⟩ := by simpa [List.getD, hi, hj] using e
  rw [e1, h2] at h1
  omega
set_option maxRecDepth 100000 in
set_option maxHeartbeats 800000 in
theorem twice_any (a : Value) (l : List ByteArray) (w : World) (ha : TRow w AllB a l) :
    Calls Tryz.prog 54 #[a] w fun e w' => e = .returned (.bool (dupB l)) ∧ w' = w := by
  have HA := Lib.hid ha
  obtain ⟨A, ca, rfl, hla, hma⟩ := RdS.form ha
  unfold maxLen at hma
  clear ha
  have HP := Lib.hid (fun (k : Nat) (hk : k < l.length) (h : placeI l (l.getD k ⟨#[]⟩) ≠ (k : Int)) => dup_not hk h)
  have HN := Lib.hid (fun (h : ∀ k, k < l.length → placeI l (l.getD k ⟨#[]⟩) = (k : Int)) => dup_none h)
  generalize dupB l = r at *
  go_enter Tryz.func54, Tryz.ntmps54
  go_wp2
  go_loopw [3] (fun i wr => ∃ k : Nat, k ≤ l.length ∧ i = .int .i64 k ∧ Hid (wr = w) ∧ Hid (∀ j, j < k → placeI l (l.getD j ⟨#[]⟩) = (j : Int))) (fun i _ => l.length - (intOf i).toNat)
  case atStart => exact ⟨0, by omega, rfl, Lib.hid rfl, Lib.hid fun j h => absurd h (Nat.not_lt_zero j)⟩
  case round =>
    obtain ⟨k, hk, rfl, HW, HS⟩ := hrel
    rw [HW.out]
    clear HW
    by_cases hlt : k < l.length
    · obtain ⟨ad, rfl, hcx⟩ := TRow.get HA.out k hlt
      have HPL := Lib.hid (place_any _ l (l.getD k ⟨#[]⟩) w HA.out)
      have HP1 := Lib.hid (HP.out k hlt)
      have HS1 := Lib.hid (fun (h : placeI l (l.getD k ⟨#[]⟩) = (k : Int)) => show ∀ j, j < k + 1 → placeI l (l.getD j ⟨#[]⟩) = (j : Int) from fun j hj => by
        rcases Nat.lt_or_ge j k with h2 | h2
        · exact HS.out j h2
        · obtain rfl : j = k := by omega
          exact h)
      have hb := placeI_lt l (l.getD k ⟨#[]⟩)
      generalize placeI l (l.getD k ⟨#[]⟩) = p at *
      generalize l.getD k ⟨#[]⟩ = y at *
      by_cases hpk : p = (k : Int)
      · have hbe : (p != (k : Int)) = false := by rw [hpk]; simp
        have HS' := Lib.hid (HS1.out hpk)
        clear hpk
        go_wp2_with fail
        refine HPL.out.mono ?_
        rintro e w' ⟨rfl, hw⟩
        obtain rfl := hw.symm
        go_wp2
        go_roundw
        case rel => exact ⟨k + 1, by omega, by go_num, Lib.hid (by first | trivial | rfl), HS'⟩
        case measure => simp [intOf]; omega
      · have hbe : (p != (k : Int)) = true := by rw [bne_iff_ne]; exact hpk
        have HF := Lib.hid (HP1.out hpk)
        clear hpk
        go_wp2_with fail
        refine HPL.out.mono ?_
        rintro e w' ⟨rfl, hw⟩
        obtain rfl := hw.symm
        go_wp2
        go_ret
        exact ⟨ret_bool HF.out.symm, rfl⟩
    · have HF := Lib.hid (HN.out fun j hj => HS.out j (by omega))
      go_wp2
      go_ret
      exact ⟨ret_bool HF.out.symm, rfl⟩
set_option maxRecDepth 100000 in
set_option maxHeartbeats 800000 in
theorem has_any (a : Value) (c : List Int) (x : Int) (S : Nat → Prop) (w : World) (ha : IRow w S a c) :
    Calls Tryz.prog 55 #[a, .int .i64 x] w fun e w' => e = .returned (.bool (c.contains x)) ∧ w' = w := by
  obtain ⟨A, ca, rfl, hla, hma, hza, hra⟩ := ha
  have HRA := Lib.hid hra
  unfold maxLen at *
  clear hra hza
  go_enter Tryz.func55, Tryz.ntmps55
  go_wp2
  go_loopw [5] (fun i wr => ∃ k : Nat, k ≤ c.length ∧ i = .int .i64 k ∧ Hid (wr = w) ∧ Hid (∀ j, j < k → c.getD j 0 ≠ x)) (fun i _ => c.length - (intOf i).toNat)
  case atStart => exact ⟨0, by omega, rfl, Lib.hid rfl, Lib.hid fun j h => absurd h (Nat.not_lt_zero j)⟩
  case round =>
    obtain ⟨k, hk, rfl, HW, HS⟩ := hrel
    rw [HW.out]
    clear HW
    by_cases hlt : k < c.length
    · obtain ⟨ad, rfl, hbl, hSS, hc⟩ := HRA.out (by omega)
      have hcx := hc k _ (ints_get c k hlt)
      clear hc hbl hSS
      have HMEM := Lib.hid (show c.getD k 0 ∈ c by simp [List.getD, hlt])
      have HG := Lib.hid (show ∀ j, j < k + 1 → j = k ∨ j < k by omega)
      obtain ⟨y, hy⟩ : ∃ y, y = c.getD k 0 := ⟨_, rfl⟩
      have HY := Lib.hid hy
      rw [← hy] at hcx HMEM
      clear hy
      by_cases hb : y = x
      · have HF := Lib.hid (show c.contains x = true by rw [List.contains_iff_mem]; exact hb ▸ HMEM.out)
        subst hb
        go_wp2
        go_ret
        exact ⟨ret_bool HF.out.symm, rfl⟩
      · have HS' : Hid (∀ j, j < k + 1 → c.getD j 0 ≠ x) := Lib.hid fun j hj => by
          rcases HG.out j hj with rfl | h
          · rw [← HY.out]; exact hb
          · exact HS.out j h
        go_wp2
        go_roundw
        case rel => exact ⟨k + 1, by omega, by go_num, Lib.hid (by first | trivial | rfl), HS'⟩
        case measure => simp [intOf]; omega
    · have HF := Lib.hid (show c.contains x = false by
        rw [← Bool.not_eq_true, List.contains_iff_mem]
        intro hx
        obtain ⟨j, hj, e⟩ := List.mem_iff_getElem.1 hx
        exact HS.out j (by omega) (by simpa [List.getD, hj] using e))
      go_wp2
      go_ret
      exact ⟨ret_bool HF.out.symm, rfl⟩
def allIn (l some : List Int) : Bool := some.all fun x => l.contains x
set_option maxRecDepth 100000 in
set_option maxHeartbeats 800000 in
theorem all_any (a b : Value) (l c : List Int) (S T : Nat → Prop) (w : World) (ha : IRow w S a l) (hb : IRow w T b c) :
    Calls Tryz.prog 56 #[a, b] w fun e w' => e = .returned (.bool (allIn l c)) ∧ w' = w := by
  have HA := Lib.hid ha
  have HB := Lib.hid hb
  obtain ⟨A, ca, rfl, hla, hma⟩ := RdS.form ha
  obtain ⟨B, cb, rfl, hlb, hmb⟩ := RdS.form hb
  unfold maxLen at hma hmb
  clear ha hb
  go_enter Tryz.func56, Tryz.ntmps56
  go_wp2
  go_loopw [5] (fun i wr => ∃ k : Nat, k ≤ c.length ∧ i = .int .i64 k ∧ Hid (wr = w) ∧ Hid (∀ j, j < k → l.contains (c.getD j 0) = true)) (fun i _ => c.length - (intOf i).toNat)
  case atStart => exact ⟨0, by omega, rfl, Lib.hid rfl, Lib.hid fun j h => absurd h (Nat.not_lt_zero j)⟩
  case round =>
    obtain ⟨k, hk, rfl, HW, HS⟩ := hrel
    rw [HW.out]
    clear HW
    by_cases hlt : k < c.length
    · obtain ⟨ad, rfl, hcx⟩ := IRow.get HB.out k hlt
      have HH := Lib.hid (has_any _ l (c.getD k 0) S w HA.out)
      have HMEM := Lib.hid (show c.getD k 0 ∈ c by simp [List.getD, hlt])
      have HS1 := Lib.hid (fun (h : l.contains (c.getD k 0) = true) => show ∀ j, j < k + 1 → l.contains (c.getD j 0) = true from fun j hj => by
        rcases Nat.lt_or_ge j k with h2 | h2
        · exact HS.out j h2
        · obtain rfl : j = k := by omega
          exact h)
      have HF1 := Lib.hid (fun (h : l.contains (c.getD k 0) = false) => show allIn l c = false by
        unfold allIn
        rw [List.all_eq_false]
        exact ⟨_, HMEM.out, by rw [h]; simp⟩)
      clear HMEM
      generalize c.getD k 0 = y at *
      cases hc : l.contains y
      · rw [hc] at HH
        have HF := Lib.hid (HF1.out hc)
        clear hc
        go_wp2_with fail
        refine HH.out.mono ?_
        rintro e w' ⟨rfl, hw⟩
        obtain rfl := hw.symm
        go_wp2
        go_ret
        exact ⟨ret_bool HF.out.symm, rfl⟩
      · rw [hc] at HH
        have HS' := Lib.hid (HS1.out hc)
        clear hc
        go_wp2_with fail
        refine HH.out.mono ?_
        rintro e w' ⟨rfl, hw⟩
        obtain rfl := hw.symm
        go_wp2
        go_roundw
        case rel => exact ⟨k + 1, by omega, by go_num, Lib.hid (by first | trivial | rfl), HS'⟩
        case measure => simp [intOf]; omega
    · have HF := Lib.hid (show allIn l c = true by
        unfold allIn
        rw [List.all_eq_true]
        intro x hx
        obtain ⟨j, hj, e⟩ := List.mem_iff_getElem.1 hx
        have := HS.out j (by omega)
        simpa [List.getD, hj, e] using this)
      go_wp2
      go_ret
      exact ⟨ret_bool HF.out.symm, rfl⟩
end Go.Proofs.YtbniilajffjfcaaGreatDoor
