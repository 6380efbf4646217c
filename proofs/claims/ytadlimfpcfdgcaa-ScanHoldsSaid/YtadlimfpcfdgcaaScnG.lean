/- scan: the map of names' letters; find. -/
import Derived.Test.YtadlimfpcfdgcaaScnF
set_option linter.unusedVariables false
set_option linter.unusedSimpArgs false
namespace Go.Proofs.Ytadlimfpcfdgcaa
open Go Go.RowKit Go.BigFrame Go.Maps
open Scn (runOf wins winsTo firsts)

theorem zeroInt (w : World) : (zeroValue 3).run Try.prog w = .ok (.int .i64 0) w := by kernel_rfl
/-- Block mb is a map of numbers: its keys, what stands at them. -/
def CountAt (w : World) (mb : Nat) (ks : List ByteArray) (c : ByteArray → Nat) (n : Nat) : Prop :=
  ∃ D : DataW Unit, w.ownsMap Try.prog 9 (plainElem Try.prog 3) mb n D ∧ ∀ s : ByteArray, has D (kS s) = isIn s ks ∧ D.atKey (kS s) (.lit (.int .i64 0)) = .lit (.int .i64 (c s : Int))
theorem CountAt.made (w : World) : CountAt (w.alloc (.map #[] 0)) w.heap.size [] (fun _ => 0) 0 := ⟨_, World.ownsMap_made _ _ _ _, fun s => ⟨rfl, rfl⟩⟩
theorem CountAt.lt {w : World} {mb : Nat} {ks : List ByteArray} {c : ByteArray → Nat} {n : Nat} (h : CountAt w mb ks c n) : mb < w.heap.size := by
  obtain ⟨D, h1, _⟩ := h; exact h1.lt
theorem CountAt.block {w w' : World} {mb : Nat} {ks : List ByteArray} {c : ByteArray → Nat} {n : Nat} (h : CountAt w mb ks c n) (hb : w'.heap[mb]? = w.heap[mb]?) : CountAt w' mb ks c n := by
  obtain ⟨D, ⟨es, cl, h1, h3⟩, h2⟩ := h; exact ⟨D, ⟨es, cl, hb.trans h1, h3⟩, h2⟩
theorem CountAt.put {w w' : World} {mb n x : Nat} {ks : List ByteArray} {c : ByteArray → Nat} {s : ByteArray} {D : DataW Unit} (ho : w.ownsMap Try.prog 9 (plainElem Try.prog 3) mb n D)
    (hD : ∀ s : ByteArray, has D (kS s) = isIn s ks ∧ D.atKey (kS s) (.lit (.int .i64 0)) = .lit (.int .i64 (c s : Int)))
    (h : w'.ownsMap Try.prog 9 (plainElem Try.prog 3) mb (n + 1) (D.put (kS s) (.lit (.int .i64 (x : Int))))) : CountAt w' mb (ks ++ [s]) (fun t => if t = s then x else c t) (n + 1) := by
  refine ⟨_, h, fun t => ?_⟩
  rw [isIn_snoc]
  by_cases e : t = s
  · subst e
    rw [has_put_same ho.isMap (kS_key t), atKey_put_same ho.isMap (kS_key t)]
    dsimp only
    rw [if_pos rfl]
    simp
  · have hne : kS t ≠ kS s := fun h => e (kS_inj h)
    rw [has_put_other hne, atKey_put_other hne, (hD t).1, (hD t).2]
    dsimp only
    rw [if_neg e]
    simp [Ne.symm e]
/-- Only keys matter. -/
theorem CountAt.keys {w : World} {mb : Nat} {ks ks' : List ByteArray} {c c' : ByteArray → Nat} {n : Nat} (h : CountAt w mb ks c n) (hk : ∀ s, isIn s ks' = isIn s ks) (hc : ∀ s, c' s = c s) : CountAt w mb ks' c' n := by
  obtain ⟨D, h1, h2⟩ := h
  exact ⟨D, h1, fun s => ⟨by rw [hk]; exact (h2 s).1, by rw [hc]; exact (h2 s).2⟩⟩
def headsF (names : List ByteArray) : List ByteArray := (names.filter Nam.okP).map Nam.headS
def toldF (names ws : List ByteArray) : List ByteArray := names.filter fun s => Nam.okP s && isIn (Nam.headS s) ws
theorem headsF_yes (l : List ByteArray) (s : ByteArray) (h : Nam.okP s = true) : headsF (l ++ [s]) = headsF l ++ [Nam.headS s] := by simp [headsF, h]
theorem headsF_no (l : List ByteArray) (s : ByteArray) (h : Nam.okP s = false) : headsF (l ++ [s]) = headsF l := by simp [headsF, h]
def SmallT (l : List ByteArray) : Prop := ∀ s ∈ l, s.size ≤ maxLen
theorem getT_at {l : List ByteArray} {k : Nat} (h : k < l.length) : l[k]? = some (l.getD k ⟨#[]⟩) := by simp [List.getD, h]
theorem getT_mem {l : List ByteArray} {k : Nat} (h : k < l.length) : l.getD k ⟨#[]⟩ ∈ l := List.mem_of_getElem? (getT_at h)
theorem takeT (l : List ByteArray) (k : Nat) (h : k < l.length) : l.take (k + 1) = l.take k ++ [l.getD k ⟨#[]⟩] := by
  rw [List.take_succ_eq_append_getElem h]; simp [List.getD, h]
/-- A finder, with its map. -/
structure FindAt (w W : World) (fb mb : Nat) (ks : List ByteArray) (c : ByteArray → Nat) (n : Nat) : Prop where
  box : W.heap[fb]? = some (.cells #[.map (some mb)] 70 (0, 0))
  map : CountAt W mb ks c n
  fbl : w.heap.size ≤ fb
  mbl : w.heap.size ≤ mb
  ne : fb ≠ mb
theorem own_map_below {w w2 : World} {mb n : Nat} {D : DataW Unit} {k : TypeId} {R : Value → Option (DataW Unit × List MemPlace)} (h : w.ownsMap Try.prog k R mb n D) (hb : Below w.heap.size w w2) : w2.ownsMap Try.prog k R mb n D := by
  have hl := h.lt
  obtain ⟨es, cl, h1, h3⟩ := h
  exact ⟨es, cl, (hb.block mb hl).trans h1, h3⟩
def FindPost (w : World) (names : List ByteArray) (e : Ending) (W : World) : Prop :=
  Below w.heap.size w W ∧ ∃ fb mb n, e = .returned (.pointer (some ⟨fb, 0, none⟩)) ∧ FindAt w W fb mb (headsF names) (fun _ => 0) n ∧ n ≤ names.length
set_option maxRecDepth 100000 in
set_option maxHeartbeats 4000000 in
theorem find_any (a : Value) (names : List ByteArray) (B : Nat) (w : World) (ha : Reads w B a (strs names)) (hBw : B ≤ w.heap.size) (hs : SmallT names) (hn : names.length ≤ 1000000) :
    Calls Try.prog 22 #[a] w (FindPost w names) := by
  have HP := Lib.hid (fun (W : World) (fb mb n : Nat) (hb : Below w.heap.size w W) (h : FindAt w W fb mb (headsF names) (fun _ => 0) n) (hn : n ≤ names.length) => show FindPost w names (.returned (.pointer (some ⟨fb, 0, none⟩))) W from ⟨hb, fb, mb, n, rfl, h, hn⟩)
  generalize FindPost w names = post at *
  obtain ⟨A, ca, rfl, hla, hma, hza, hra⟩ := ha
  simp only [strs_len] at *
  have HRA := Lib.hid hra
  clear hra
  have HS := Lib.hid hs
  clear hs
  unfold maxLen at hma
  have hmm := @run_makeMap Try.prog
  have hst : FindAt w ((w.alloc (.map #[] 0)).alloc (.cells #[.map (some w.heap.size)] 70)) (w.heap.size + 1) w.heap.size [] (fun _ => 0) 0 :=
    ⟨by have := heap_alloc_new (w.alloc (.map #[] 0)) (.cells #[.map (some w.heap.size)] 70); simpa using this, (CountAt.made w).block (old_block _ _ _ (by simp)), by omega, Nat.le_refl _, by omega⟩
  have hbs : Below w.heap.size w ((w.alloc (.map #[] 0)).alloc (.cells #[.map (some w.heap.size)] 70)) := ((Below.refl _ w).alloc (Nat.le_refl _) _).alloc (by simp) _
  have HST := Lib.hid (And.intro hst hbs)
  clear hst hbs
  go_enter Try.func22, Try.ntmps22
  go_upto_region 2 with (fail)
  generalize (w.alloc (.map #[] 0)).alloc (.cells #[.map (some w.heap.size)] 70) = w1 at *
  clear hmm
  go_wp2
  go_loopw [14, 5, 6, 7, 8] (fun i _ _ _ _ wr => ∃ k : Nat, k ≤ names.length ∧ i = .int .i64 k ∧ Hid (Below w.heap.size w wr) ∧ Hid (∃ n, n ≤ k ∧ FindAt w wr (w.heap.size + 1) w.heap.size (headsF (names.take k)) (fun _ => 0) n)) (fun i _ _ _ _ _ => names.length - (intOf i).toNat)
  case atStart => exact ⟨0, by omega, rfl, Lib.hid HST.out.2, Lib.hid ⟨0, Nat.le_refl _, HST.out.1⟩⟩
  case round =>
    obtain ⟨k, hk, rfl, HB, HFn⟩ := hrel
    obtain ⟨n, hnk, hF⟩ := HFn.out
    have HF := Lib.hid hF
    clear hF HFn
    have hw1 : IntKind.i64.wrap ((k : Int) + 1) = (k : Int) + 1 := IntWalk.i64_in _ (by omega)
    by_cases hlt : k < names.length
    · obtain ⟨ad, rfl, hbl, hc⟩ := HRA.out (by omega)
      have hcx := (HB.out.cell (by rw [add_block]; omega)).trans (hc k _ (strs_get names k hlt))
      clear hc
      have hi1 : (k : Int) < (names.length : Int) := by omega
      have hi0 : (0 : Int) ≤ (k : Int) := by omega
      have hsz := HS.out _ (getT_mem hlt)
      have HTK := Lib.hid (takeT names k hlt)
      obtain ⟨x, hx⟩ : ∃ x, x = names.getD k ⟨#[]⟩ := ⟨_, rfl⟩
      rw [← hx] at hcx HTK hsz
      clear hx
      cases hok : Nam.okP x with
      | true =>
        have HHF := Lib.hid (headsF_yes (names.take k) x hok)
        have HOK := Lib.hid hok
        clear hok
        obtain ⟨D, hD1, hD2⟩ := HF.out.map
        have HH := Lib.hid (show (Nam.headS x).size ≤ maxLen by rw [Nam.head_size x (by have := Nam.okP_yes x HOK.out; omega)]; decide)
        go_wp2_with (first | (go_at_call 35; refine (Nam.parse_yes x _ hsz HOK.out).mono ?_; rintro e w2 ⟨rfl, hb2⟩; have hc2 : w2.cell? ⟨w.heap.size + 1, 0, none⟩ = some (.map (some w.heap.size)) := (by rw [cell_of_row _ _ _ _ _ _ ((hb2.block _ (block_lt HF.out.box)).trans HF.out.box)]; rfl); have hD3 := own_map_below hD1 hb2) | (at_mapUpdate; go_loud (refine wpList_mapUpdate_own _ rfl _ _ _ 68 rfl 9 3 keyStr Try.underlying68 _ w.heap.size n D rfl hD3 (by unfold maxLen; omega) _ _ (kS (Nam.headS x)) rfl rfl (Go.WideMaps.keyOf_string_mk Try.underlying9 HH.out) (.lit (.int .i64 0)) [] (plainElem_int Try.underlying3 (by decide)) ?_); intro w3 hown3 hgrow3))
        go_roundw
        case rel =>
          have hfb := block_lt HF.out.box
          have hs2 := hb2.size
          refine ⟨k + 1, by omega, by go_num, Lib.hid ((below_step HB.out hb2 HB.out.size).grown hgrow3 (Nat.le_trans HB.out.size hs2) (fun j e => by cases e; omega)), Lib.hid ⟨n + 1, by omega, (hgrow3.block _ (by omega) (fun e => by injection e with e; omega)).trans ((hb2.block _ hfb).trans HF.out.box), ?_, by omega, Nat.le_refl _, by omega⟩⟩
          refine (CountAt.put (x := 0) hD3 hD2 hown3).keys (fun s => ?_) (fun s => ?_)
          · rw [HTK.out, HHF.out]
          · simp
        case measure => simp [intOf]; omega
      | false =>
        have HHF := Lib.hid (headsF_no (names.take k) x hok)
        have HOK := Lib.hid hok
        clear hok
        go_wp2_with (go_at_call 35; refine (Nam.parse_no x _ hsz HOK.out).mono ?_; rintro e w2 ⟨rfl, hb2⟩)
        go_roundw
        case rel =>
          refine ⟨k + 1, by omega, by go_num, Lib.hid (below_step HB.out hb2 HB.out.size), Lib.hid ⟨n, by omega, (hb2.block _ (block_lt HF.out.box)).trans HF.out.box, ?_, by omega, Nat.le_refl _, by omega⟩⟩
          rw [HTK.out, HHF.out]
          exact HF.out.map.block (hb2.block _ HF.out.map.lt)
        case measure => simp [intOf]; omega
    · have HE := Lib.hid (show names.take k = names from List.take_of_length_le (by omega))
      have hi1 : ¬ (k : Int) < (names.length : Int) := by omega
      have h := HF.out
      rw [HE.out] at h
      have HQ := Lib.hid h
      clear h
      go_wp2
      exact HP.out _ _ _ n HB.out HQ.out (by omega)
end Go.Proofs.Ytadlimfpcfdgcaa
