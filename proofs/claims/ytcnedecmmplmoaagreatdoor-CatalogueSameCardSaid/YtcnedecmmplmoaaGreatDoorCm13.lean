/- Contracts of ranges.Allows, Best. -/
import Derived.Test.YtcnedecmmplmoaaGreatDoorCm12
set_option linter.unusedVariables false
set_option linter.unusedSimpArgs false
namespace Go.Proofs.YtcnedecmmplmoaaGreatDoor
open Go.RowKit Go.BigFrame
open Ver (cmpV BL)

def allowR (r : List (List Bd)) (s : ByteArray) : Bool := mayR r && allowsB r s
theorem tests_yes (r : List (List Bd)) (v : Value) (w : World) (h : RngAt w v r) (hsz : Short r) (hm : mayR r = true) : Calls Tryz.prog 83 #[v] w (TestsYes r w) :=
  (tests_any r v w h hsz).mono fun e w' h => by unfold Tests at h; rwa [if_pos hm] at h
theorem tests_no (r : List (List Bd)) (v : Value) (w : World) (h : RngAt w v r) (hsz : Short r) (hm : mayR r = false) : Calls Tryz.prog 83 #[v] w (TestsNo w) :=
  (tests_any r v w h hsz).mono fun e w' h => by unfold Tests at h; rwa [hm, if_neg (by simp)] at h
set_option maxRecDepth 100000 in
set_option maxHeartbeats 800000 in
theorem allow_any (r : List (List Bd)) (v : Value) (s : ByteArray) (w : World) (h : RngAt w v r) (hsz : Short r) (hs : s.size ≤ 1000000) :
    Calls Tryz.prog 49 #[v, .string s] w fun e w' => e = .returned (.bool (allowR r s)) ∧ Below w.heap.size w w' := by
  cases hm : mayR r
  · have HT := Lib.hid (tests_no r v w h hsz hm)
    have HF := Lib.hid (show allowR r s = false by unfold allowR; rw [hm, Bool.false_and])
    clear h hm hsz
    go_enter Tryz.func49, Tryz.ntmps49
    go_wp2_with (go_at_call 83; refine HT.out.mono ?_; rintro e w2 ⟨rfl, hb2⟩)
    go_ret
    exact ⟨ret_bool HF.out.symm, hb2⟩
  · have HT := Lib.hid (tests_yes r v w h hsz hm)
    have HF := Lib.hid (show allowR r s = allowsB r s by unfold allowR; rw [hm, Bool.true_and])
    have HM := Lib.hid hm
    clear h hm hsz
    go_enter Tryz.func49, Tryz.ntmps49
    go_wp2_with (first | (go_at_call 83; refine HT.out.mono ?_; rintro e w2 ⟨u, rfl, hu, hb2⟩) | (go_at_call 84; refine (allows_any r _ s _ (by assumption) HM.out hs).mono ?_; rintro e w3 ⟨rfl, hb3⟩))
    go_ret
    exact ⟨ret_bool HF.out.symm, below_step hb2 hb3 hb2.size⟩
def bestStep (r : List (List Bd)) (l : List ByteArray) (best : Int) (i : Nat) : Int :=
  if allowsB r (l.getD i ⟨#[]⟩) = true then (if 0 ≤ best ∧ cmpS (l.getD i ⟨#[]⟩) (l.getD best.toNat ⟨#[]⟩) ≤ 0 then best else (i : Int)) else best
def bestN (r : List (List Bd)) (l : List ByteArray) : Nat → Int
  | 0 => -1
  | k + 1 => bestStep r l (bestN r l k) k
def bestR (r : List (List Bd)) (l : List ByteArray) : Int := if mayR r = true then bestN r l l.length else -1
theorem bestN_range (r : List (List Bd)) (l : List ByteArray) : ∀ k, bestN r l k = -1 ∨ ∃ j : Nat, j < k ∧ bestN r l k = (j : Int)
  | 0 => .inl rfl
  | k + 1 => by
    have ih : bestN r l k = -1 ∨ ∃ j : Nat, j < k + 1 ∧ bestN r l k = (j : Int) := (bestN_range r l k).imp id fun ⟨j, h, e⟩ => ⟨j, by omega, e⟩
    unfold bestN bestStep
    split
    · split
      · exact ih
      · exact .inr ⟨k, by omega, rfl⟩
    · exact ih
end Go.Proofs.YtcnedecmmplmoaaGreatDoor

/- Contract of ranges.Parse. -/
namespace Go.Proofs.YtcnedecmmplmoaaGreatDoor
open Go.RowKit Go.BigFrame
open Ver (cmpV BL parts)

def rowB (t : ByteArray) : List Bd := (piecesB 44 t).map rawB
def rowsB (s : ByteArray) : List (List Bd) := (piecesB 124 s).map rowB
theorem first_le (l : BL) : ∀ ops, (Rng.firstOf ops l).2.length ≤ l.length
  | [] => Nat.zero_le _
  | o :: r => by
    unfold Rng.firstOf
    by_cases h : Lib.hasPrefix l (Rng.sgnL o) = true
    · rw [if_pos h]
      show (Lib.trimPrefix l (Rng.sgnL o)).length ≤ _
      unfold Lib.trimPrefix
      rw [if_pos h, List.length_drop]
      omega
    · rw [if_neg h]; exact first_le l r
theorem size_of (l : BL) : (⟨l.toArray⟩ : ByteArray).size = l.length := by simp [ByteArray.size]
theorem raw_le (s : ByteArray) : (rawB s).2.size ≤ s.size := by
  show (⟨(Rng.rawL s.data.toList).2.toArray⟩ : ByteArray).size ≤ _
  rw [size_of]
  unfold Rng.rawL
  by_cases h : s.data.toList = [42]
  · rw [if_pos h]; exact Nat.zero_le _
  · rw [if_neg h]
    have := first_le s.data.toList [2, 4, 6, 1, 3, 5, 7]
    rwa [len_data] at this
theorem cell_lit {w : World} {g k : Nat} {v : Value} (h : w.cell? ((⟨g, 0, none⟩ : Addr).add k) = some v) : w.cell? ⟨g, k, none⟩ = some v := by
  have e : (⟨g, 0, none⟩ : Addr).add k = ⟨g, k, none⟩ := by unfold Addr.add; by_cases h0 : k = 0 <;> simp [h0]
  rwa [e] at h
theorem parts_le (c : UInt8) : ∀ l : BL, ∀ p ∈ parts c l, p.length ≤ l.length
  | [], p, h => by simp [parts] at h; simp [h]
  | x :: r, p, h => by
    unfold parts at h
    split at h
    · rcases List.mem_cons.1 h with h | h
      · subst h; simp
      · have := parts_le c r p h; simp; omega
    · split at h
      · rename_i he; exact absurd he (Ver.parts_ne c r)
      · rename_i q qs he
        rcases List.mem_cons.1 h with h | h
        · subst h
          have := parts_le c r q (by rw [he]; simp)
          simp; omega
        · have := parts_le c r p (by rw [he]; simp [h]); simp; omega
theorem piece_le (c : UInt8) (s t : ByteArray) (h : t ∈ piecesB c s) : t.size ≤ s.size := by
  have h2 : t.data.toList ∈ parts c s.data.toList := by rw [← pieces_data]; exact List.mem_map.2 ⟨t, h, rfl⟩
  have := parts_le c _ _ h2
  rwa [len_data, len_data] at this
theorem rows_short (s : ByteArray) (h : s.size ≤ 1000000) : Short (rowsB s) := by
  intro row hr b hb
  obtain ⟨t, ht, rfl⟩ := List.mem_map.1 hr
  obtain ⟨u, hu, rfl⟩ := List.mem_map.1 hb
  have h1 := piece_le 124 s t ht
  have h2 := piece_le 44 t u hu
  have h3 := raw_le u
  omega
theorem reads_block {w : World} {g : Nat} {T : TypeId} {xs : List Value} (h : w.heap[g]? = some (.cells xs.toArray T (0, 0))) (hn : xs.length ≤ 1000000000) : RdS w AllB (.slice (some ⟨g, 0, none⟩) xs.length xs.length) xs.length xs :=
  ⟨_, _, rfl, Nat.le_refl _, by unfold maxLen; omega, (fun h => by cases h), fun _ => ⟨_, rfl, block_lt h, trivial, fun j u hu => row_cells h j u (by simpa using hu)⟩⟩
/-- A range in new blocks. -/
def FrAt (c : Nat) (w : World) (v : Value) (r : List (List Bd)) : Prop := OutS BRow w (fun b => c ≤ b) v r
theorem items_new {α : Type} {R : World → (Nat → Prop) → Value → α → Prop} (K : Keeps R) {c : Nat} {w w' : World} {v v' : Value} {vs : List Value} {r : List α} (h : ItemsS R w (newS c v.ownBlock) vs r) (hs : SameS w w' (fun b => v.ownBlock ≠ some b)) (hm : Moved w v v') : ItemsS R w' (newS c v'.ownBlock) vs r := by
  refine ((h.weak K (S' := fun b => c ≤ b ∧ v.ownBlock ≠ some b ∧ v'.ownBlock ≠ some b) fun b hb hS => ⟨hS.1, hS.2, ?_⟩).keep K (hs.weak fun b _ hS => hS.2.1)).weak K fun b _ hS => ⟨hS.1, hS.2.2⟩
  rcases hm with e | ⟨g, e, hg⟩
  · rw [e]; exact hS.2
  · rw [e]; intro e2; cases e2; omega
def PFYes (s : ByteArray) (w : World) (e : Ending) (w' : World) : Prop := ∃ u, e = .returned (.tuple #[u, .int .i64 0]) ∧ FrAt w.heap.size w' u (rowsB s) ∧ Below w.heap.size w w'
def PRYes (s : ByteArray) (w : World) (e : Ending) (w' : World) : Prop := ∃ u, e = .returned (.tuple #[u, .int .i64 0]) ∧ RngAt w' u (rowsB s) ∧ Below w.heap.size w w'
def PRNo (w : World) (e : Ending) (w' : World) : Prop := e = .returned (.tuple #[.slice none 0 0, .int .i64 140]) ∧ Below w.heap.size w w'
def PF (s : ByteArray) (w : World) (e : Ending) (w' : World) : Prop := if mayR (rowsB s) = true then PFYes s w e w' else PRNo w e w'
def PR (s : ByteArray) (w : World) (e : Ending) (w' : World) : Prop := if mayR (rowsB s) = true then PRYes s w e w' else PRNo w e w'
theorem take_map_next {α β : Type} (f : α → β) (l : List α) (k : Nat) (x : α) (hk : l[k]? = some x) : (l.take (k + 1)).map f = (l.take k).map f ++ [f x] := by rw [take_next l k x hk, List.map_append]; rfl
theorem len_take_map {α β : Type} (f : α → β) (l : List α) (k : Nat) (hk : k ≤ l.length) : ((l.take k).map f).length = k := by simp; omega
set_option maxRecDepth 100000 in
set_option maxHeartbeats 4000000 in
theorem rparse_fr (s : ByteArray) (w : World) (hs : s.size ≤ 1000000) : Calls Tryz.prog 114 #[.string s] w (PF s w) := by
  obtain ⟨i0, hi, hz0, hz1, hz2⟩ := info_parts infoBRow
  obtain ⟨i1, hi1, hy0, hy1, hy2⟩ := info_parts infoBound
  have HI := Lib.hid hi
  have HZ0 := Lib.hid hz0
  have HZ1 := Lib.hid hz1
  have HZ2 := Lib.hid hz2
  have HI1 := Lib.hid hi1
  have HY0 := Lib.hid hy0
  have HY1 := Lib.hid hy1
  have HY2 := Lib.hid hy2
  have HSH := Lib.hid (rows_short s hs)
  have hpl := pieces_le 124 s
  have HPM := Lib.hid (piece_le 124 s)
  clear hi hz0 hz1 hz2 hi1 hy0 hy1 hy2
  go_enter Tryz.func114, Tryz.ntmps114
  go_wp2_with (go_at_call 131; refine (split_any 124 s _ (by omega)).mono ?_; rintro e w' ⟨rfl, rfl⟩)
  obtain ⟨ps, hps⟩ : ∃ ps, ps = piecesB 124 s := ⟨_, rfl⟩
  have HPS := Lib.hid hps
  rw [← hps] at HPM hpl ⊢
  obtain ⟨W1, hW1, hg1, hq1, hz1, hB1⟩ := row_at w w (.cells (ps.map Value.string).toArray 9) (Below.refl _ _)
  rw [← hW1]
  have hrd1 := reads_block hg1 (by simp; omega)
  rw [List.length_map] at hrd1
  have HRD1 := Lib.hid hrd1
  have HB1 := Lib.hid hB1
  have HZW := Lib.hid hz1
  clear hW1 hg1 hq1 hz1 hB1 hrd1 hps
  go_loopw [4, 15] (fun rv i wr => ∃ (k : Nat) (vs : List Value), k ≤ ps.length ∧ i = .int .i64 (k : Int) ∧ Hid (wr.ownsRow W1.heap.size 58 1 rv k vs) ∧ Hid (ItemsS BRow wr (newS W1.heap.size rv.ownBlock) vs ((ps.take k).map rowB)) ∧ Hid (Below W1.heap.size W1 wr)) (fun _ i _ => ps.length - (intOf i).toNat)
  case atStart => exact ⟨0, [], by omega, rfl, Lib.hid (World.ownsRow_nil _ _ _ _), Lib.hid (ItemsS.nil _ _ _), Lib.hid (Below.refl _ _)⟩
  case round =>
    obtain ⟨k, vs, hk, rfl, HOWN, HIT, HB⟩ := hrel
    obtain ⟨A1, cap1, rfl⟩ := own_form HOWN.out
    by_cases hlt : k < ps.length
    · have hltI : (k : Int) < (ps.length : Int) := by omega
      have hk0 : (0 : Int) ≤ (k : Int) := by omega
      obtain ⟨_, _, e', -, -, -, hcs⟩ := HRD1.out.below HB.out
      cases e'
      obtain ⟨_, e', -, -, hc⟩ := hcs (by omega)
      cases e'
      obtain ⟨t, htt⟩ : ∃ t, t = ps.getD k ⟨#[]⟩ := ⟨_, rfl⟩
      have HTK := Lib.hid (show ps[k]? = some t by rw [htt]; exact getD_get ps k _ hlt)
      have hck := cell_lit (hc k (.string t) (by rw [List.getElem?_map, HTK.out]; rfl))
      have htz : t.size ≤ 1000000 := by have := HPM.out t (List.mem_of_getElem? HTK.out); omega
      clear hc hcs htt
      have hpl2 := pieces_le 44 t
      have HPM2 := Lib.hid (piece_le 44 t)
      go_wp2_with (go_at_call 131; refine (split_any 44 t _ (by omega)).mono ?_; rintro e w' ⟨rfl, rfl⟩)
      obtain ⟨qs, hqs⟩ : ∃ qs, qs = piecesB 44 t := ⟨_, rfl⟩
      have HQS := Lib.hid hqs
      rw [← hqs] at HPM2 hpl2 ⊢
      obtain ⟨wo, hwo⟩ : ∃ wo : World, wo = wr := ⟨_, rfl⟩
      rw [← hwo] at HOWN HIT HB hck ⊢
      clear hwo wr
      obtain ⟨W2, hW2, hg2, hq2, hz2, hB2⟩ := row_at wo wo (.cells (qs.map Value.string).toArray 9) (Below.refl _ _)
      rw [← hW2]
      have hrd2 := reads_block hg2 (by simp; omega)
      rw [List.length_map] at hrd2
      have HRD2 := Lib.hid hrd2
      have HB2 := Lib.hid hB2
      have HZ2W := Lib.hid hz2
      clear hW2 hg2 hq2 hz2 hB2 hrd2 hqs hck
      go_loopw [7, 22] (fun lv j wq => ∃ (m : Nat), m ≤ qs.length ∧ j = .int .i64 (m : Int) ∧ Hid (wq.ownsRow W2.heap.size 57 2 lv m (rowCells ((qs.take m).map rawB))) ∧ Hid (Below W2.heap.size W2 wq)) (fun _ j _ => qs.length - (intOf j).toNat)
      case atStart => exact ⟨0, by omega, rfl, Lib.hid (World.ownsRow_nil _ _ _ _), Lib.hid (Below.refl _ _)⟩
      case round =>
        obtain ⟨m, hm, rfl, HOWI, HBI⟩ := hrel
        obtain ⟨A4, cap4, rfl⟩ := own_form HOWI.out
        by_cases hmt : m < qs.length
        · have hmtI : (m : Int) < (qs.length : Int) := by omega
          have hm0 : (0 : Int) ≤ (m : Int) := by omega
          obtain ⟨_, _, e', -, -, -, hcs⟩ := HRD2.out.below HBI.out
          cases e'
          obtain ⟨_, e', -, -, hc⟩ := hcs (by omega)
          cases e'
          obtain ⟨x, hxx⟩ : ∃ x, x = qs.getD m ⟨#[]⟩ := ⟨_, rfl⟩
          have HXK := Lib.hid (show qs[m]? = some x by rw [hxx]; exact getD_get qs m _ hmt)
          have hck := cell_lit (hc m (.string x) (by rw [List.getElem?_map, HXK.out]; rfl))
          clear hc hcs hxx
          go_wp2_with fail
          refine (bound_any x _).mono ?_
          rintro e w3 ⟨rfl, hb3⟩
          obtain ⟨o, tx, hraw⟩ : ∃ o tx, (o, tx) = rawB x := ⟨_, _, rfl⟩
          rw [← hraw]
          dsimp only
          have HRAW := Lib.hid hraw
          have HB3 := Lib.hid hb3
          have HOW3 := Lib.hid (own_below HOWI.out hb3 (Nat.le_refl _))
          have HSZ3 := Lib.hid (Nat.le_trans HBI.out.size hb3.size)
          clear hraw hb3 hck
          go_wp2_with (at_builtin; refine wpList_appK rfl _ _ 58 rfl W2.heap.size 57 i1 _ 2 24 Tryz.underlying58 HI1.out HY0.out HY1.out HY2.out rfl (by decide) _ _ _ rfl (HOW3.out.alloc _) ⟨w3.heap.size, 0, none⟩ 1 1 [.int .u8 (o : Int), .string tx] rfl rfl ?c1 ?c2 ?c3 ?c4 ?c5 ?_)
          case c1 => intro j u hu; exact row_cells (heap_alloc_new _ _) j u (by simpa using hu)
          case c2 => simp [Value.oneCell']
          case c3 => unfold maxLen; omega
          case c4 => omega
          case c5 => have := HSZ3.out; simp; omega
          intro v' w6 hown6 hgrow6 hmov6
          obtain ⟨A6, cap6, rfl⟩ := own_form hown6
          have hb36 : Below wr.heap.size wr (w3.alloc (.cells #[.int .u8 (o : Int), .string tx] 57)) := HB3.out.alloc HB3.out.size _
          have HR5 := Lib.hid ((below_step HBI.out hb36 HBI.out.size).grown hgrow6 (by have := HSZ3.out; simp; omega) fun g hg => (HOW3.out.lt g hg).1)
          have HR1 := Lib.hid (show w6.ownsRow W2.heap.size 57 2 (.slice A6 (m + 1) cap6) (m + 1) (rowCells ((qs.take (m + 1)).map rawB)) by
            rw [take_map_next rawB qs m x HXK.out, rowCells_snoc, ← HRAW.out, List.map_take]; exact hown6)
          clear hown6 hgrow6 hmov6 hb36
          go_wp2
          go_roundw
          case rel => exact ⟨m + 1, by omega, by go_num, HR1, HR5⟩
          case measure => simp [intOf]; omega
        · have hme : m = qs.length := by omega
          subst hme
          have hmtI : ¬ (qs.length : Int) < (qs.length : Int) := by omega
          have hrow : (qs.take qs.length).map rawB = rowB t := by rw [List.take_length, HQS.out]; rfl
          have hrl : (rowB t).length = qs.length := by rw [← hrow]; simp
          have howi := HOWI.out
          rw [hrow] at howi
          have hbo : Below wo.heap.size wo wr := HB2.out.trans (HBI.out.mono (by have := HZ2W.out; omega))
          have hown2 := own_below HOWN.out hbo (Nat.le_refl _)
          have hnew : BRow wr (newS W1.heap.size (Value.slice A1 k cap1).ownBlock) (.slice A4 qs.length cap4) (rowB t) := by
            unfold BRow
            rw [hrl]
            exact (RdS.own howi).weak fun g _ hS => ⟨by have := HB.out.size; have := HZ2W.out; omega, fun e => by have := (HOWN.out.lt g e).2; have := HZ2W.out; omega⟩
          have hit2 := ((HIT.out.keep BRow.keeps (SameS.below hbo _)).snoc hnew).keep BRow.keeps (SameS.below ((Below.refl wr.heap.size wr).alloc (Nat.le_refl _) (.cells #[.slice A4 qs.length cap4] 58)) _)
          rw [← take_map_next rowB ps k t HTK.out] at hit2
          have HIT2 := Lib.hid hit2
          have HOWN2 := Lib.hid hown2
          have hb2 := (HB.out.trans (hbo.mono HB.out.size)).alloc (Nat.le_trans HB.out.size hbo.size) (.cells #[.slice A4 qs.length cap4] 58)
          have HB22 := Lib.hid hb2
          have HZB := Lib.hid (Nat.le_trans HB.out.size hbo.size)
          clear hit2 hnew hown2 hrow hrl howi hb2 hbo
          go_wp2_with (at_builtin; refine wpList_app rfl _ _ 38 rfl W1.heap.size 58 i0 (.slice none 0 0) 24 Tryz.underlying38 HI.out HZ0.out HZ1.out HZ2.out rfl _ k vs rfl (HOWN2.out.alloc _) ⟨wr.heap.size, 0, none⟩ 1 1 [.slice A4 qs.length cap4] rfl rfl ?c1 ?c2 ?c3 ?c4 ?c5 ?_)
          case c2 => simp [Value.oneCell']
          case c3 => unfold maxLen; omega
          case c4 => omega
          case c5 => have := HZB.out; simp; omega
          intro v' w6 hown6 hgrow6 hmov6
          obtain ⟨A6, cap6, rfl⟩ := own_form hown6
          have HR1 := Lib.hid hown6
          have HR2 := Lib.hid (items_new BRow.keeps HIT2.out (SameS.grown hgrow6) hmov6)
          have HR5 := Lib.hid (HB22.out.grown hgrow6 (by have := HZB.out; simp; omega) fun g hg => (HOWN2.out.lt g hg).1)
          clear hown6 hgrow6 hmov6
          go_wp2
          go_roundw
          case rel => exact ⟨k + 1, _, by omega, by go_num, HR1, HR2, HR5⟩
          case measure => simp [intOf]; omega
    · have hke : k = ps.length := by omega
      subst hke
      have hrows : (ps.take ps.length).map rowB = rowsB s := by rw [List.take_length, HPS.out]; rfl
      have hlen : (rowsB s).length = ps.length := by rw [← hrows]; simp
      have hO : FrAt w.heap.size wr (.slice A1 ps.length cap1) (rowsB s) := ⟨vs, by rw [hlen]; exact (RdS.own HOWN.out).weak fun b _ hS => (by have := HZW.out; omega), by have := HIT.out.weak BRow.keeps (S' := fun b => w.heap.size ≤ b) (fun b _ hS => by have := HZW.out; have := hS.1; omega); rwa [hrows] at this⟩
      have hbw : Below w.heap.size w wr := HB1.out.trans (HB.out.mono (by have := HZW.out; omega))
      have HO := Lib.hid hO
      have HBW := Lib.hid hbw
      clear hrows hlen hO hbw
      cases hm : mayR (rowsB s)
      · have HT := Lib.hid (tests_no _ _ wr (OutS.all BRow.keeps HO.out) HSH.out hm)
        have HF := Lib.hid (fun e w' (h : PRNo w e w') => (show PF s w e w' by unfold PF; rw [hm, if_neg (by simp)]; exact h))
        clear hm
        go_wp2_with (go_at_call 83; refine HT.out.mono ?_; rintro e w2 ⟨rfl, hb2⟩)
        go_ret2
        exact HF.out _ _ ⟨rfl, below_step HBW.out hb2 HBW.out.size⟩
      · have HT := Lib.hid (tests_yes _ _ wr (OutS.all BRow.keeps HO.out) HSH.out hm)
        have HF := Lib.hid (fun e w' (h : PFYes s w e w') => (show PF s w e w' by unfold PF; rw [if_pos hm]; exact h))
        clear hm
        go_wp2_with (go_at_call 83; refine HT.out.mono ?_; rintro e w2 ⟨u, rfl, hu, hb2⟩)
        go_ret2
        exact HF.out _ _ ⟨_, rfl, OutS.below BRow.keeps HO.out hb2, below_step HBW.out hb2 HBW.out.size⟩
theorem rparse_any (s : ByteArray) (w : World) (hs : s.size ≤ 1000000) : Calls Tryz.prog 114 #[.string s] w (PR s w) := by
  refine (rparse_fr s w hs).mono fun e w' h => ?_
  unfold PF at h
  unfold PR
  by_cases hm : mayR (rowsB s) = true
  · rw [if_pos hm] at h ⊢
    obtain ⟨u, e, h1, h2⟩ := h
    exact ⟨u, e, OutS.all BRow.keeps h1, h2⟩
  · rw [if_neg hm] at h ⊢
    exact h
end Go.Proofs.YtcnedecmmplmoaaGreatDoor
