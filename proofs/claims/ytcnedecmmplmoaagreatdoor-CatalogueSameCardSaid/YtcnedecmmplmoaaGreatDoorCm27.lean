/- catalogue: addNeed. -/
import Derived.Test.YtcnedecmmplmoaaGreatDoorCm26
import Derived.Deep.RegionLaw
set_option linter.unusedVariables false
set_option linter.unusedSimpArgs false
namespace Go.Proofs.YtcnedecmmplmoaaGreatDoor
open Go Go.RowKit Go.BigFrame Go.Maps
open Ver (cmpV BL parts brk)
set_option maxRecDepth 100000

theorem need_ok (s : ByteArray) : rowOk s = (twoOk s && (mayR (rowsB (bR 32 s)) && rightB (bA 32 s))) := by
  unfold rowOk
  cases twoOk s <;> cases rightB (bA 32 s) <;> cases mayR (rowsB (bR 32 s)) <;> rfl
/-- A need put behind others: what it leaves. -/
structure Added (w : World) (base g o q n cap : Nat) (ro : Nat → Nat) (cs : List Value) (u : Value) (ns : List Nde) (x : Nde) (w' : World) (ro' : Nat → Nat) (u' : Value) : Prop where
  row : NAt w' base ro' q u' (ns ++ [x])
  lst : w'.ownsRow base 53 5 (.slice (some ⟨g, 0, none⟩) n cap) n (cs.set o u')
  ch : Ch w w' (fun b => b = g ∨ u.ownBlock = some b)
  old : ∀ b, b < w.heap.size → ro' b = ro b
  all : ∀ b, ro' b ≠ 0 → base ≤ b ∧ b < w'.heap.size
theorem added_mk {w W5 WZ w7 : World} {base g o q n cap gg cap7 c g8 : Nat} {A : Option Addr} {ro : Nat → Nat} {cs vs us : List Value} {ns : List Nde} {x : Nde} (hB : base ≤ w.heap.size) (hall : ∀ b, ro b ≠ 0 → base ≤ b ∧ b < w.heap.size) (hq : q ≠ 3) (hq7 : q ≠ 7) (hrg : ro g = 3)
    (hl : w.ownsRow base 53 5 (.slice (some ⟨g, 0, none⟩) n cap) n cs) (hb5 : Below w.heap.size w W5) (hbz : Below W5.heap.size W5 WZ) (ho : w.ownsRow base 40 2 (.slice A ns.length c) ns.length vs) (hrq : ∀ k, (Value.slice A ns.length c).ownBlock = some k → ro k = q)
    (hit5 : ItemsM 2 NdC W5 (fun b => ro b = 7) vs ns) (hul : us.length = 2) (hx5 : NdC W5 (fun b => w.heap.size ≤ b ∧ b < g8) us x) (hw3 : w.heap.size ≤ g8) (hg8 : g8 ≤ W5.heap.size)
    (hown7 : w7.ownsRow base 40 2 (.slice (some ⟨gg, 0, none⟩) (ns.length + 1) cap7) (ns.length + 1) (vs ++ us)) (hgrow : WZ.grownBy w7 (Value.slice A ns.length c).ownBlock)
    (hmv : (Value.slice A ns.length c).ownBlock = some gg ∨ W5.heap.size ≤ gg) :
    ∃ ro' u', Added w base g o q n cap ro cs (.slice A ns.length c) ns x (w7.setCell ⟨g, o, none⟩ (.slice (some ⟨gg, 0, none⟩) (ns.length + 1) cap7)) ro' u' := by
  have hgw : g < w.heap.size := (hl.lt g rfl).2
  have hug : (Value.slice A ns.length c).ownBlock ≠ some g := fun e => hq (by rw [← hrq g e]; exact hrg)
  have hug' : ∀ k, (Value.slice A ns.length c).ownBlock = some k → k < w.heap.size := fun k e => (ho.lt k e).2
  have hgne : gg ≠ g := fun e => by
    rcases hmv with h | h
    · rw [e] at h; exact hug h
    · have := hb5.size; omega
  have hz5 := hb5.size
  have hzz := hbz.size
  have hz7 := hgrow.size
  have hzc : (w7.setCell ⟨g, o, none⟩ (.slice (some ⟨gg, 0, none⟩) (ns.length + 1) cap7)).heap.size = w7.heap.size := by simp
  have hsame : ∀ b, b < W5.heap.size → (Value.slice A ns.length c).ownBlock ≠ some b → b ≠ g → (w7.setCell ⟨g, o, none⟩ (.slice (some ⟨gg, 0, none⟩) (ns.length + 1) cap7)).heap[b]? = W5.heap[b]? := fun b hb h1 h2 =>
    (Below.heap_setCell _ _ _ _ h2).trans ((hgrow.block b (by omega) (fun e => h1 e.symm)).trans (hbz.block b hb))
  refine ⟨fun b => if b = gg then q else if w.heap.size ≤ b ∧ b < g8 then 7 else ro b, .slice (some ⟨gg, 0, none⟩) (ns.length + 1) cap7, ⟨?_, ?_, ?_, fun b hb => ?_, fun b hb => ?_⟩⟩
  · refine ⟨vs ++ us, by rw [List.length_append]; exact World.ownsRow.kept hown7 (row := some g) ⟨rfl, rfl, rfl, by simp, fun k hk hne => Below.heap_setCell _ _ _ _ (fun e => hne (by rw [e]))⟩ (.inr (fun e => by injection e with e; exact hgne e)), fun k hk => by injection hk with hk; have : gg = k := hk; simp [this], ?_⟩
    have h1 : ItemsM 2 NdC W5 (fun b => ro b = 7 ∧ b ≠ gg ∧ (Value.slice A ns.length c).ownBlock ≠ some b) vs ns := hit5.weak NdC.keeps fun b hb hS => ⟨hS, fun e => by
      rcases hmv with h | h
      · exact hq7 (by rw [← hrq gg h, ← e]; exact hS)
      · omega, fun e => hq7 (by rw [← hrq b e]; exact hS)⟩
    have h2 := h1.keep NdC.keeps (w' := w7.setCell ⟨g, o, none⟩ (.slice (some ⟨gg, 0, none⟩) (ns.length + 1) cap7)) ⟨by omega, fun b hb hS => hsame b hb hS.2.2 (fun e => by have h := hS.1; rw [e, hrg] at h; cases h)⟩
    have h3 := h2.weak NdC.keeps (S' := fun b => (if b = gg then q else if w.heap.size ≤ b ∧ b < g8 then 7 else ro b) = 7) (fun b _ hS => by
      rw [if_neg hS.2.1]
      split
      · rfl
      · exact hS.1)
    refine h3.snoc hul ?_
    have h4 := NdC.keeps.keep (w' := w7.setCell ⟨g, o, none⟩ (.slice (some ⟨gg, 0, none⟩) (ns.length + 1) cap7)) hx5 ⟨by omega, fun b hb hS => hsame b hb (fun e => by have := hug' b e; omega) (by omega)⟩
    exact NdC.keeps.weak h4 fun b _ hS => by
      have hne : b ≠ gg := fun e => by
        rcases hmv with h | h
        · have := hug' gg h; omega
        · omega
      rw [if_neg hne, if_pos hS]
  · have hl7 := World.ownsRow.kept (own_below (own_below hl hb5 (Nat.le_refl _)) hbz (Nat.le_refl _)) hgrow (.inr (fun e => hug e.symm))
    exact own_set hl7 _
  · refine ⟨?_, ?_, ?_, by omega, fun k hk hn => ?_⟩
    · exact (hgrow.os.trans (hbz.os.trans hb5.os))
    · exact (hgrow.tape.trans (hbz.tape.trans hb5.tape))
    · exact (hgrow.output.trans (hbz.output.trans hb5.output))
    · exact (hsame k (by omega) (fun e => hn (.inr e)) (fun e => hn (.inl e))).trans (hb5.block k hk)
  · show (if b = gg then q else if w.heap.size ≤ b ∧ b < g8 then 7 else ro b) = ro b
    by_cases e : b = gg
    · rw [if_pos e]
      rcases hmv with h | h
      · rw [e]; exact (hrq gg h).symm
      · omega
    · rw [if_neg e, if_neg (by omega)]
  · by_cases e : b = gg
    · have := hown7.lt gg rfl
      rw [e]; exact ⟨this.1, by omega⟩
    · by_cases e2 : w.heap.size ≤ b ∧ b < g8
      · omega
      · have h : ro b ≠ 0 := by
          have := hb
          simpa [e, e2] using this
        have := hall b h
        omega
set_option maxRecDepth 100000 in
set_option maxHeartbeats 4000000 in
theorem add_yes (w : World) (base g o q n cap : Nat) (ro : Nat → Nat) (cs : List Value) (u : Value) (ns : List Nde) (s : ByteArray) (hB : base ≤ w.heap.size) (hall : ∀ b, ro b ≠ 0 → base ≤ b ∧ b < w.heap.size) (hq : q ≠ 3) (hq7 : q ≠ 7) (hrg : ro g = 3) (hl : w.ownsRow base 53 5 (.slice (some ⟨g, 0, none⟩) n cap) n cs) (hu : cs[o]? = some u)
    (hn : NAt w base ro q u ns) (hs : s.size ≤ 1000000) (hok : rowOk s = true) (hlen : ns.length < 64) :
    Calls Tryz.prog 103 #[.pointer (some ⟨g, o, none⟩), .string s] w fun e w' => e = .returned (.int .i64 0) ∧ ∃ ro' u', Added w base g o q n cap ro cs u ns (needV s) w' ro' u' := by
  obtain ⟨vs, ho, hrq, hit⟩ := hn
  obtain ⟨A, c, rfl⟩ := own_form ho
  have hT := two_any s w (by unfold maxLen; omega)
  unfold TwoPost at hT
  rw [need_ok, Bool.and_eq_true] at hok
  obtain ⟨ht, hm⟩ := hok
  rw [Bool.and_eq_true] at hm
  rw [ht] at hT
  have hA : (bA 32 s).size ≤ maxLen := by have := bA_le 32 s; unfold maxLen; omega
  have hR : (bR 32 s).size ≤ 1000000 := by have := bR_le 32 s; omega
  have HNV : Hid (needV s = (bA 32 s, rowsB (bR 32 s))) := Lib.hid rfl
  obtain ⟨x, hx⟩ : ∃ x, x = needV s := ⟨_, rfl⟩
  rw [← hx] at HNV ⊢
  clear hx
  generalize bA 32 s = a at *
  have HN := Lib.hid (fun w' => need_yes a (bR 32 s) w' hA hR hm.2 hm.1)
  generalize bR 32 s = r at *
  have HTW := Lib.hid hT
  have hlI : ¬ (ns.length : Int) = 64 := by omega
  have HLEN := Lib.hid hlen
  have HO := Lib.hid (And.intro ho (And.intro hrq hit))
  have HL := Lib.hid (And.intro hl (And.intro hu (And.intro hrg hall)))
  have HB := Lib.hid hB
  have HQ := Lib.hid hq
  have HQ7 := Lib.hid hq7
  have HGL := Lib.hid (show g < w.heap.size from (hl.lt g rfl).2)
  obtain ⟨i0, hi0, hz0, hz1, hzb⟩ := info_parts infoNeed
  have HI := Lib.hid (And.intro hi0 (And.intro hz0 (And.intro hz1 hzb)))
  clear ho hrq hit hl hu hrg hall hB hq hq7 hT ht hm hA hR hs hlen hi0 hz0 hz1 hzb
  go_enter Tryz.func103, Tryz.ntmps103
  go_upto_region 5 with (first
    | (go_at_call 102; refine HTW.out.mono ?_; rintro e w1 ⟨rfl, nq, rfl⟩)
    | (go_at_call 88; refine (HN.out _).mono ?_; rintro e W3 ⟨A9, c9, rfl, hfr, hb3⟩
       have hbn := (below_drewN (Below.refl w.heap.size w) nq).trans (hb3.mono (by rw [heap_drewN]; exact Nat.le_refl _))
       have hb5 := below_step hbn ((Below.refl W3.heap.size W3).alloc (Nat.le_refl _) (.cells #[.string a, .slice A9 (rowsB r).length c9] 40)) hbn.size
       have hl5 := own_below HL.out.1 hb5 (Nat.le_refl _)
       obtain ⟨d5, f5⟩ := own_cell5 hl5 HL.out.2.1))
  have hbx5 := heap_alloc_new W3 (.cells #[.string a, .slice A9 (rowsB r).length c9] 40)
  have ho5 := own_below HO.out.1 hb5 (Nat.le_refl _)
  have hit5 := HO.out.2.2.keep NdC.keeps (SameS.below hb5 _)
  have hfr5 : OutS BRow (W3.alloc (.cells #[.string a, .slice A9 (rowsB r).length c9] 40)) (fun b => w.heap.size ≤ b ∧ b < W3.heap.size) (.slice A9 (rowsB r).length c9) (rowsB r) :=
    OutS.below BRow.keeps (OutS.weak BRow.keeps hfr fun b hb hS => ⟨by rw [heap_drewN] at hS; exact hS, hb⟩) ((Below.refl W3.heap.size W3).alloc (Nat.le_refl _) _)
  have hz5 : (W3.alloc (.cells #[.string a, .slice A9 (rowsB r).length c9] 40)).heap.size = W3.heap.size + 1 := by simp
  have hw3 : w.heap.size ≤ W3.heap.size := hbn.size
  have HBN := Lib.hid hbn
  clear hfr hb3 hbn
  generalize hW5 : W3.alloc (.cells #[.string a, .slice A9 (rowsB r).length c9] 40) = W5 at *
  generalize W3.heap.size = g8 at *
  have hbz : Below W5.heap.size W5 ((W5.alloc (.cells #[.string a, .slice A9 (rowsB r).length c9] 40)).drew) := ((Below.refl W5.heap.size W5).alloc (Nat.le_refl _) _).drew
  have hnz : ((W5.alloc (.cells #[.string a, .slice A9 (rowsB r).length c9] 40)).drew).heap[W5.heap.size]? = some (.cells #[.string a, .slice A9 (rowsB r).length c9] 40) := heap_alloc_new W5 _
  have hlz := own_below hl5 hbz (Nat.le_refl _)
  obtain ⟨dz, fz⟩ := own_cell5 hlz HL.out.2.1
  have hoz := own_below ho5 hbz (Nat.le_refl _)
  have hx0 : W5.cell? ⟨g8, 0, none⟩ = some (.string a) := by rw [cell_of_row _ _ _ _ _ _ hbx5]; rfl
  have hx1 : W5.cell? ⟨g8, 1, none⟩ = some (.slice A9 (rowsB r).length c9) := by rw [cell_of_row _ _ _ _ _ _ hbx5]; rfl
  have HOZ := Lib.hid hoz
  have HNZ := Lib.hid (World.news_of_block hnz)
  have HLZ := Lib.hid hlz
  have HDZ := Lib.hid dz
  have HFZ := Lib.hid fz
  have H5 := Lib.hid (And.intro hb5 (And.intro ho5 (And.intro hit5 (And.intro hfr5 (And.intro hz5 hw3)))))
  have HW := Lib.hid (show base ≤ W5.heap.size by have := HB.out; omega)
  have hgo : Hid ((Value.slice A ns.length c).ownBlock ≠ some g) := Lib.hid fun e => HQ.out (by rw [← HO.out.2.1 g e]; exact HL.out.2.2.1)
  have HBZ := Lib.hid hbz
  clear hbx5 ho5 hit5 hfr5 hb5 hl5 hoz hnz hlz hbz hz5 hw3
  go_region_law ((refine step_append_lies _ (by rfl) _ _ _ (by rfl) base 40 i0 _ 2 40 Tryz.underlying42 HI.out.1 HI.out.2.1 HI.out.2.2.1 HI.out.2.2.2 rfl (by omega) (.slice A ns.length c) ns.length vs (by rfl) HOZ.out ⟨W5.heap.size, 0, none⟩ 1 1 [.string a, .slice A9 (rowsB r).length c9] (by rfl) (by rfl) HNZ.out (by simp [Value.oneCell']) (by omega) (by have := HLEN.out; unfold maxLen; omega) (by have := HLEN.out; omega) (by have := HW.out; simp; omega) (W5.heap.size + 1) (by simp) ?_; intro gg cap7 w7 hown7 hgrow hat hlt1; have hc7 := (hgrow.cell_far ⟨g, o, none⟩ (by have := HGL.out; have := H5.out.2.2.2.2.1; have := H5.out.2.2.2.2.2; simp; omega) (fun e => hgo.out e.symm)).trans HDZ.out; have hf7 := (hgrow.frozen_far ⟨g, o, none⟩ (by have := HGL.out; have := H5.out.2.2.2.2.1; have := H5.out.2.2.2.2.2; simp; omega) (fun e => hgo.out e.symm)).trans HFZ.out))
  all_goals
    have hmv : (Value.slice A ns.length c).ownBlock = some gg ∨ W5.heap.size ≤ gg := by
      rcases hat with h | h
      · exact .inl h
      · refine .inr ?_
        omega
    have HADD := Lib.hid (added_mk (x := x) (o := o) HB.out HL.out.2.2.2 HQ.out HQ7.out HL.out.2.2.1 HL.out.1 H5.out.1 HBZ.out HO.out.1 HO.out.2.1 H5.out.2.2.1 rfl (show NdC W5 (fun b => w.heap.size ≤ b ∧ b < g8) [.string a, .slice A9 (rowsB r).length c9] x from ⟨_, by rw [HNV.out], by rw [HNV.out]; exact H5.out.2.2.2.1⟩) H5.out.2.2.2.2.2 (by have := H5.out.2.2.2.2.1; omega) hown7 hgrow hmv)
    clear hmv hown7 hgrow hat hc7 hf7 hx0 hx1
    go_wp2
    go_ret
    exact ⟨rfl, HADD.out⟩
theorem need_w (b : Bool) (nm t : ByteArray) (w : World) (hn : nm.size ≤ maxLen) (ht : t.size ≤ 1000000) (hb : (mayR (rowsB t) && rightB nm) = b) : Calls Tryz.prog 88 #[.string nm, .string t] w fun e w' => ∃ k A n c, e = .returned (.tuple #[.agg #[.string k, .slice A n c], .bool b]) ∧ Below w.heap.size w w' := by
  cases b with
  | true =>
    rw [Bool.and_eq_true] at hb
    exact (need_yes nm t w hn ht hb.2 hb.1).mono fun e w' ⟨A, c, he, _, h⟩ => ⟨_, _, _, _, he, h⟩
  | false => exact (need_no nm t w hn ht hb).mono fun e w' ⟨he, h⟩ => ⟨_, _, _, _, he, h⟩
set_option maxRecDepth 100000 in
set_option maxHeartbeats 4000000 in
theorem add_no (w : World) (g o : Nat) (A : Option Addr) (c m : Nat) (s : ByteArray) (hu : w.cell? ⟨g, o, none⟩ = some (.slice A m c)) (hs : s.size ≤ 1000000) (h : rowOk s = false ∨ m = 64) :
    Calls Tryz.prog 103 #[.pointer (some ⟨g, o, none⟩), .string s] w fun e w' => e = .returned (.int .i64 150) ∧ Below w.heap.size w w' := by
  have hT := two_any s w (by unfold maxLen; omega)
  unfold TwoPost at hT
  rw [need_ok] at h
  have hA : (bA 32 s).size ≤ maxLen := by have := bA_le 32 s; unfold maxLen; omega
  have hR : (bR 32 s).size ≤ 1000000 := by have := bR_le 32 s; omega
  obtain ⟨b, hb⟩ : ∃ b, (mayR (rowsB (bR 32 s)) && rightB (bA 32 s)) = b := ⟨_, rfl⟩
  rw [hb] at h
  have HN := Lib.hid (fun w' => need_w b (bA 32 s) (bR 32 s) w' hA hR hb)
  clear hb hA hR
  generalize bA 32 s = a at *
  generalize bR 32 s = r at *
  generalize twoOk s = ok at *
  have HTW := Lib.hid hT
  have HU := Lib.hid (fun (w' : World) (hb : Below w.heap.size w w') => (hb.cell (p := ⟨g, o, none⟩) (World.block_lt_of_cell? w _ hu)).trans hu)
  clear hT hu hs
  cases ok with
  | false =>
    clear h
    go_enter Tryz.func103, Tryz.ntmps103
    go_wp2_with (first
      | (go_at_call 102; refine HTW.out.mono ?_; rintro e w1 ⟨rfl, nq, rfl⟩)
      | (go_at_call 88; refine (HN.out _).mono ?_; rintro e W3 ⟨k3, A3, n3, c3, rfl, hb3⟩
         have hbn := (below_drewN (Below.refl w.heap.size w) nq).trans (hb3.mono (by rw [heap_drewN]; exact Nat.le_refl _))
         have hb5 := below_step hbn ((Below.refl W3.heap.size W3).alloc (Nat.le_refl _) (.cells #[.string k3, .slice A3 n3 c3] 40)) hbn.size))
    go_ret
    exact ⟨rfl, hb5⟩
  | true =>
    cases b with
    | false =>
      clear h
      go_enter Tryz.func103, Tryz.ntmps103
      go_wp2_with (first
        | (go_at_call 102; refine HTW.out.mono ?_; rintro e w1 ⟨rfl, nq, rfl⟩)
        | (go_at_call 88; refine (HN.out _).mono ?_; rintro e W3 ⟨k3, A3, n3, c3, rfl, hb3⟩
           have hbn := (below_drewN (Below.refl w.heap.size w) nq).trans (hb3.mono (by rw [heap_drewN]; exact Nat.le_refl _))
           have hb5 := below_step hbn ((Below.refl W3.heap.size W3).alloc (Nat.le_refl _) (.cells #[.string k3, .slice A3 n3 c3] 40)) hbn.size))
      go_ret
      exact ⟨rfl, hb5⟩
    | true =>
      have hm : m = 64 := by
        rcases h with h | h
        · cases h
        · exact h
      have hmI : ((m : Int) == 64) = true := by rw [hm]; rfl
      clear h hm
      go_enter Tryz.func103, Tryz.ntmps103
      go_wp2_with (first
        | (go_at_call 102; refine HTW.out.mono ?_; rintro e w1 ⟨rfl, nq, rfl⟩)
        | (go_at_call 88; refine (HN.out _).mono ?_; rintro e W3 ⟨k3, A3, n3, c3, rfl, hb3⟩
           have hbn := (below_drewN (Below.refl w.heap.size w) nq).trans (hb3.mono (by rw [heap_drewN]; exact Nat.le_refl _))
           have hb5 := below_step hbn ((Below.refl W3.heap.size W3).alloc (Nat.le_refl _) (.cells #[.string k3, .slice A3 n3 c3] 40)) hbn.size
           have d5 := HU.out _ hb5))
      go_ret
      exact ⟨rfl, hb5⟩
end Go.Proofs.YtcnedecmmplmoaaGreatDoor

/- catalogue: a reader's needs, conflicts. -/
namespace Go.Proofs.YtcnedecmmplmoaaGreatDoor
open Go Go.RowKit Go.BigFrame Go.Maps
open Ver (cmpV BL parts brk)
set_option maxRecDepth 100000

theorem Added.keep {w w' : World} {base g o q n cap : Nat} {ro ro' : Nat → Nat} {cs : List Value} {u u' : Value} {ns : List Nde} {x : Nde} (h : Added w base g o q n cap ro cs u ns x w' ro' u') (hrg : ro g = 3) (hrq : ∀ k, u.ownBlock = some k → ro k = q) (hall : ∀ b, ro b ≠ 0 → base ≤ b ∧ b < w.heap.size)
    {p : Nat} {v : Value} {l : List Nde} (hp3 : p ≠ 3) (hpq : p ≠ q) (hp0 : p ≠ 0) (hq7 : q ≠ 7) (hN : NAt w base ro p v l) : NAt w' base ro' p v l := by
  have hM : ∀ b, (b = g ∨ u.ownBlock = some b) → ro b = 3 ∨ ro b = q := fun b hb => by
    rcases hb with rfl | e
    · exact .inl hrg
    · exact .inr (hrq b e)
  have h1 := hN.ch h.ch (fun b hb => by rcases hM b hb with e | e <;> omega)
  refine h1.ro (fun b _ e => ?_) (fun b _ e => ?_)
  · rw [h.old b (hall b (by omega)).2]; exact e
  · rw [h.old b (hall b (by omega)).2]; exact e
theorem RdAt.added {w w' : World} {base rb mb g o q cap j : Nat} {ro ro' : Nat → Nat} {vr u u' : Value} {cs : List Value} {st : RSt} {ns : List Nde} {x : Nde} {y : Va} (h : RdAt w base rb mb ro (.slice (some ⟨g, 0, none⟩) st.1.length cap) vr cs st) (hn : st.1.length ≠ 0) (hj : j < 5) (ho : o = (st.1.length - 1) * 5 + j)
    (hrq : ∀ k, u.ownBlock = some k → ro k = q) (hq : q = 5 ∨ q = 6)
    (ha : Added w base g o q st.1.length cap ro cs u ns x w' ro' u') (hyn : y.name = (lastV st.1).name) (hyv : y.ver = (lastV st.1).ver) (hyl : y.needs.length ≤ 64 ∧ y.confs.length ≤ 64)
    (hlast : ∃ un uc, ((cs.drop ((st.1.length - 1) * 5)).take 5).set j u' = [.string y.name, .string y.ver, un, uc, .string y.recipe] ∧ NAt w' base ro' 5 un y.needs ∧ NAt w' base ro' 6 uc y.confs) :
    RdAt w' base rb mb ro' (.slice (some ⟨g, 0, none⟩) st.1.length cap) vr (cs.set o u') (setL st.1 y, st.2) := by
  have hrg : ro g = 3 := h.lst.role g rfl
  have hM : ∀ b, (b = g ∨ u.ownBlock = some b) → ro b = 3 ∨ ro b = q := fun b hb => by
    rcases hb with rfl | e
    · exact .inl hrg
    · exact .inr (hrq b e)
  have hrb := block_lt h.box
  have hmb := h.seen.lt
  subst ho
  refine ⟨ha.ch.heap h.box (fun hm => by have := h.rrb; rcases hM _ hm with e | e <;> omega), (ha.old rb hrb).trans h.rrb, (ha.old mb hmb).trans h.rmb, ha.all, ?_, ha.ch.own h.rcp (fun b hb hm => by have := h.rrcp b hb; rcases hM _ hm with e | e <;> omega), fun k hk => (ha.old k (h.rcp.lt k hk).2).trans (h.rrcp k hk), (h.seen.block (ha.ch.block mb hmb (fun hm => by have := h.rmb; rcases hM _ hm with e | e <;> omega))).as (setL_len _ _) (fun a b => dupV_set _ _ a b hyn hyv), by show (setL _ _).length ≤ _; rw [setL_len]; exact h.few, fun z hz => ?_⟩
  · exact h.lst.put hn hj ha.lst (fun k hk => by injection hk with hk; have e : g = k := hk; rw [← e, ha.old g (h.lst.own.lt g rfl).2]; exact hrg) (fun un l h7 => ha.keep hrg hrq h.all (by decide) (by omega) (by decide) (by omega) h7) hlast
  · rcases mem_setL hz with h1 | rfl
    · exact h.txt z h1
    · have := h.txt (lastV st.1) (List.mem_of_getElem? (lastV_get _ hn))
      exact ⟨by rw [hyn]; exact this.1, by rw [hyv]; exact this.2.1, hyl⟩
theorem needE_zero {l : List Va} {q : List Nde} {s : ByteArray} (hn : l.length ≠ 0) (hok : rowOk s = true) (hl : q.length ≠ 64) : needE l q s = 0 := by
  unfold needE
  rw [if_pos (by simp [hn, hok, hl])]
theorem needE_bad {l : List Va} {q : List Nde} {s : ByteArray} (h : l.length = 0 ∨ rowOk s = false ∨ q.length = 64) : needE l q s = 150 := by
  unfold needE
  rw [if_neg]
  rcases h with h | h | h <;> simp [h]
theorem MPost.bad {w w' : World} {base rb mb : Nat} {ro : Nat → Nat} {l : List Va} {z : Int} {st' : RSt} (hz : z = 150) (hb : Below w.heap.size w w') : MPost w base rb mb ro l z st' (.returned (.int .i64 150)) w' :=
  ⟨by rw [hz], Ch.of_below hb _ (fun k hk h => by omega), fun e => by rw [hz] at e; cases e⟩
set_option maxRecDepth 100000 in
set_option maxHeartbeats 2000000 in
theorem needs_any (w : World) (base rb mb : Nat) (ro : Nat → Nat) (vl vr : Value) (cs : List Value) (st : RSt) (h : RdAt w base rb mb ro vl vr cs st) (hB : base ≤ w.heap.size) (s : ByteArray) (hs : s.size ≤ 1000000) :
    Calls Tryz.prog 72 #[.pointer (some ⟨rb, 0, none⟩), .string s] w (MPost w base rb mb ro st.1 (needE st.1 (lastV st.1).needs s) (ndsN st s)) := by
  have HL := Lib.hid (last_any w base rb mb ro vl vr cs st h)
  by_cases hn : st.1.length = 0
  · obtain ⟨A, c, hvl⟩ := own_form h.lst.own
    have hP : lastP vl st.1.length = .pointer none := by
      rw [hvl]
      unfold lastP
      split
      · rw [if_pos hn]
      · rfl
    rw [hP] at HL
    have HF := Lib.hid (fun w' (hb : Below w.heap.size w w') => MPost.bad (l := st.1) (base := base) (rb := rb) (mb := mb) (ro := ro) (st' := ndsN st s) (needE_bad (q := (lastV st.1).needs) (s := s) (.inl hn)) hb)
    clear h hn hvl hP
    go_enter Tryz.func72, Tryz.ntmps72
    go_wp2_with (go_at_call 78; refine HL.out.mono ?_; rintro e w1 ⟨rfl, nq, rfl⟩)
    go_ret
    exact HF.out _ (below_drewN (Below.refl _ _) nq)
  · obtain ⟨g, cap, rfl, hb, hg, hr, hP⟩ := h.lst.form hn
    rw [hP] at HL
    have HH := Lib.hid (fun nq => h.ch ((Ch.refl w (fun _ => False)).drewN nq) (fun b hb => hb.elim))
    have HN := Lib.hid hn
    by_cases hok : rowOk s = true ∧ (lastV st.1).needs.length ≠ 64
    · have HOK := Lib.hid hok
      have HL64 := Lib.hid (show (lastV st.1).needs.length < 64 by
        have := (h.txt (lastV st.1) (List.mem_of_getElem? (lastV_get _ hn)))
        have h1 := this.2.2.1
        have h2 := this.2.2.2
        have h3 := hok.2
        omega)
      have HTX := Lib.hid (h.txt (lastV st.1) (List.mem_of_getElem? (lastV_get _ hn)))
      have HF := Lib.hid (needE_zero (q := (lastV st.1).needs) hn hok.1 hok.2)
      have HB := Lib.hid hB
      have HS := Lib.hid hs
      have HR := Lib.hid hr
      clear h hn hP hb hg hr hok hB hs
      go_enter Tryz.func72, Tryz.ntmps72
      go_wp2_with (first
        | (go_at_call 78; refine HL.out.mono ?_; rintro e w1 ⟨rfl, nq, rfl⟩
           obtain ⟨un, uc, e5, hnn, hcc⟩ := (HH.out nq).lst.last HN.out
           have HA := Lib.hid (add_yes (w.drewN nq) base g ((st.1.length - 1) * 5 + 2) 5 st.1.length cap ro cs un (lastV st.1).needs s (by rw [heap_drewN]; exact HB.out) (HH.out nq).all (by decide) (by decide) HR.out (HH.out nq).lst.own (five_get e5 rfl) hnn HS.out HOK.out.1 HL64.out)
           have HX := Lib.hid (And.intro e5 (And.intro hnn hcc))
           clear e5 hnn hcc)
        | (go_at_call 103; refine HA.out.mono ?_; rintro e w3 ⟨rfl, ro', u', hadd⟩))
      go_ret
      obtain ⟨e5, hnn, hcc⟩ := HX.out
      refine ⟨by rw [HF.out]; rfl, ((Ch.refl w _).drewN nq).trans (hadd.ch.weak (M' := Rdr ro) fun b _ hb => ?_) (fun k _ hk => hk), fun _ => ⟨ro', _, _, _, (HH.out nq).added (y := { lastV st.1 with needs := (lastV st.1).needs ++ [needV s] }) HN.out (by decide) rfl hnn.choose_spec.2.1 (.inl rfl) hadd rfl rfl ⟨by have := HL64.out; simp; omega, HTX.out.2.2.2⟩ ?_, fun b hb h0 => (hadd.old b (by rw [heap_drewN]; exact hb)).trans h0, fun hsn => ((hsn.block (by rw [heap_drewN])).block (hadd.ch.block mb (HH.out nq).seen.lt (fun hm => hm.elim (fun e => by have h9 := (HH.out nq).rmb; rw [e] at h9; have := HR.out; omega) (fun e => by have h9 := (HH.out nq).rmb; have := hnn.choose_spec.2.1 mb e; omega)))).as (setL_len _ _) (fun a b => dupV_set _ _ a b rfl rfl)⟩⟩
      · show ro b ≠ 0
        rcases hb with rfl | e
        · rw [HR.out]; decide
        · rw [hnn.choose_spec.2.1 b e]; decide
      · exact ⟨u', uc, by rw [e5]; rfl, hadd.row, hadd.keep HR.out hnn.choose_spec.2.1 (HH.out nq).all (by decide) (by decide) (by decide) (by decide) hcc⟩
    · have HF := Lib.hid (fun w' (hb : Below w.heap.size w w') => MPost.bad (l := st.1) (base := base) (rb := rb) (mb := mb) (ro := ro) (st' := ndsN st s) (needE_bad (l := st.1) (q := (lastV st.1).needs) (s := s) (by
        by_cases h1 : rowOk s = true
        · exact .inr (.inr (by
            by_cases h2 : (lastV st.1).needs.length = 64
            · exact h2
            · exact absurd ⟨h1, h2⟩ hok))
        · exact .inr (.inl (by simpa using h1)))) hb)
      have HC := Lib.hid (show rowOk s = false ∨ (lastV st.1).needs.length = 64 by
        by_cases h1 : rowOk s = true
        · exact .inr (by
            by_cases h2 : (lastV st.1).needs.length = 64
            · exact h2
            · exact absurd ⟨h1, h2⟩ hok)
        · exact .inl (by simpa using h1))
      have HS := Lib.hid hs
      clear h hn hP hb hg hr hok hB hs
      go_enter Tryz.func72, Tryz.ntmps72
      go_wp2_with (first
        | (go_at_call 78; refine HL.out.mono ?_; rintro e w1 ⟨rfl, nq, rfl⟩
           obtain ⟨un, uc, e5, hnn, hcc⟩ := (HH.out nq).lst.last HN.out
           obtain ⟨vs, ho, _, _⟩ := hnn
           obtain ⟨A, c, rfl⟩ := own_form ho
           have HA := Lib.hid (add_no (w.drewN nq) g ((st.1.length - 1) * 5 + 2) A c (lastV st.1).needs.length s (own_cell5 (HH.out nq).lst.own (five_get e5 rfl)).1 HS.out HC.out)
           clear e5 ho)
        | (go_at_call 103; refine HA.out.mono ?_; rintro e w3 ⟨rfl, hb3⟩))
      go_ret
      exact HF.out _ ((below_drewN (Below.refl w.heap.size w) nq).trans (hb3.mono (by rw [heap_drewN]; exact Nat.le_refl _)))
set_option maxRecDepth 100000 in
set_option maxHeartbeats 2000000 in
theorem conflicts_any (w : World) (base rb mb : Nat) (ro : Nat → Nat) (vl vr : Value) (cs : List Value) (st : RSt) (h : RdAt w base rb mb ro vl vr cs st) (hB : base ≤ w.heap.size) (s : ByteArray) (hs : s.size ≤ 1000000) :
    Calls Tryz.prog 73 #[.pointer (some ⟨rb, 0, none⟩), .string s] w (MPost w base rb mb ro st.1 (needE st.1 (lastV st.1).confs s) (cfsN st s)) := by
  have HL := Lib.hid (last_any w base rb mb ro vl vr cs st h)
  by_cases hn : st.1.length = 0
  · obtain ⟨A, c, hvl⟩ := own_form h.lst.own
    have hP : lastP vl st.1.length = .pointer none := by
      rw [hvl]
      unfold lastP
      split
      · rw [if_pos hn]
      · rfl
    rw [hP] at HL
    have HF := Lib.hid (fun w' (hb : Below w.heap.size w w') => MPost.bad (l := st.1) (base := base) (rb := rb) (mb := mb) (ro := ro) (st' := cfsN st s) (needE_bad (q := (lastV st.1).confs) (s := s) (.inl hn)) hb)
    clear h hn hvl hP
    go_enter Tryz.func73, Tryz.ntmps73
    go_wp2_with (go_at_call 78; refine HL.out.mono ?_; rintro e w1 ⟨rfl, nq, rfl⟩)
    go_ret
    exact HF.out _ (below_drewN (Below.refl _ _) nq)
  · obtain ⟨g, cap, rfl, hb, hg, hr, hP⟩ := h.lst.form hn
    rw [hP] at HL
    have HH := Lib.hid (fun nq => h.ch ((Ch.refl w (fun _ => False)).drewN nq) (fun b hb => hb.elim))
    have HN := Lib.hid hn
    by_cases hok : rowOk s = true ∧ (lastV st.1).confs.length ≠ 64
    · have HOK := Lib.hid hok
      have HL64 := Lib.hid (show (lastV st.1).confs.length < 64 by
        have := (h.txt (lastV st.1) (List.mem_of_getElem? (lastV_get _ hn)))
        have h1 := this.2.2.1
        have h2 := this.2.2.2
        have h3 := hok.2
        omega)
      have HTX := Lib.hid (h.txt (lastV st.1) (List.mem_of_getElem? (lastV_get _ hn)))
      have HF := Lib.hid (needE_zero (q := (lastV st.1).confs) hn hok.1 hok.2)
      have HB := Lib.hid hB
      have HS := Lib.hid hs
      have HR := Lib.hid hr
      clear h hn hP hb hg hr hok hB hs
      go_enter Tryz.func73, Tryz.ntmps73
      go_wp2_with (first
        | (go_at_call 78; refine HL.out.mono ?_; rintro e w1 ⟨rfl, nq, rfl⟩
           obtain ⟨un, uc, e5, hnn, hcc⟩ := (HH.out nq).lst.last HN.out
           have HA := Lib.hid (add_yes (w.drewN nq) base g ((st.1.length - 1) * 5 + 3) 6 st.1.length cap ro cs uc (lastV st.1).confs s (by rw [heap_drewN]; exact HB.out) (HH.out nq).all (by decide) (by decide) HR.out (HH.out nq).lst.own (five_get e5 rfl) hcc HS.out HOK.out.1 HL64.out)
           have HX := Lib.hid (And.intro e5 (And.intro hnn hcc))
           clear e5 hnn hcc)
        | (go_at_call 103; refine HA.out.mono ?_; rintro e w3 ⟨rfl, ro', u', hadd⟩))
      go_ret
      obtain ⟨e5, hnn, hcc⟩ := HX.out
      refine ⟨by rw [HF.out]; rfl, ((Ch.refl w _).drewN nq).trans (hadd.ch.weak (M' := Rdr ro) fun b _ hb => ?_) (fun k _ hk => hk), fun _ => ⟨ro', _, _, _, (HH.out nq).added (y := { lastV st.1 with confs := (lastV st.1).confs ++ [needV s] }) HN.out (by decide) rfl hcc.choose_spec.2.1 (.inr rfl) hadd rfl rfl ⟨HTX.out.2.2.1, by have := HL64.out; simp; omega⟩ ?_, fun b hb h0 => (hadd.old b (by rw [heap_drewN]; exact hb)).trans h0, fun hsn => ((hsn.block (by rw [heap_drewN])).block (hadd.ch.block mb (HH.out nq).seen.lt (fun hm => hm.elim (fun e => by have h9 := (HH.out nq).rmb; rw [e] at h9; have := HR.out; omega) (fun e => by have h9 := (HH.out nq).rmb; have := hcc.choose_spec.2.1 mb e; omega)))).as (setL_len _ _) (fun a b => dupV_set _ _ a b rfl rfl)⟩⟩
      · show ro b ≠ 0
        rcases hb with rfl | e
        · rw [HR.out]; decide
        · rw [hcc.choose_spec.2.1 b e]; decide
      · exact ⟨un, u', by rw [e5]; rfl, hadd.keep HR.out hcc.choose_spec.2.1 (HH.out nq).all (by decide) (by decide) (by decide) (by decide) hnn, hadd.row⟩
    · have HF := Lib.hid (fun w' (hb : Below w.heap.size w w') => MPost.bad (l := st.1) (base := base) (rb := rb) (mb := mb) (ro := ro) (st' := cfsN st s) (needE_bad (l := st.1) (q := (lastV st.1).confs) (s := s) (by
        by_cases h1 : rowOk s = true
        · exact .inr (.inr (by
            by_cases h2 : (lastV st.1).confs.length = 64
            · exact h2
            · exact absurd ⟨h1, h2⟩ hok))
        · exact .inr (.inl (by simpa using h1)))) hb)
      have HC := Lib.hid (show rowOk s = false ∨ (lastV st.1).confs.length = 64 by
        by_cases h1 : rowOk s = true
        · exact .inr (by
            by_cases h2 : (lastV st.1).confs.length = 64
            · exact h2
            · exact absurd ⟨h1, h2⟩ hok)
        · exact .inl (by simpa using h1))
      have HS := Lib.hid hs
      clear h hn hP hb hg hr hok hB hs
      go_enter Tryz.func73, Tryz.ntmps73
      go_wp2_with (first
        | (go_at_call 78; refine HL.out.mono ?_; rintro e w1 ⟨rfl, nq, rfl⟩
           obtain ⟨un, uc, e5, hnn, hcc⟩ := (HH.out nq).lst.last HN.out
           obtain ⟨vs, ho, _, _⟩ := hcc
           obtain ⟨A, c, rfl⟩ := own_form ho
           have HA := Lib.hid (add_no (w.drewN nq) g ((st.1.length - 1) * 5 + 3) A c (lastV st.1).confs.length s (own_cell5 (HH.out nq).lst.own (five_get e5 rfl)).1 HS.out HC.out)
           clear e5 ho)
        | (go_at_call 103; refine HA.out.mono ?_; rintro e w3 ⟨rfl, hb3⟩))
      go_ret
      exact HF.out _ ((below_drewN (Below.refl w.heap.size w) nq).trans (hb3.mono (by rw [heap_drewN]; exact Nat.le_refl _)))
end Go.Proofs.YtcnedecmmplmoaaGreatDoor

/- catalogue: a variant more. -/
namespace Go.Proofs.YtcnedecmmplmoaaGreatDoor
open Go Go.RowKit Go.BigFrame Go.Maps
open Ver (cmpV BL parts brk)
set_option maxRecDepth 100000

theorem infoVar : (Tryz.prog.info? 53).map (fun i => (i.zero, i.size, i.bytes)) = some (some (.agg #[.string ⟨#[]⟩, .string ⟨#[]⟩, .slice none 0 0, .slice none 0 0, .string ⟨#[]⟩]), 5, 96) := by kernel_rfl
def roP (ro : Nat → Nat) (v' : Value) : Nat → Nat := fun b => if v'.ownBlock = some b then 3 else if ro b = 5 ∨ ro b = 6 then 7 else ro b
/-- A variant put behind the others. -/
theorem RdAt.push {w W6 w7 : World} {base rb mb : Nat} {ro : Nat → Nat} {vl vr v' : Value} {cs : List Value} {l : List Va} {r : ByteArray} {x : Va} (h : RdAt w base rb mb ro vl vr cs (l, r)) (hx : x.needs = [] ∧ x.confs = []) (hxs : x.name.size ≤ 1000000 ∧ x.ver.size ≤ 1000000) (hfew : l.length < 2000)
    (hb6 : Below w.heap.size w W6) (hg : W6.grownBy w7 vl.ownBlock) (hm : Moved W6 vl v') (ho : w7.ownsRow base 53 5 v' (l.length + 1) (cs ++ [.string x.name, .string x.ver, .slice none 0 0, .slice none 0 0, .string x.recipe]))
    (hseen : SeenE (w7.setCell ⟨rb, 0, none⟩ v') mb (l ++ [x])) :
    RdAt (w7.setCell ⟨rb, 0, none⟩ v') base rb mb (roP ro v') v' vr (cs ++ [.string x.name, .string x.ver, .slice none 0 0, .slice none 0 0, .string x.recipe]) (l ++ [x], r) ∧ Ch w (w7.setCell ⟨rb, 0, none⟩ v') (Rdr ro) ∧ ∀ b, b < w.heap.size → ro b = 0 → roP ro v' b = 0 := by
  have hz6 := hb6.size
  have hown : ∀ b, b < w.heap.size → v'.ownBlock = some b → ro b = 3 := fun b hb e => by
    rcases hm with h1 | ⟨k, h1, h2⟩
    · exact h.lst.role b (by rw [← h1]; exact e)
    · rw [e] at h1; cases h1; omega
  have hc6 : Ch w W6 (fun _ => False) := ⟨hb6.os, hb6.tape, hb6.output, hb6.size, fun k hk _ => hb6.block k hk⟩
  have hc7 : Ch w w7 (fun b => vl.ownBlock = some b) := (hc6.weak (M' := fun b => vl.ownBlock = some b) fun _ _ e => e.elim).grown hg (fun k _ e => e)
  have hc : Ch w (w7.setCell ⟨rb, 0, none⟩ v') (fun b => vl.ownBlock = some b ∨ b = rb) := Ch.setCell (hc7.weak (M' := fun b => vl.ownBlock = some b ∨ b = rb) fun _ _ e => .inl e) (p := ⟨rb, 0, none⟩) (.inr rfl) _
  have hM : ∀ b, (vl.ownBlock = some b ∨ b = rb) → ro b = 3 ∨ ro b = 1 := fun b hb => by
    rcases hb with e | rfl
    · exact .inl (h.lst.role b e)
    · exact .inr h.rrb
  have hrb := block_lt h.box
  have hne : v'.ownBlock ≠ some rb := fun e => by have := hown rb hrb e; rw [h.rrb] at this; cases this
  have hr0 : ∀ b, b < w.heap.size → ro b ≠ 5 → ro b ≠ 6 → roP ro v' b = ro b := fun b hb h5 h6 => by
    unfold roP
    by_cases e : v'.ownBlock = some b
    · rw [if_pos e, hown b hb e]
    · rw [if_neg e, if_neg (by omega)]
  have hr7 : ∀ b, b < w.heap.size → ro b = 5 ∨ ro b = 6 ∨ ro b = 7 → roP ro v' b = 7 := fun b hb h5 => by
    have e : v'.ownBlock ≠ some b := fun e => by have := hown b hb e; omega
    unfold roP
    rw [if_neg e]
    split
    · rfl
    · omega
  have hb7 : w7.heap[rb]? = some (.cells #[vl, .map (some mb), vr] 78 (0, 0)) := hc7.heap h.box (fun e => by have := h.lst.role rb e; rw [h.rrb] at this; cases this)
  have hzc : (w7.setCell ⟨rb, 0, none⟩ v').heap.size = w7.heap.size := by simp
  have hz7 := hc7.size
  have hkeep : ∀ q un ns, q = 5 ∨ q = 6 ∨ q = 7 → NAt w base ro q un ns → NAt (w7.setCell ⟨rb, 0, none⟩ v') base (roP ro v') 7 un ns := fun q un ns hq hN => by
    have h1 := hN.ro (ro' := roP ro v') (q' := 7) (fun b hb e => hr7 b hb (by omega)) (fun b hb e => hr7 b hb (by omega))
    obtain ⟨vs, h2, h3, h4⟩ := h1
    have hC : Ch w (w7.setCell ⟨rb, 0, none⟩ v') (fun b => (vl.ownBlock = some b ∨ b = rb) ∧ b < w.heap.size) := ⟨hc.os, hc.tape, hc.output, hc.size, fun k hk hn => hc.block k hk (fun e => hn ⟨e, hk⟩)⟩
    refine NAt.ch ⟨vs, h2, h3, h4⟩ hC (fun b hb => ?_)
    have := hr0 b hb.2 (by rcases hM b hb.1 with e | e <;> omega) (by rcases hM b hb.1 with e | e <;> omega)
    rcases hM b hb.1 with e | e <;> omega
  refine ⟨⟨?_, (hr0 rb hrb (by rw [h.rrb]; decide) (by rw [h.rrb]; decide)).trans h.rrb, (hr0 mb h.seen.lt (by rw [h.rmb]; decide) (by rw [h.rmb]; decide)).trans h.rmb, fun b hb => ?_, ⟨?_, fun g e => if_pos e, fun k y hk => ?_⟩, hc.own h.rcp (fun b e hm2 => by have := h.rrcp b e; rcases hM b hm2 with e | e <;> omega), fun g hg => ?_, hseen, by simp; omega, fun y hy => ?_⟩, hc.weak fun b _ hb => by (have := hM b hb); show ro b ≠ 0; omega, fun b hb h0 => (hr0 b hb (by omega) (by omega)).trans h0⟩
  · have := blk_set hb7 0 v'
    simpa using this
  · by_cases e : v'.ownBlock = some b
    · have := ho.lt b e; omega
    · have : ro b ≠ 0 := fun e0 => hb (by unfold roP; rw [if_neg e, if_neg (by omega), e0])
      have := h.all b this
      omega
  · rw [List.length_append]
    exact World.ownsRow.kept ho (row := some rb) ⟨rfl, rfl, rfl, by simp, fun k hk hne => Below.heap_setCell _ _ _ _ (fun e => hne (by rw [e]))⟩ (.inr hne)
  · have hcl : cs.length = l.length * 5 := h.lst.own.1
    rw [show (l ++ [x]).length = l.length + 1 by simp]
    by_cases hkl : k < l.length
    · rw [List.getElem?_append_left hkl] at hk
      obtain ⟨un, uc, e, h1, h2⟩ := h.lst.item k y hk
      have e1 : qN k (l.length + 1) = 7 := by unfold qN; rw [if_neg (by omega)]
      have e2 : qC k (l.length + 1) = 7 := by unfold qC; rw [if_neg (by omega)]
      rw [e1, e2]
      refine ⟨un, uc, ?_, hkeep _ _ _ (by unfold qN; split <;> omega) h1, hkeep _ _ _ (by unfold qC; split <;> omega) h2⟩
      rw [List.drop_append_of_le_length (by omega), List.take_append_of_le_length (by rw [List.length_drop]; omega)]
      exact e
    · have hkl2 := (List.getElem?_eq_some_iff.1 hk).1
      rw [List.length_append, List.length_singleton] at hkl2
      obtain rfl : k = l.length := by omega
      rw [List.getElem?_append_right (Nat.le_refl _)] at hk
      simp at hk
      subst hk
      have e1 : qN l.length (l.length + 1) = 5 := by unfold qN; rw [if_pos rfl]
      have e2 : qC l.length (l.length + 1) = 6 := by unfold qC; rw [if_pos rfl]
      rw [e1, e2, ← hcl, List.drop_left, hx.1, hx.2]
      exact ⟨_, _, rfl, NAt.nil _ _ _ _, NAt.nil _ _ _ _⟩
  · have := h.rrcp g hg
    rw [hr0 g (h.rcp.lt g hg).2 (by omega) (by omega)]
    exact this
  · rw [List.mem_append, List.mem_singleton] at hy
    rcases hy with h1 | rfl
    · exact h.txt y h1
    · exact ⟨hxs.1, hxs.2, by rw [hx.1]; decide, by rw [hx.2]; decide⟩
end Go.Proofs.YtcnedecmmplmoaaGreatDoor
