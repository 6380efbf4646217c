/- scan: the reference's All. -/
import Derived.Test.YtadlimfpcfdgcaaScnE
import Derived.Test.YtadlimfpcfdgcaaNamJ
set_option linter.unusedVariables false
set_option linter.unusedSimpArgs false
namespace Go.Proofs.Ytadlimfpcfdgcaa
open Go Go.RowKit Go.BigFrame
open Scn (runOf wins winsTo firsts)

theorem let_val (c : UInt8) : letB c = decide (0 ≤ Nam.valI c) := by
  have h : ∀ k : Fin 256, letB (UInt8.ofNat k.1) = decide (0 ≤ Nam.valI (UInt8.ofNat k.1)) := by decide +kernel
  have := h ⟨c.toNat, c.toNat_lt⟩
  simpa using this
theorem okL_win (l : List UInt8) (h : l.length = 32) : Nam.okL (strOf l) = l.all letB := by
  unfold Nam.okL
  rw [show decide ((strOf l).size = 32) = true by rw [strOf_size]; simp [h], Bool.true_and]
  unfold strOf
  rw [show (fun c => decide (0 ≤ Nam.valI c)) = letB from funext fun c => (let_val c).symm]
theorem wins_to (l : List UInt8) (k : Nat) (h : k = 0 ∨ k + 31 ≤ l.length) (hn : ¬ k + 32 ≤ l.length) : winsTo letB 32 l k = wins letB 32 l := Scn.winsTo_all letB 32 l k (by omega)
/-- A part of a row of bytes. -/
theorem BytAt.sub {W : World} {B : Nat} {ad : Addr} {cap : Nat} {l : List UInt8} (h : BytAt W B (.slice (some ad) l.length cap) l) (k n : Nat) (hk : k + n ≤ l.length) :
    BytAt W B (.slice (some (ad.add k)) n (cap - k)) ((l.drop k).take n) := by
  obtain ⟨A, cap', e, h1, h2, h3, h4⟩ := h
  cases e
  have hl : ((l.drop k).take n).length = n := by rw [List.length_take, List.length_drop]; omega
  refine ⟨some (ad.add k), cap - k, by rw [hl], by rw [hl]; omega, by omega, (fun e => by cases e), fun hp => ⟨_, rfl, ?_, fun j hj => ?_⟩⟩
  · rw [hl] at hp
    obtain ⟨ad', e, hb, _⟩ := h4 (by omega)
    cases e
    rw [add_block]; exact hb
  · rw [hl] at hj
    obtain ⟨ad', e, _, hc⟩ := h4 (by omega)
    cases e
    rw [add_two, hc _ (by omega)]
    unfold dOf
    congr 2
    simp [List.getD, List.getElem?_take, hj, List.getElem?_drop]
set_option maxRecDepth 100000 in
set_option maxHeartbeats 4000000 in
theorem refAll_any (v : Value) (l : List UInt8) (B : Nat) (w : World) (hv : BytAt w B v l) (hBw : B ≤ w.heap.size) (hl : l.length ≤ 1000000) :
    Calls Try.prog 8 #[v] w (AllPost w (allF (strOf l))) := by
  have HV := Lib.hid hv
  obtain ⟨A, cap, rfl, hlc, hcm, hAn, hh⟩ := hv
  unfold maxLen at hcm
  clear hh
  go_enter Try.func8, Try.ntmps8
  go_wp2
  go_loopw [3, 4] (fun u i wr => ∃ k : Nat, (k = 0 ∨ k + 31 ≤ l.length) ∧ i = .int .i64 k ∧ Hid (Below w.heap.size w wr) ∧ Hid (wr.ownsRow w.heap.size 9 1 u (firsts ((winsTo letB 32 l k).map strOf)).length (strs (firsts ((winsTo letB 32 l k).map strOf))))) (fun _ i _ => l.length - (intOf i).toNat)
  case atStart => exact ⟨0, .inl rfl, rfl, Lib.hid (Below.refl _ _), Lib.hid (World.ownsRow_nil _ _ _ _)⟩
  case round =>
    obtain ⟨k, hk, rfl, HB, HO⟩ := hrel
    have hw1 : IntKind.i64.wrap ((k : Int) + 32) = (k : Int) + 32 := IntWalk.i64_in _ (by omega)
    have hw2 : IntKind.i64.wrap ((k : Int) + 1) = (k : Int) + 1 := IntWalk.i64_in _ (by omega)
    by_cases hlt : k + 32 ≤ l.length
    · have hlt1 : (k : Int) + 32 ≤ (l.length : Int) := by omega
      cases A with
      | none => have := hAn rfl; omega
      | some ad =>
        have hcv := (HV.out.keep (HB.out.mono hBw) |>.sub k 32 hlt).conv
        have hlw : ((l.drop k).take 32).length = 32 := by rw [List.length_take, List.length_drop]; omega
        have hok := okL_win _ hlw
        have hxs : (strOf ((l.drop k).take 32)).size ≤ maxLen := by rw [strOf_size, hlw]; decide
        obtain ⟨x, hx⟩ : ∃ x, x = strOf ((l.drop k).take 32) := ⟨_, rfl⟩
        rw [← hx] at hcv hok hxs
        have HX := Lib.hid hx
        clear hx
        have HWX := Lib.hid (show ∀ b, ((l.drop k).take 32).all letB = b → Nam.okL x = b from fun b h => hok.trans h)
        clear hok
        cases hall : ((l.drop k).take 32).all letB with
        | false =>
          have HT := Lib.hid (Scn.winsTo_no letB 32 l k hall)
          have HOK := Lib.hid (HWX.out false hall)
          clear hall
          go_wp2_with (first | (go_at_call 19; refine (Nam.refBytes_is false x _ hxs HOK.out).mono ?_; rintro e w2 ⟨rfl, hb2⟩) | (refine wpList_store_row rfl 53 _ _ rfl _ (digA (Nam.outD x) 20) rfl rfl 53 _ (heap_alloc_new _ _) (Nam.info20' _) (Nam.z20_size _) (Nam.digA_ok _ _) ?_; have hb3 := Nam.below_store (Below.refl w2.heap.size w2) (.cells #[Value.int IntKind.u8 0, Value.int IntKind.u8 0, Value.int IntKind.u8 0, Value.int IntKind.u8 0, Value.int IntKind.u8 0, Value.int IntKind.u8 0, Value.int IntKind.u8 0, Value.int IntKind.u8 0, Value.int IntKind.u8 0, Value.int IntKind.u8 0, Value.int IntKind.u8 0, Value.int IntKind.u8 0, Value.int IntKind.u8 0, Value.int IntKind.u8 0, Value.int IntKind.u8 0, Value.int IntKind.u8 0, Value.int IntKind.u8 0, Value.int IntKind.u8 0, Value.int IntKind.u8 0, Value.int IntKind.u8 0] 53) (digA (Nam.outD x) 20) (Nat.le_refl _); generalize World.setRow (World.alloc w2 _) _ _ = w3 at hb3 ⊢))
          go_roundw
          case rel => exact ⟨k + 1, .inr (by omega), by go_num, Lib.hid (below_step (below_step HB.out hb2 HB.out.size) hb3 (Nat.le_trans HB.out.size hb2.size)), Lib.hid (by rw [HT.out]; exact own_below (own_below HO.out hb2 (Nat.le_refl _)) hb3 (Nat.le_refl _))⟩
          case measure => simp [intOf]; omega
        | true =>
          have HT := Lib.hid (Scn.winsTo_yes letB 32 l k hall)
          have HOK := Lib.hid (HWX.out true hall)
          clear hall
          obtain ⟨i0, hi0, hz0, hz1, hzb⟩ := info_parts infoStr
          obtain ⟨L, hL⟩ : ∃ L, L = firsts ((winsTo letB 32 l k).map strOf) := ⟨_, rfl⟩
          have HLX := Lib.hid (show firsts ((winsTo letB 32 l (k + 1)).map strOf) = if isIn x L = true then L else L ++ [x] by
            rw [HT.out, List.map_append, List.map_cons, List.map_nil, ← HX.out, Scn.firsts_snoc, ← hL]
            by_cases h : x ∈ L
            · rw [if_pos h, if_pos ((isIn_iff _ _).2 h)]
            · rw [if_neg h, if_neg (fun e => h ((isIn_iff _ _).1 e))])
          have hLn : L.length ≤ 1000000 := by
            rw [hL]
            refine Nat.le_trans (firsts_len _) ?_
            rw [List.length_map]
            unfold Scn.winsTo
            refine Nat.le_trans (List.length_filter_le _ _) ?_
            simp
            omega
          rw [← hL] at HO
          clear hL HT
          cases hin : isIn x L with
          | true =>
            rw [hin, if_pos rfl] at HLX
            have HIN := Lib.hid hin
            clear hin
            go_wp2_with (first | (go_at_call 19; refine (Nam.refBytes_is true x _ hxs HOK.out).mono ?_; rintro e w2 ⟨rfl, hb2⟩) | (refine wpList_store_row rfl 53 _ _ rfl _ (digA (Nam.outD x) 20) rfl rfl 53 _ (heap_alloc_new _ _) (Nam.info20' _) (Nam.z20_size _) (Nam.digA_ok _ _) ?_; have hb3 := Nam.below_store (Below.refl w2.heap.size w2) (.cells #[Value.int IntKind.u8 0, Value.int IntKind.u8 0, Value.int IntKind.u8 0, Value.int IntKind.u8 0, Value.int IntKind.u8 0, Value.int IntKind.u8 0, Value.int IntKind.u8 0, Value.int IntKind.u8 0, Value.int IntKind.u8 0, Value.int IntKind.u8 0, Value.int IntKind.u8 0, Value.int IntKind.u8 0, Value.int IntKind.u8 0, Value.int IntKind.u8 0, Value.int IntKind.u8 0, Value.int IntKind.u8 0, Value.int IntKind.u8 0, Value.int IntKind.u8 0, Value.int IntKind.u8 0, Value.int IntKind.u8 0] 53) (digA (Nam.outD x) 20) (Nat.le_refl _); generalize World.setRow (World.alloc w2 _) _ _ = w3 at hb3 ⊢; have ho3 := own_below (own_below HO.out hb2 (Nat.le_refl _)) hb3 (Nat.le_refl _)) | (go_at_call 20; refine (refHas_any _ L x _ _ (Reads.own ho3)).mono ?_; rintro e w4 ⟨rfl, nq4, hw4⟩; rw [HIN.out]; have hb4 : Below w3.heap.size w3 w4 := (by rw [hw4]; exact below_drewN (Below.refl _ _) _); clear hw4))
            go_roundw
            case rel => exact ⟨k + 1, .inr (by omega), by go_num, Lib.hid (below_step (below_step (below_step HB.out hb2 HB.out.size) hb3 (Nat.le_trans HB.out.size hb2.size)) hb4 (Nat.le_trans HB.out.size (Nat.le_trans hb2.size hb3.size))), Lib.hid (by rw [HLX.out]; exact own_below ho3 hb4 (Nat.le_refl _))⟩
            case measure => simp [intOf]; omega
          | false =>
            rw [hin, if_neg (by simp)] at HLX
            have HIN := Lib.hid hin
            clear hin
            go_wp2_with (first | (go_at_call 19; refine (Nam.refBytes_is true x _ hxs HOK.out).mono ?_; rintro e w2 ⟨rfl, hb2⟩) | (refine wpList_store_row rfl 53 _ _ rfl _ (digA (Nam.outD x) 20) rfl rfl 53 _ (heap_alloc_new _ _) (Nam.info20' _) (Nam.z20_size _) (Nam.digA_ok _ _) ?_; have hb3 := Nam.below_store (Below.refl w2.heap.size w2) (.cells #[Value.int IntKind.u8 0, Value.int IntKind.u8 0, Value.int IntKind.u8 0, Value.int IntKind.u8 0, Value.int IntKind.u8 0, Value.int IntKind.u8 0, Value.int IntKind.u8 0, Value.int IntKind.u8 0, Value.int IntKind.u8 0, Value.int IntKind.u8 0, Value.int IntKind.u8 0, Value.int IntKind.u8 0, Value.int IntKind.u8 0, Value.int IntKind.u8 0, Value.int IntKind.u8 0, Value.int IntKind.u8 0, Value.int IntKind.u8 0, Value.int IntKind.u8 0, Value.int IntKind.u8 0, Value.int IntKind.u8 0] 53) (digA (Nam.outD x) 20) (Nat.le_refl _); generalize World.setRow (World.alloc w2 _) _ _ = w3 at hb3 ⊢; have ho3 := own_below (own_below HO.out hb2 (Nat.le_refl _)) hb3 (Nat.le_refl _)) | (go_at_call 20; refine (refHas_any _ L x _ _ (Reads.own ho3)).mono ?_; rintro e w4 ⟨rfl, nq4, hw4⟩; rw [HIN.out]; have hb4 : Below w3.heap.size w3 w4 := (by rw [hw4]; exact below_drewN (Below.refl _ _) _); clear hw4; have ho4 := own_below ho3 hb4 (Nat.le_refl _); have hz4 : w.heap.size ≤ w4.heap.size := Nat.le_trans HB.out.size (Nat.le_trans hb2.size (Nat.le_trans hb3.size hb4.size))) | (at_builtin; go_loud (refine wpList_append_own _ rfl _ _ 24 rfl w.heap.size 9 i0 (.string ⟨#[]⟩) 1 16 Try.underlying24 hi0 hz0 hz1 hzb rfl (by decide) _ _ _ rfl (ho4.alloc _) ⟨w4.heap.size, 0, none⟩ 1 1 [.string x] rfl rfl (cell_one_new _ _ _) (by simp [Value.oneCell']) (by unfold maxLen; omega) (by omega) (by simp; omega) ?_); intro v' w5 hown5 hgrow5 _))
            go_roundw
            case rel =>
              have hB4 := below_step (below_step (below_step HB.out hb2 HB.out.size) hb3 (Nat.le_trans HB.out.size hb2.size)) hb4 (Nat.le_trans HB.out.size (Nat.le_trans hb2.size hb3.size))
              refine ⟨k + 1, .inr (by omega), by go_num, Lib.hid ((hB4.alloc hz4 _).grown hgrow5 (by simp; omega) (fun j e => own_ge ho4 e)), Lib.hid ?_⟩
              rw [HLX.out, List.length_append, List.length_singleton]
              unfold strs at hown5 ⊢
              rw [List.map_append]
              exact hown5
            case measure => simp [intOf]; omega
    · have hlt1 : ¬ (k : Int) + 32 ≤ (l.length : Int) := by omega
      have HE := Lib.hid (wins_to l k hk hlt)
      go_wp2
      go_ret
      refine ⟨HB.out, u3, rfl, ?_⟩
      have := HO.out
      rw [HE.out] at this
      unfold allF winB
      rw [show (strOf l).data.toList = l by simp [strOf]]
      exact this
end Go.Proofs.Ytadlimfpcfdgcaa

/- scan: the map of names' letters; find. -/
namespace Go.Proofs.Ytadlimfpcfdgcaa
open Go Go.RowKit Go.BigFrame Go.Maps
open Scn (runOf wins winsTo firsts)

theorem zeroInt (w : World) : (zeroValue 3).run Try.prog w = .ok (.int .i64 0) w := by kernel_rfl
/-- Block mb is a map of numbers: its keys, what stands at them. -/
def CountAt (w : World) (mb : Nat) (ks : List ByteArray) (c : ByteArray → Nat) (n : Nat) : Prop :=
  ∃ D : DataW Unit, w.ownsMap Try.prog 9 (plainElem Try.prog 3) mb n D ∧ ∀ s : ByteArray, has D (kS s) = isIn s ks ∧ D.atKey (kS s) (.lit (.int .i64 0)) = .lit (.int .i64 (c s : Int))
theorem CountAt.made (w : World) : CountAt (w.alloc (.map #[] 0)) w.heap.size [] (fun _ => 0) 0 := ⟨_, World.ownsMap_made _ _ _ _, fun s => ⟨rfl, rfl⟩⟩
theorem CountAt.lt {w : World} {mb : Nat} {ks : List ByteArray} {c : ByteArray → Nat} {n : Nat} (h : CountAt w mb ks c n) : mb < w.heap.size := by
  obtain ⟨D, h1, _⟩ := h; exact h1.lt
theorem CountAt.block {w w' : World} {mb : Nat} {ks : List ByteArray} {c : ByteArray → Nat} {n : Nat} (h : CountAt w mb ks c n) (hb : w'.heap[mb]? = w.heap[mb]?) : CountAt w' mb ks c n := by
  obtain ⟨D, ⟨es, cl, h1, h3⟩, h2⟩ := h; exact ⟨D, ⟨es, cl, hb.trans h1, h3⟩, h2⟩
theorem CountAt.put {w w' : World} {mb n x : Nat} {ks : List ByteArray} {c : ByteArray → Nat} {s : ByteArray} {D : DataW Unit} (ho : w.ownsMap Try.prog 9 (plainElem Try.prog 3) mb n D)
    (hD : ∀ s : ByteArray, has D (kS s) = isIn s ks ∧ D.atKey (kS s) (.lit (.int .i64 0)) = .lit (.int .i64 (c s : Int)))
    (h : w'.ownsMap Try.prog 9 (plainElem Try.prog 3) mb (n + 1) (D.put (kS s) (.lit (.int .i64 (x : Int))))) : CountAt w' mb (ks ++ [s]) (fun t => if t = s then x else c t) (n + 1) := by
  refine ⟨_, h, fun t => ?_⟩
  rw [isIn_snoc]
  by_cases e : t = s
  · subst e
    rw [has_put_same ho.isMap (kS_key t), atKey_put_same ho.isMap (kS_key t)]
    dsimp only
    rw [if_pos rfl]
    simp
  · have hne : kS t ≠ kS s := fun h => e (kS_inj h)
    rw [has_put_other hne, atKey_put_other hne, (hD t).1, (hD t).2]
    dsimp only
    rw [if_neg e]
    simp [Ne.symm e]
/-- Only keys matter. -/
theorem CountAt.keys {w : World} {mb : Nat} {ks ks' : List ByteArray} {c c' : ByteArray → Nat} {n : Nat} (h : CountAt w mb ks c n) (hk : ∀ s, isIn s ks' = isIn s ks) (hc : ∀ s, c' s = c s) : CountAt w mb ks' c' n := by
  obtain ⟨D, h1, h2⟩ := h
  exact ⟨D, h1, fun s => ⟨by rw [hk]; exact (h2 s).1, by rw [hc]; exact (h2 s).2⟩⟩
def headsF (names : List ByteArray) : List ByteArray := (names.filter Nam.okP).map Nam.headS
def toldF (names ws : List ByteArray) : List ByteArray := names.filter fun s => Nam.okP s && isIn (Nam.headS s) ws
theorem headsF_yes (l : List ByteArray) (s : ByteArray) (h : Nam.okP s = true) : headsF (l ++ [s]) = headsF l ++ [Nam.headS s] := by simp [headsF, h]
theorem headsF_no (l : List ByteArray) (s : ByteArray) (h : Nam.okP s = false) : headsF (l ++ [s]) = headsF l := by simp [headsF, h]
def SmallT (l : List ByteArray) : Prop := ∀ s ∈ l, s.size ≤ maxLen
theorem getT_at {l : List ByteArray} {k : Nat} (h : k < l.length) : l[k]? = some (l.getD k ⟨#[]⟩) := by simp [List.getD, h]
theorem getT_mem {l : List ByteArray} {k : Nat} (h : k < l.length) : l.getD k ⟨#[]⟩ ∈ l := List.mem_of_getElem? (getT_at h)
theorem takeT (l : List ByteArray) (k : Nat) (h : k < l.length) : l.take (k + 1) = l.take k ++ [l.getD k ⟨#[]⟩] := by
  rw [List.take_succ_eq_append_getElem h]; simp [List.getD, h]
/-- A finder, with its map. -/
structure FindAt (w W : World) (fb mb : Nat) (ks : List ByteArray) (c : ByteArray → Nat) (n : Nat) : Prop where
  box : W.heap[fb]? = some (.cells #[.map (some mb)] 70 (0, 0))
  map : CountAt W mb ks c n
  fbl : w.heap.size ≤ fb
  mbl : w.heap.size ≤ mb
  ne : fb ≠ mb
theorem own_map_below {w w2 : World} {mb n : Nat} {D : DataW Unit} {k : TypeId} {R : Value → Option (DataW Unit × List MemPlace)} (h : w.ownsMap Try.prog k R mb n D) (hb : Below w.heap.size w w2) : w2.ownsMap Try.prog k R mb n D := by
  have hl := h.lt
  obtain ⟨es, cl, h1, h3⟩ := h
  exact ⟨es, cl, (hb.block mb hl).trans h1, h3⟩
def FindPost (w : World) (names : List ByteArray) (e : Ending) (W : World) : Prop :=
  Below w.heap.size w W ∧ ∃ fb mb n, e = .returned (.pointer (some ⟨fb, 0, none⟩)) ∧ FindAt w W fb mb (headsF names) (fun _ => 0) n ∧ n ≤ names.length
set_option maxRecDepth 100000 in
set_option maxHeartbeats 4000000 in
theorem find_any (a : Value) (names : List ByteArray) (B : Nat) (w : World) (ha : Reads w B a (strs names)) (hBw : B ≤ w.heap.size) (hs : SmallT names) (hn : names.length ≤ 1000000) :
    Calls Try.prog 22 #[a] w (FindPost w names) := by
  have HP := Lib.hid (fun (W : World) (fb mb n : Nat) (hb : Below w.heap.size w W) (h : FindAt w W fb mb (headsF names) (fun _ => 0) n) (hn : n ≤ names.length) => show FindPost w names (.returned (.pointer (some ⟨fb, 0, none⟩))) W from ⟨hb, fb, mb, n, rfl, h, hn⟩)
  generalize FindPost w names = post at *
  obtain ⟨A, ca, rfl, hla, hma, hza, hra⟩ := ha
  simp only [strs_len] at *
  have HRA := Lib.hid hra
  clear hra
  have HS := Lib.hid hs
  clear hs
  unfold maxLen at hma
  have hmm := @run_makeMap Try.prog
  have hst : FindAt w ((w.alloc (.map #[] 0)).alloc (.cells #[.map (some w.heap.size)] 70)) (w.heap.size + 1) w.heap.size [] (fun _ => 0) 0 :=
    ⟨by have := heap_alloc_new (w.alloc (.map #[] 0)) (.cells #[.map (some w.heap.size)] 70); simpa using this, (CountAt.made w).block (old_block _ _ _ (by simp)), by omega, Nat.le_refl _, by omega⟩
  have hbs : Below w.heap.size w ((w.alloc (.map #[] 0)).alloc (.cells #[.map (some w.heap.size)] 70)) := ((Below.refl _ w).alloc (Nat.le_refl _) _).alloc (by simp) _
  have HST := Lib.hid (And.intro hst hbs)
  clear hst hbs
  go_enter Try.func22, Try.ntmps22
  go_upto_region 2 with (fail)
  generalize (w.alloc (.map #[] 0)).alloc (.cells #[.map (some w.heap.size)] 70) = w1 at *
  clear hmm
  go_wp2
  go_loopw [14, 5, 6, 7, 8] (fun i _ _ _ _ wr => ∃ k : Nat, k ≤ names.length ∧ i = .int .i64 k ∧ Hid (Below w.heap.size w wr) ∧ Hid (∃ n, n ≤ k ∧ FindAt w wr (w.heap.size + 1) w.heap.size (headsF (names.take k)) (fun _ => 0) n)) (fun i _ _ _ _ _ => names.length - (intOf i).toNat)
  case atStart => exact ⟨0, by omega, rfl, Lib.hid HST.out.2, Lib.hid ⟨0, Nat.le_refl _, HST.out.1⟩⟩
  case round =>
    obtain ⟨k, hk, rfl, HB, HFn⟩ := hrel
    obtain ⟨n, hnk, hF⟩ := HFn.out
    have HF := Lib.hid hF
    clear hF HFn
    have hw1 : IntKind.i64.wrap ((k : Int) + 1) = (k : Int) + 1 := IntWalk.i64_in _ (by omega)
    by_cases hlt : k < names.length
    · obtain ⟨ad, rfl, hbl, hc⟩ := HRA.out (by omega)
      have hcx := (HB.out.cell (by rw [add_block]; omega)).trans (hc k _ (strs_get names k hlt))
      clear hc
      have hi1 : (k : Int) < (names.length : Int) := by omega
      have hi0 : (0 : Int) ≤ (k : Int) := by omega
      have hsz := HS.out _ (getT_mem hlt)
      have HTK := Lib.hid (takeT names k hlt)
      obtain ⟨x, hx⟩ : ∃ x, x = names.getD k ⟨#[]⟩ := ⟨_, rfl⟩
      rw [← hx] at hcx HTK hsz
      clear hx
      cases hok : Nam.okP x with
      | true =>
        have HHF := Lib.hid (headsF_yes (names.take k) x hok)
        have HOK := Lib.hid hok
        clear hok
        obtain ⟨D, hD1, hD2⟩ := HF.out.map
        have HH := Lib.hid (show (Nam.headS x).size ≤ maxLen by rw [Nam.head_size x (by have := Nam.okP_yes x HOK.out; omega)]; decide)
        go_wp2_with (first | (go_at_call 35; refine (Nam.parse_yes x _ hsz HOK.out).mono ?_; rintro e w2 ⟨rfl, hb2⟩; have hc2 : w2.cell? ⟨w.heap.size + 1, 0, none⟩ = some (.map (some w.heap.size)) := (by rw [cell_of_row _ _ _ _ _ _ ((hb2.block _ (block_lt HF.out.box)).trans HF.out.box)]; rfl); have hD3 := own_map_below hD1 hb2) | (at_mapUpdate; go_loud (refine wpList_mapUpdate_own _ rfl _ _ _ 68 rfl 9 3 keyStr Try.underlying68 _ w.heap.size n D rfl hD3 (by unfold maxLen; omega) _ _ (kS (Nam.headS x)) rfl rfl (Go.WideMaps.keyOf_string_mk Try.underlying9 HH.out) (.lit (.int .i64 0)) [] (plainElem_int Try.underlying3 (by decide)) ?_); intro w3 hown3 hgrow3))
        go_roundw
        case rel =>
          have hfb := block_lt HF.out.box
          have hs2 := hb2.size
          refine ⟨k + 1, by omega, by go_num, Lib.hid ((below_step HB.out hb2 HB.out.size).grown hgrow3 (Nat.le_trans HB.out.size hs2) (fun j e => by cases e; omega)), Lib.hid ⟨n + 1, by omega, (hgrow3.block _ (by omega) (fun e => by injection e with e; omega)).trans ((hb2.block _ hfb).trans HF.out.box), ?_, by omega, Nat.le_refl _, by omega⟩⟩
          refine (CountAt.put (x := 0) hD3 hD2 hown3).keys (fun s => ?_) (fun s => ?_)
          · rw [HTK.out, HHF.out]
          · simp
        case measure => simp [intOf]; omega
      | false =>
        have HHF := Lib.hid (headsF_no (names.take k) x hok)
        have HOK := Lib.hid hok
        clear hok
        go_wp2_with (go_at_call 35; refine (Nam.parse_no x _ hsz HOK.out).mono ?_; rintro e w2 ⟨rfl, hb2⟩)
        go_roundw
        case rel =>
          refine ⟨k + 1, by omega, by go_num, Lib.hid (below_step HB.out hb2 HB.out.size), Lib.hid ⟨n, by omega, (hb2.block _ (block_lt HF.out.box)).trans HF.out.box, ?_, by omega, Nat.le_refl _, by omega⟩⟩
          rw [HTK.out, HHF.out]
          exact HF.out.map.block (hb2.block _ HF.out.map.lt)
        case measure => simp [intOf]; omega
    · have HE := Lib.hid (show names.take k = names from List.take_of_length_le (by omega))
      have hi1 : ¬ (k : Int) < (names.length : Int) := by omega
      have h := HF.out
      rw [HE.out] at h
      have HQ := Lib.hid h
      clear h
      go_wp2
      exact HP.out _ _ _ n HB.out HQ.out (by omega)
end Go.Proofs.Ytadlimfpcfdgcaa

/- scan: look, walked. -/
namespace Go.Proofs.Ytadlimfpcfdgcaa
open Go Go.RowKit Go.BigFrame Go.Maps
open Scn (runOf wins winsTo firsts)
attribute [local go_sem] Oper.semAt_some

theorem grown_trans {w W W' : World} {mb : Nat} {row : Option Nat} (h : w.grownBy W (some mb)) (hg : W.grownBy W' row) (hr : ∀ r, row = some r → r = mb ∨ w.heap.size ≤ r) : w.grownBy W' (some mb) :=
  ⟨hg.os.trans h.os, hg.tape.trans h.tape, hg.output.trans h.output, Nat.le_trans h.size hg.size, fun k hk hne => (hg.block k (Nat.lt_of_lt_of_le hk h.size) (fun e => by
    rcases hr k e.symm with h1 | h1
    · exact hne (by rw [h1])
    · omega)).trans (h.block k hk hne)⟩
theorem has_of_size {D : DataW Unit} (hm : IsMap D) (h : Maps.size D = 0) (k : Lit) : has D k = false := by
  obtain ⟨es, rfl⟩ := hm
  rw [size_eq] at h
  have : es = [] := List.eq_nil_of_length_eq_zero h
  subst this
  rfl
/-- What look leaves. -/
structure LookW (w : World) (fb mb : Nat) (ks : List ByteArray) (ws : List ByteArray) (n0 : Nat) (W : World) : Prop where
  grown : w.grownBy W (some mb)
  cnt : ∃ c n, CountAt W mb ks c n ∧ n ≤ n0 + ws.length ∧ (∀ s, 0 < c s ↔ isIn s ks = true ∧ s ∈ ws) ∧ ∀ s, c s ≤ ws.length
  box : W.heap[fb]? = some (.cells #[.map (some mb)] 70 (0, 0))
theorem LookW.turn {w W W' : World} {fb mb n0 : Nat} {ks ws : List ByteArray} {row : Option Nat} (h : LookW w fb mb ks ws n0 W) (hg : W.grownBy W' row) (hr : ∀ r, row = some r → w.heap.size ≤ r) (hm : mb < w.heap.size) (hf : fb < w.heap.size) : LookW w fb mb ks ws n0 W' := by
  obtain ⟨h1, ⟨c, n, h2, h3⟩, h4⟩ := h
  refine ⟨grown_trans h1 hg (fun r e => .inr (hr r e)), ⟨c, n, h2.block (hg.block _ h2.lt fun e => by have := hr _ e.symm; omega), h3⟩, (hg.block _ (block_lt h4) fun e => by have := hr _ e.symm; omega).trans h4⟩
/-- Between two rounds of look. -/
structure LookR (w W0 : World) (fb mb : Nat) (ks : List ByteArray) (n0 : Nat) (pre : List T32) (W : World) : Prop where
  look : LookW w fb mb ks (pre.map (·.1)) n0 W
  bx : Boxed W w.heap.size 58 (.pointer (some ⟨fb, 0, none⟩))
  size : W0.heap.size ≤ W.heap.size
def LookPost (w : World) (fb mb : Nat) (ks : List ByteArray) (s : ByteArray) (n0 : Nat) (e : Ending) (W : World) : Prop := (∃ v, e = .returned v) ∧ LookW w fb mb ks (winB s) n0 W
set_option maxRecDepth 100000 in
set_option maxHeartbeats 4000000 in
theorem look_any (s : ByteArray) (fb mb n0 : Nat) (ks : List ByteArray) (w : World) (hs : s.size ≤ 1000000) (hbox : w.heap[fb]? = some (.cells #[.map (some mb)] 70 (0, 0))) (hne : fb ≠ mb)
    (hc : CountAt w mb ks (fun _ => 0) n0) (hn0 : n0 ≤ 1000000) :
    Calls Try.prog 23 #[.pointer (some ⟨fb, 0, none⟩), .string s] w (LookPost w fb mb ks s n0) := by
  refine (callsIn_wide (n := 6)).1 ?_
  have hro : Fence.wide.round = none := rfl
  have hfl := block_lt hbox
  have hml := hc.lt
  obtain ⟨D, hD1, hD2⟩ := hc
  have hcf : (w.alloc (.cells #[.pointer (some ⟨fb, 0, none⟩)] 58)).cell? ⟨fb, 0, none⟩ = some (.map (some mb)) := by
    rw [cell_of_row _ _ _ _ _ _ ((old_block w _ _ hfl).trans hbox)]; rfl
  have hDa := hD1.alloc (.cells #[.pointer (some ⟨fb, 0, none⟩)] 58)
  refine callsIn_of_wp_marks Try.func23 rfl trivial ?_ hro
  simp only [Try.ntmps23, List.size_toArray, List.length_cons, List.length_nil, Nat.reduceAdd, Nat.reduceSub, Array.replicate_succ, Array.replicate_zero, List.push_toArray, List.append_toArray, List.nil_append, List.cons_append]
  by_cases h0 : Maps.size D = 0
  · gi_wp2_with (gi_at_len; refine wpListIn_len_own _ rfl _ 68 rfl 9 3 Try.underlying68 _ mb n0 D rfl hDa ?_; rw [h0])
    refine ⟨_, results_none rfl _ _ _, ⟨_, rfl⟩, World.grownBy_alloc w _ (some mb), ⟨fun _ => 0, n0, CountAt.block ⟨D, hD1, hD2⟩ (old_block w _ _ hml), by omega, fun t => ⟨fun h => absurd h (Nat.lt_irrefl 0), fun h => ?_⟩, fun t => Nat.zero_le _⟩, (old_block w _ _ hfl).trans hbox⟩
    have h1 := (hD2 t).1
    rw [has_of_size hD1.isMap h0, h.1] at h1
    cases h1
  · by_cases h32 : s.size < 32
    · have h0i : ¬ (Maps.size D : Int) = 0 := by omega
      have h32i : (s.size : Int) < 32 := by omega
      gi_wp2_with (gi_at_len; refine wpListIn_len_own _ rfl _ 68 rfl 9 3 Try.underlying68 _ mb n0 D rfl hDa ?_)
      refine ⟨_, results_none rfl _ _ _, ⟨_, rfl⟩, World.grownBy_alloc w _ (some mb), ⟨fun _ => 0, n0, CountAt.block ⟨D, hD1, hD2⟩ (old_block w _ _ hml), by omega, fun t => ⟨fun h => absurd h (Nat.lt_irrefl 0), fun h => ?_⟩, fun t => Nat.zero_le _⟩, (old_block w _ _ hfl).trans hbox⟩
      have h1 := h.2
      rw [show winB s = [] by unfold winB; rw [Scn.wins_short _ _ _ (by rw [Array.length_toList]; exact h32)]; rfl] at h1
      cases h1
    · have h0i : ¬ (Maps.size D : Int) = 0 := by omega
      have h32i : ¬ (s.size : Int) < 32 := by omega
      gi_wp2_with (first | (gi_at_len; refine wpListIn_len_own _ rfl _ 68 rfl 9 3 Try.underlying68 _ mb n0 D rfl hDa ?_) | (refine ⟨trivial, ((callsIn_wide (n := 5)).2 (windows_any s _)).mono ?_⟩; rintro e W1 ⟨rfl, rfl⟩))
      have hbt : ((w.alloc (.cells #[.pointer (some ⟨fb, 0, none⟩)] 58)).alloc (.cells #[.string s] 9)).heap[w.heap.size + 1]? = some (.cells #[.string s] 9 (0, 0)) := by
        have := heap_alloc_new (w.alloc (.cells #[.pointer (some ⟨fb, 0, none⟩)] 58)) (.cells #[.string s] 9)
        simpa using this
      have hst : LookR w ((w.alloc (.cells #[.pointer (some ⟨fb, 0, none⟩)] 58)).alloc (.cells #[.string s] 9)) fb mb ks n0 [] ((w.alloc (.cells #[.pointer (some ⟨fb, 0, none⟩)] 58)).alloc (.cells #[.string s] 9)) :=
        ⟨⟨grown_trans (World.grownBy_alloc w _ (some mb)) (World.grownBy_alloc _ _ none) (fun r e => by cases e), ⟨fun _ => 0, n0, CountAt.block ⟨D, hD1, hD2⟩ ((old_block _ _ _ (by simp; omega)).trans (old_block w _ _ hml)), by omega, fun t => ⟨fun h => absurd h (Nat.lt_irrefl 0), fun h => by have := h.2; simp at this⟩, fun t => Nat.zero_le _⟩, (old_block _ _ _ (by simp; omega)).trans ((old_block w _ _ hfl).trans hbox)⟩, (Boxed.new w _ _).alloc _, Nat.le_refl _⟩
      have hz2 : ((w.alloc (.cells #[.pointer (some ⟨fb, 0, none⟩)] 58)).alloc (.cells #[.string s] 9)).heap.size = w.heap.size + 2 := by simp
      generalize (w.alloc (.cells #[.pointer (some ⟨fb, 0, none⟩)] 58)).alloc (.cells #[.string s] 9) = W2 at *
      clear hDa hcf hD1 hD2 hbox
      refine wpIn_rangeFunc_ownG hro (by omega) (gf := 31) (lb := #[.pointer (some ⟨w.heap.size + 1, 0, none⟩)]) rfl trivial (enters_of Try.func31 (by kernel_rfl) rfl)
        (windows_stops 5 (by omega) W2 (w.heap.size + 1) s (by unfold maxLen; omega) hbt) (fun h k => h.trans k) (fun W j o o' hj hjo _ _ => ((grownBy_putObj' W j o').block (w.heap.size + 1) (by have := block_lt hjo; omega) (fun e => by cases e; omega))) (Below.refl _ _) (fun _ => rfl)
        (LookR w W2 fb mb ks n0) (fun _ _ _ => False) ?own (fun _ _ _ _ _ hs _ _ => hs) hst
        (fun x => { tmps := #[Value.pointer (some { block := fb, off := 0 }), Value.string s,
          Value.pointer (some { block := w.heap.size, off := 0 }), undef, .string x.1, undef, undef,
          Value.pointer (some { block := fb, off := 0 }), Value.pointer (some { block := fb, off := 0 }),
          Value.pointer (some { block := fb, off := 0 }), Value.map (some mb), Value.int IntKind.i64 (Maps.size D : Int),
          Value.bool false, Value.bool false, Value.string s, Value.int IntKind.i64 (s.size : Int), Value.bool false,
          Value.bool false, Value.string s,
          Value.func (Fn.func 31) #[] #[Value.pointer (some { block := w.heap.size + 1, off := 0 })], .string x.1, undef,
          undef, undef, undef, undef, undef, undef, undef, undef, undef, undef, undef, undef, undef, undef, undef, undef], defers := [] }) ?assign ?body ?done ?stop
      case own =>
        intro q X Y row hs hg hr
        obtain ⟨hl, hbx, hz⟩ := hs
        exact ⟨hl.turn hg (fun r e => by have := (hr r e).1; omega) hml hfl, hbx.kept hg (fun e => by have := (hr _ e.symm).1; omega), Nat.le_trans hz hg.size⟩
      case assign =>
        intro l' x W K hK
        gi_wp2
        exact hK
      case body =>
        rintro l' pre x W ⟨hl, hbx, hz⟩ hlen
        have hcB := hbx.cell
        have hcf : W.cell? ⟨fb, 0, none⟩ = some (.map (some mb)) := by rw [cell_of_row _ _ _ _ _ _ hl.box]; rfl
        have hxs : x.1.size ≤ maxLen := by rw [x.2]; decide
        have hpl : pre.length ≤ 1000001 := by have := winB_len s; omega
        have HL := Lib.hid hl
        obtain ⟨hgr, ⟨c, n, ⟨D2, hD1, hD2⟩, hn, hc1, hc2⟩, hbx2⟩ := hl
        rw [List.length_map] at hn
        have hcx := hc2 x.1
        rw [List.length_map] at hcx
        have HC := Lib.hid (And.intro hc1 (And.intro hc2 hD2))
        have hh := (hD2 x.1).1
        clear hc1 hc2 hgr hbx2
        cases hin : isIn x.1 ks with
        | true =>
          rw [hin] at hh
          have hw1 : IntKind.i64.wrap ((c x.1 : Int) + 1) = (c x.1 : Int) + 1 := IntWalk.i64_in _ (by omega)
          gi_wp2_with (first | (gi_at_lookup; go_loud (refine wpListIn_lookup_own_ok_int _ rfl _ _ 68 rfl 9 3 .i64 keyStr Try.underlying68 Try.underlying3 (zeroInt _) mb n D2 rfl hD1 _ (kS x.1) rfl (Go.WideMaps.keyOf_string_mk Try.underlying9 hxs) ?_); intro cc hat _; have hcc : cc = (c x.1 : Int) := (by have h := hat.symm.trans (HC.out.2.2 x.1).2; simpa using h); subst hcc; rw [hh]) | (gi_at_mapUpdate; go_loud (refine wpListIn_mapUpdate_own _ rfl _ _ _ 68 rfl 9 3 keyStr Try.underlying68 _ mb n D2 rfl hD1 (by unfold maxLen; omega) _ _ (kS x.1) rfl rfl (Go.WideMaps.keyOf_string_mk Try.underlying9 hxs) (.lit (.int .i64 ((c x.1 + 1 : Nat) : Int))) [] (plainElem_int Try.underlying3 (by simp [Lit.wf, IntKind.min, IntKind.max, IntKind.signed, IntKind.bits]; omega)) ?_); intro w1 hown1 hgrow1))
          refine ⟨KeepsFrom.of_grownBy hgrow1 (fun j e => by cases e; omega), hgrow1.block (w.heap.size + 1) (by omega) (fun e => by injection e with e; omega),
            ⟨grown_trans HL.out.grown hgrow1 (fun r e => .inl (by cases e; rfl)), ⟨fun t => if t = x.1 then c x.1 + 1 else c t, n + 1, (CountAt.put (x := c x.1 + 1) hD1 HC.out.2.2 hown1).keys (fun t => ?_) (fun t => rfl), by simp; omega, fun t => ?_, fun t => ?_⟩, (hgrow1.block fb (by have := block_lt HL.out.box; omega) (fun e => by injection e with e; omega)).trans HL.out.box⟩,
            hbx.kept hgrow1 (fun e => by injection e with e; omega), Nat.le_trans hz hgrow1.size⟩
          · rw [isIn_snoc]
            by_cases e : x.1 = t
            · rw [← e, hin]; rfl
            · simp [e]
          · dsimp only
            rw [List.map_append, List.mem_append, List.map_cons, List.map_nil, List.mem_singleton]
            by_cases e : t = x.1
            · rw [if_pos e, e, hin]
              exact ⟨fun _ => ⟨rfl, .inr rfl⟩, fun _ => Nat.succ_pos _⟩
            · rw [if_neg e, HC.out.1 t]
              exact ⟨fun h => ⟨h.1, .inl h.2⟩, fun h => ⟨h.1, h.2.resolve_right e⟩⟩
          · dsimp only
            have h1 := HC.out.2.1 t
            rw [List.length_map] at h1
            rw [List.length_map, List.length_append, List.length_singleton]
            split
            · omega
            · omega
        | false =>
          rw [hin] at hh
          gi_wp2_with (gi_at_lookup; go_loud (refine wpListIn_lookup_own_ok_int _ rfl _ _ 68 rfl 9 3 .i64 keyStr Try.underlying68 Try.underlying3 (zeroInt _) mb n D2 rfl hD1 _ (kS x.1) rfl (Go.WideMaps.keyOf_string_mk Try.underlying9 hxs) ?_); intro cc hat _; rw [hh])
          refine ⟨KeepsFrom.refl _ _, rfl, ⟨HL.out.grown, ⟨c, n, ⟨D2, hD1, HC.out.2.2⟩, by simp; omega, fun t => ?_, fun t => by have := HC.out.2.1 t; simp at this ⊢; omega⟩, HL.out.box⟩, hbx, hz⟩
          rw [HC.out.1 t, List.map_append, List.mem_append, List.map_cons, List.map_nil, List.mem_singleton]
          constructor
          · rintro ⟨h1, h2⟩; exact ⟨h1, .inl h2⟩
          · rintro ⟨h1, h2 | h2⟩
            · exact ⟨h1, h2⟩
            · subst h2; rw [hin] at h1; cases h1
      case done =>
        rintro D' ys W hD hS ⟨hl, hbx, hz⟩ hK
        gi_wp2
        refine ⟨by simp, .inl ⟨_, _, rfl, run_takeDeferred hK, ?_⟩⟩
        refine ⟨_, results_none rfl _ _ _, ⟨_, rfl⟩, ?_⟩
        rw [hS] at hl
        exact hl.turn (grownBy_putObj' W D' _) (fun r e => by cases e; omega) hml hfl
      case stop =>
        rintro D' c pre W _ _ h _
        exact h.elim
end Go.Proofs.Ytadlimfpcfdgcaa

/- scan: told, Refs. -/
namespace Go.Proofs.Ytadlimfpcfdgcaa
open Go Go.RowKit Go.BigFrame Go.Maps
open Scn (runOf wins winsTo firsts)

theorem headsF_mem {names : List ByteArray} {s : ByteArray} (h : s ∈ names) (ho : Nam.okP s = true) : isIn (Nam.headS s) (headsF names) = true := by
  rw [isIn_iff]
  exact List.mem_map.2 ⟨s, List.mem_filter.2 ⟨h, ho⟩, rfl⟩
theorem toldF_yes (l ws : List ByteArray) (s : ByteArray) (h : (Nam.okP s && isIn (Nam.headS s) ws) = true) : toldF (l ++ [s]) ws = toldF l ws ++ [s] := by
  unfold toldF
  rw [List.filter_append, List.filter_cons, if_pos h, List.filter_nil]
theorem toldF_no (l ws : List ByteArray) (s : ByteArray) (h : (Nam.okP s && isIn (Nam.headS s) ws) = false) : toldF (l ++ [s]) ws = toldF l ws := by
  unfold toldF
  rw [List.filter_append, List.filter_cons, if_neg (by simp [h]), List.filter_nil, List.append_nil]
theorem toldF_len (l ws : List ByteArray) : (toldF l ws).length ≤ l.length := List.length_filter_le _ _
set_option maxRecDepth 100000 in
set_option maxHeartbeats 4000000 in
theorem told_any (a : Value) (names ws ks : List ByteArray) (c : ByteArray → Nat) (fb mb n B : Nat) (w : World) (ha : Reads w B a (strs names)) (hBw : B ≤ w.heap.size) (hs : SmallT names) (hn : names.length ≤ 1000000)
    (hbox : w.heap[fb]? = some (.cells #[.map (some mb)] 70 (0, 0))) (hc : CountAt w mb ks c n) (hk : ks = headsF names) (hcc : ∀ s, 0 < c s ↔ isIn s ks = true ∧ s ∈ ws) :
    Calls Try.prog 24 #[.pointer (some ⟨fb, 0, none⟩), a] w (AllPost w (toldF names ws)) := by
  have HP := Lib.hid (fun (W : World) (v : Value) (hb : Below w.heap.size w W) (h : W.ownsRow w.heap.size 9 1 v (toldF names ws).length (strs (toldF names ws))) => show AllPost w (toldF names ws) (.returned v) W from ⟨hb, v, rfl, h⟩)
  generalize AllPost w (toldF names ws) = post at *
  obtain ⟨A, ca, rfl, hla, hma, hza, hra⟩ := ha
  simp only [strs_len] at *
  have HRA := Lib.hid hra
  have HS := Lib.hid hs
  have HBX := Lib.hid hbox
  have HC := Lib.hid hc
  have HK := Lib.hid (show ∀ s, s ∈ names → Nam.okP s = true → (0 < c (Nam.headS s) ↔ isIn (Nam.headS s) ws = true) from fun s h1 h2 => by
    rw [hcc, hk, headsF_mem h1 h2, isIn_iff]; simp)
  unfold maxLen at hma
  clear hra hs hbox hc hcc hk
  obtain ⟨i0, hi0, hz0, hz1, hzb⟩ := info_parts infoStr
  go_enter Try.func24, Try.ntmps24
  go_wp2
  go_loopw [5, 13] (fun u i wr => ∃ k : Nat, k ≤ names.length ∧ i = .int .i64 k ∧ Hid (Below w.heap.size w wr) ∧ Hid (wr.ownsRow w.heap.size 9 1 u (toldF (names.take k) ws).length (strs (toldF (names.take k) ws)))) (fun _ i _ => names.length - (intOf i).toNat)
  case atStart => exact ⟨0, by omega, rfl, Lib.hid (Below.refl _ _), Lib.hid (World.ownsRow_nil _ _ _ _)⟩
  case round =>
    obtain ⟨k, hk, rfl, HB, HO⟩ := hrel
    have hw1 : IntKind.i64.wrap ((k : Int) + 1) = (k : Int) + 1 := IntWalk.i64_in _ (by omega)
    by_cases hlt : k < names.length
    · obtain ⟨ad, rfl, hbl, hc⟩ := HRA.out (by omega)
      have hcx := (HB.out.cell (by rw [add_block]; omega)).trans (hc k _ (strs_get names k hlt))
      clear hc
      have hi1 : (k : Int) < (names.length : Int) := by omega
      have hi0' : (0 : Int) ≤ (k : Int) := by omega
      have hsz := HS.out _ (getT_mem hlt)
      have HTK := Lib.hid (takeT names k hlt)
      have HM := Lib.hid (getT_mem hlt)
      obtain ⟨x, hx⟩ : ∃ x, x = names.getD k ⟨#[]⟩ := ⟨_, rfl⟩
      rw [← hx] at hcx HTK hsz HM
      clear hx
      have hLn : (toldF (names.take k) ws).length ≤ 1000000 := by have := toldF_len (names.take k) ws; rw [List.length_take] at this; omega
      cases hok : Nam.okP x with
      | true =>
        have hHH : (Nam.headS x).size ≤ maxLen := by rw [Nam.head_size x (by have := Nam.okP_yes x hok; omega)]; decide
        have HKX := Lib.hid (HK.out x HM.out hok)
        have HOK := Lib.hid hok
        clear hok
        have HC2 := Lib.hid (fun (w2 : World) (hb2 : Below wr.heap.size wr w2) => HC.out.block ((hb2.block _ (Nat.lt_of_lt_of_le HC.out.lt HB.out.size)).trans (HB.out.block _ HC.out.lt)))
        cases hin : isIn (Nam.headS x) ws with
        | true =>
          have HT := Lib.hid (toldF_yes (names.take k) ws x (by rw [HOK.out, hin]; rfl))
          have hcp : (0 : Int) < (c (Nam.headS x) : Int) := by have := HKX.out.2 hin; omega
          clear hin
          go_wp2_with (first | (go_at_call 35; refine (Nam.parse_yes x _ hsz HOK.out).mono ?_; rintro e w2 ⟨rfl, hb2⟩; have hc2 : w2.cell? ⟨fb, 0, none⟩ = some (.map (some mb)) := (by rw [cell_of_row _ _ _ _ _ _ ((hb2.block _ (Nat.lt_of_lt_of_le (block_lt HBX.out) HB.out.size)).trans ((HB.out.block _ (block_lt HBX.out)).trans HBX.out))]; rfl); obtain ⟨D, hD1, hD2⟩ := HC2.out w2 hb2; have ho2 := own_below HO.out hb2 (Nat.le_refl _); have hz2 := Nat.le_trans HB.out.size hb2.size; obtain ⟨cc, hlk, hat, _⟩ := hD1.lookup_int keyStr Try.underlying68 Try.underlying3 (zeroInt _) (Go.WideMaps.keyOf_string_mk Try.underlying9 hHH); have hcc : cc = (c (Nam.headS x) : Int) := (by have h := hat.symm.trans (hD2 (Nam.headS x)).2; simpa using h); subst hcc) | (at_builtin; go_loud (refine wpList_append_own _ rfl _ _ 24 rfl w.heap.size 9 i0 (.string ⟨#[]⟩) 1 16 Try.underlying24 hi0 hz0 hz1 hzb rfl (by decide) _ _ _ rfl (ho2.alloc _) ⟨w2.heap.size, 0, none⟩ 1 1 [.string x] rfl rfl (cell_one_new _ _ _) (by simp [Value.oneCell']) (by unfold maxLen; omega) (by omega) (by simp; omega) ?_); intro v' w5 hown5 hgrow5 _))
          go_roundw
          case rel =>
            refine ⟨k + 1, by omega, by go_num, Lib.hid (((below_step HB.out hb2 HB.out.size).alloc hz2 _).grown hgrow5 (by simp; omega) (fun j e => own_ge ho2 e)), Lib.hid ?_⟩
            rw [HTK.out, HT.out, List.length_append, List.length_singleton]
            unfold strs at hown5 ⊢
            rw [List.map_append]
            exact hown5
          case measure => simp [intOf]; omega
        | false =>
          have HT := Lib.hid (toldF_no (names.take k) ws x (by rw [HOK.out, hin]; rfl))
          have hcp : ¬ (0 : Int) < (c (Nam.headS x) : Int) := by
            intro h
            have := HKX.out.1 (by omega)
            rw [hin] at this; cases this
          clear hin
          go_wp2_with ((go_at_call 35; refine (Nam.parse_yes x _ hsz HOK.out).mono ?_; rintro e w2 ⟨rfl, hb2⟩; have hc2 : w2.cell? ⟨fb, 0, none⟩ = some (.map (some mb)) := (by rw [cell_of_row _ _ _ _ _ _ ((hb2.block _ (Nat.lt_of_lt_of_le (block_lt HBX.out) HB.out.size)).trans ((HB.out.block _ (block_lt HBX.out)).trans HBX.out))]; rfl); obtain ⟨D, hD1, hD2⟩ := HC2.out w2 hb2; have ho2 := own_below HO.out hb2 (Nat.le_refl _); have hz2 := Nat.le_trans HB.out.size hb2.size; obtain ⟨cc, hlk, hat, _⟩ := hD1.lookup_int keyStr Try.underlying68 Try.underlying3 (zeroInt _) (Go.WideMaps.keyOf_string_mk Try.underlying9 hHH); have hcc : cc = (c (Nam.headS x) : Int) := (by have h := hat.symm.trans (hD2 (Nam.headS x)).2; simpa using h); subst hcc))
          go_roundw
          case rel => exact ⟨k + 1, by omega, by go_num, Lib.hid (below_step HB.out hb2 HB.out.size), Lib.hid (by rw [HTK.out, HT.out]; exact ho2)⟩
          case measure => simp [intOf]; omega
      | false =>
        have HT := Lib.hid (toldF_no (names.take k) ws x (by rw [hok]; rfl))
        have HOK := Lib.hid hok
        clear hok
        go_wp2_with (go_at_call 35; refine (Nam.parse_no x _ hsz HOK.out).mono ?_; rintro e w2 ⟨rfl, hb2⟩)
        go_roundw
        case rel => exact ⟨k + 1, by omega, by go_num, Lib.hid (below_step HB.out hb2 HB.out.size), Lib.hid (by rw [HTK.out, HT.out]; exact own_below HO.out hb2 (Nat.le_refl _))⟩
        case measure => simp [intOf]; omega
    · have hi1 : ¬ (k : Int) < (names.length : Int) := by omega
      have h := HO.out
      rw [show names.take k = names from List.take_of_length_le (by omega)] at h
      have HQ := Lib.hid h
      clear h
      go_wp2
      exact HP.out _ _ HB.out HQ.out
/-- What Refs answers. -/
def refsF (s : ByteArray) (names : List ByteArray) : List ByteArray := toldF names (winB s)
set_option maxRecDepth 100000 in
set_option maxHeartbeats 4000000 in
theorem refs_any (v a : Value) (l : List UInt8) (names : List ByteArray) (B : Nat) (w : World) (hv : BytAt w B v l) (ha : Reads w B a (strs names)) (hBw : B ≤ w.heap.size) (hs : SmallT names) (hn : names.length ≤ 1000000) (hl : l.length ≤ 1000000) :
    Calls Try.prog 12 #[v, a] w (AllPost w (refsF (strOf l) names)) := by
  have HP := Lib.hid (fun (W W2 : World) (v : Value) (hb : Below w.heap.size w W) (h : AllPost W (refsF (strOf l) names) (.returned v) W2) => show AllPost w (refsF (strOf l) names) (.returned v) W2 from by
    obtain ⟨h1, v', e, h2⟩ := h
    cases e
    exact ⟨below_step hb h1 hb.size, v, rfl, own_base h2 hb.size⟩)
  generalize hq : AllPost w (refsF (strOf l) names) = post at *
  have HV := Lib.hid hv
  have HA := Lib.hid ha
  obtain ⟨A, cap, rfl, hlc, hcm, hAn, hh⟩ := hv
  obtain ⟨A2, ca2, rfl, _, _, _, _⟩ := ha
  clear hh hq
  simp only [strs_len] at *
  go_enter Try.func12, Try.ntmps12
  go_wp2_with (first | (go_at_call 22; refine (find_any _ names B _ HA.out hBw hs hn).mono ?_; rintro e W ⟨hb1, fb, mb, n, rfl, hF, hnn⟩; have hcv := (HV.out.keep (hb1.mono hBw)).conv) | (go_at_call 23; refine (look_any (strOf l) fb mb n _ W (by rw [strOf_size]; exact hl) hF.box hF.ne hF.map (by omega)).mono ?_; rintro e W2 ⟨⟨ve, rfl⟩, hL⟩))
  obtain ⟨hgr, ⟨c, n2, hc1, hc2, hc3, hc4⟩, hbx⟩ := hL
  have hb2 : Below w.heap.size w W2 := hb1.grown hgr hb1.size (fun k e => by cases e; exact hF.mbl)
  have ht := told_any _ names (winB (strOf l)) (headsF names) c fb mb n2 B W2 (HA.out.below (hb2.mono hBw)) (Nat.le_trans hBw hb2.size) hs hn hbx hc1 rfl hc3
  refine ht.mono ?_
  intro e W3 hp
  obtain ⟨v, rfl⟩ : ∃ v, e = .returned v := by obtain ⟨_, v, e1, _⟩ := hp; exact ⟨v, e1⟩
  have HQ := Lib.hid (HP.out W2 W3 v hb2 hp)
  clear hp ht
  go_wp2
  exact HQ.out
end Go.Proofs.Ytadlimfpcfdgcaa
