/- cnf: container/heap over places: down. -/
import Derived.Test.YtbniilajffjfcaaGreatDoorDmD8
set_option linter.unusedVariables false
set_option linter.unusedSimpArgs false
namespace Go.Proofs.YtbniilajffjfcaaGreatDoor
open Go.RowKit Go.BigFrame
open Cnf (at_ sw UpOk DownOk Heaped)

def DownPost (base g m : Nat) (cs : Array Value) (yv : Value) (h : List Int) (w : World) (e : Ending) (w' : World) : Prop :=
  (∃ b, e = .returned (.bool b)) ∧ ∃ h', Rdy w' base g cs yv h' ∧ Ch w w' (fun b => yv.ownBlock = some b) ∧ Heaped h' m ∧ (∀ x, x ∈ h' ↔ x ∈ h) ∧ h'.length = h.length ∧ at_ h' m = at_ h m
set_option maxRecDepth 100000 in
set_option maxHeartbeats 4000000 in
theorem down_n (base g m y n cap : Nat) (cs : Array Value) (h : List Int) (w : World) (hl : h.length = n) (H : Rdy w base g cs (.slice (some ⟨y, 0, none⟩) n cap) h) (hm : m < n) (hu : DownOk h 0 m) (hn : n ≤ 8000000) :
    Calls Tryz.prog 74 #[hp g, .int .i64 0, .int .i64 (m : Int)] w (DownPost base g m cs (.slice (some ⟨y, 0, none⟩) n cap) h w) := by
  have HP := Lib.hid (fun (e : Ending) (w' : World) (he : ∃ b, e = .returned (.bool b)) (h' : List Int) (h1 : Rdy w' base g cs (.slice (some ⟨y, 0, none⟩) n cap) h') (h2 : Ch w w' (fun b => b = y)) (h3 : Heaped h' m) (h4 : ∀ x, x ∈ h' ↔ x ∈ h) (h5 : h'.length = n) (h6 : at_ h' m = at_ h m) => show DownPost base g m cs (.slice (some ⟨y, 0, none⟩) n cap) h w e w' from ⟨he, h', h1, h2.weak (fun k _ e => by rw [e]; rfl), h3, h4, h5.trans hl.symm, h6⟩)
  generalize DownPost base g m cs (.slice (some ⟨y, 0, none⟩) n cap) h w = post at *
  unfold hp
  have HL0 := Lib.hid hl
  have HH := Lib.hid H
  have HU := Lib.hid hu
  clear H hu hl
  go_enter Tryz.func74, Tryz.ntmps74
  go_wp2
  go_loopw [7, 8, 9, 10] (fun iv _ _ _ wr => ∃ (i : Nat) (l : List Int), i ≤ m ∧ iv = .int .i64 i ∧ Hid (l.length = n) ∧ Hid (Rdy wr base g cs (.slice (some ⟨y, 0, none⟩) n cap) l) ∧ Hid (Ch w wr (fun b => b = y)) ∧ Hid (DownOk l i m) ∧ Hid (∀ x, x ∈ l ↔ x ∈ h) ∧ Hid (at_ l m = at_ h m)) (fun iv _ _ _ _ => m - (intOf iv).toNat)
  case atStart => exact ⟨0, h, by omega, rfl, HL0, HH, Lib.hid (Ch.refl _ _), HU, Lib.hid fun x => Iff.rfl, Lib.hid rfl⟩
  case round =>
    clear HH HU
    obtain ⟨i, l, hi, rfl, HL, HR, HC, HU, HM, HA⟩ := hrel
    have hcell := HR.out.cell.1
    obtain ⟨q, hq⟩ : ∃ q, q = 2 * i + 1 := ⟨_, rfl⟩
    have hq1 : 2 * (i : Int) + 1 = (q : Int) := by omega
    have hq0 : (0 : Int) ≤ (q : Int) := by omega
    by_cases h1 : q < m
    · have h1' : (q : Int) < (m : Int) := by omega
      have hml := m_less ⟨g, 0, none⟩ _ wr hcell
      have HLESS := Lib.hid (fun (a b : Nat) (wx : World) (ho : wx.ownsRow base 3 1 (.slice (some ⟨y, 0, none⟩) n cap) l.length (ints l)) (ha : a < n) (hb : b < n) => less_n y a b n cap l base wx HL.out ho ha hb hn)
      have him : i < m := by omega
      have hiq : i < q := by omega
      have HQ := Lib.hid hq
      clear hq
      by_cases h2 : q + 1 < m
      · obtain ⟨r, hr⟩ : ∃ r, r = q + 1 := ⟨_, rfl⟩
        have hq2 : (q : Int) + 1 = (r : Int) := by omega
        have hr1 : (r : Int) < (m : Int) := by omega
        have hrm : r < m := by omega
        have HRQ := Lib.hid hr
        have HLS := Lib.hid (HLESS.out r q wr HR.out.own (by omega) (by omega))
        clear h2 hr
        cases hlt1 : decide (at_ l r < at_ l q)
        · rw [hlt1] at HLS
          have HMIN : Hid (∀ k, (k = 2 * i + 1 ∨ k = 2 * i + 2) → k < m → at_ l q ≤ at_ l k) := Lib.hid fun k hk _ => by
            have h9 := of_decide_eq_false hlt1
            have h8 := HQ.out; have h7 := HRQ.out
            rcases hk with rfl | rfl
            · rw [← h8]; omega
            · rw [show 2 * i + 2 = r by omega]; omega
          have HJ : Hid (q = 2 * i + 1 ∨ q = 2 * i + 2) := Lib.hid (.inl HQ.out)
          clear hlt1
          go_wp2_with fail
          refine HLS.out.mono ?_
          rintro e w1 ⟨rfl, nq, hw⟩
          have HR1 := Lib.hid (HR.out.drewN nq)
          have HC1 := Lib.hid (HC.out.drewN nq)
          rw [← hw] at HR1 HC1
          clear hw hml hcell HLS hq2
          have hcell := HR1.out.cell.1
          have hml2 := m_less ⟨g, 0, none⟩ _ w1 HR1.out.cell.1
          have HLT := Lib.hid (HLESS.out q i w1 HR1.out.own (by omega) (by omega))
          cases hlt : decide (at_ l q < at_ l i)
          · rw [hlt] at HLT
            have HD := Lib.hid (HU.out.done (fun k hk hkm => by have := HMIN.out k hk hkm; have := of_decide_eq_false hlt; omega))
            clear hlt
            go_wp2_with fail
            refine HLT.out.mono ?_
            rintro e w' ⟨rfl, nq2, hw⟩
            obtain rfl := hw.symm
            go_wp2
            exact HP.out _ _ ⟨_, rfl⟩ l (HR1.out.drewN nq2) (HC1.out.drewN nq2) HD.out HM.out HL.out HA.out
          · rw [hlt] at HLT
            have HU' := Lib.hid (HU.out.step (by have := HL.out; omega) HJ.out (by omega) HMIN.out (of_decide_eq_true hlt))
            clear hlt
            go_wp2_with fail
            refine HLT.out.mono ?_
            rintro e w3 ⟨rfl, nq2, hw⟩
            have HR3 := Lib.hid (HR1.out.drewN nq2)
            have HC3 := Lib.hid (HC1.out.drewN nq2)
            rw [← hw] at HR3 HC3
            have HSW := Lib.hid (swap_n y i q n cap l base w3 HL.out HR3.out.own (by omega) (by omega) hn)
            have hms := m_swap ⟨g, 0, none⟩ _ w3 HR3.out.cell.1
            clear hw hml2 hcell
            go_wp2_with fail
            refine HSW.out.mono ?_
            rintro e w4 ⟨rfl, ho2, hc2⟩
            have hsl : (sw l i q).length = n := (Cnf.sw_len l i q).trans HL.out
            rw [show l.length = (sw l i q).length from (Cnf.sw_len l i q).symm] at ho2
            have HR4 := Lib.hid (HR3.out.swap hc2 ho2)
            have HC4 := Lib.hid (HC3.out.trans hc2 fun _ _ h => h)
            have HSL := Lib.hid hsl
            have HM2 : Hid (∀ x, x ∈ sw l i q ↔ x ∈ h) := Lib.hid fun x => (Cnf.sw_mem l i q (by have := HL.out; omega) (by have := HL.out; omega) x).trans (HM.out x)
            have HA2 : Hid (at_ (sw l i q) m = at_ h m) := Lib.hid (by rw [Cnf.sw_at l i q m (by have := HL.out; omega) (by have := HL.out; omega), if_neg (by omega), if_neg (by omega)]; exact HA.out)
            clear ho2 hc2 hsl hms
            go_wp2
            go_roundw
            case rel => exact ⟨q, sw l i q, by omega, by first | rfl | omega | (congr 1), HSL, HR4, HC4, HU', HM2, HA2⟩
            case measure => simp [intOf]; omega
        · rw [hlt1] at HLS
          have HMIN : Hid (∀ k, (k = 2 * i + 1 ∨ k = 2 * i + 2) → k < m → at_ l r ≤ at_ l k) := Lib.hid fun k hk _ => by
            have h9 := of_decide_eq_true hlt1
            have h8 := HQ.out; have h7 := HRQ.out
            rcases hk with rfl | rfl
            · rw [← h8]; omega
            · rw [show 2 * i + 2 = r by omega]; omega
          have HJ : Hid (r = 2 * i + 1 ∨ r = 2 * i + 2) := Lib.hid (.inr (by have := HQ.out; have := HRQ.out; omega))
          have him2 : i < r := by have := HQ.out; have := HRQ.out; omega
          clear hlt1
          go_wp2_with fail
          refine HLS.out.mono ?_
          rintro e w1 ⟨rfl, nq, hw⟩
          have HR1 := Lib.hid (HR.out.drewN nq)
          have HC1 := Lib.hid (HC.out.drewN nq)
          rw [← hw] at HR1 HC1
          clear hw hml hcell HLS hq2
          have hcell := HR1.out.cell.1
          have hml2 := m_less ⟨g, 0, none⟩ _ w1 HR1.out.cell.1
          have HLT := Lib.hid (HLESS.out r i w1 HR1.out.own (by omega) (by omega))
          cases hlt : decide (at_ l r < at_ l i)
          · rw [hlt] at HLT
            have HD := Lib.hid (HU.out.done (fun k hk hkm => by have := HMIN.out k hk hkm; have := of_decide_eq_false hlt; omega))
            clear hlt
            go_wp2_with fail
            refine HLT.out.mono ?_
            rintro e w' ⟨rfl, nq2, hw⟩
            obtain rfl := hw.symm
            go_wp2
            exact HP.out _ _ ⟨_, rfl⟩ l (HR1.out.drewN nq2) (HC1.out.drewN nq2) HD.out HM.out HL.out HA.out
          · rw [hlt] at HLT
            have HU' := Lib.hid (HU.out.step (by have := HL.out; omega) HJ.out (by omega) HMIN.out (of_decide_eq_true hlt))
            clear hlt
            go_wp2_with fail
            refine HLT.out.mono ?_
            rintro e w3 ⟨rfl, nq2, hw⟩
            have HR3 := Lib.hid (HR1.out.drewN nq2)
            have HC3 := Lib.hid (HC1.out.drewN nq2)
            rw [← hw] at HR3 HC3
            have HSW := Lib.hid (swap_n y i r n cap l base w3 HL.out HR3.out.own (by omega) (by omega) hn)
            have hms := m_swap ⟨g, 0, none⟩ _ w3 HR3.out.cell.1
            clear hw hml2 hcell
            go_wp2_with fail
            refine HSW.out.mono ?_
            rintro e w4 ⟨rfl, ho2, hc2⟩
            have hsl : (sw l i r).length = n := (Cnf.sw_len l i r).trans HL.out
            rw [show l.length = (sw l i r).length from (Cnf.sw_len l i r).symm] at ho2
            have HR4 := Lib.hid (HR3.out.swap hc2 ho2)
            have HC4 := Lib.hid (HC3.out.trans hc2 fun _ _ h => h)
            have HSL := Lib.hid hsl
            have HM2 : Hid (∀ x, x ∈ sw l i r ↔ x ∈ h) := Lib.hid fun x => (Cnf.sw_mem l i r (by have := HL.out; omega) (by have := HL.out; omega) x).trans (HM.out x)
            have HA2 : Hid (at_ (sw l i r) m = at_ h m) := Lib.hid (by rw [Cnf.sw_at l i r m (by have := HL.out; omega) (by have := HL.out; omega), if_neg (by omega), if_neg (by omega)]; exact HA.out)
            clear ho2 hc2 hsl hms
            go_wp2
            go_roundw
            case rel => exact ⟨r, sw l i r, by omega, by first | rfl | omega | (congr 1), HSL, HR4, HC4, HU', HM2, HA2⟩
            case measure => simp [intOf]; omega
      · have h2' : ¬ (q : Int) + 1 < (m : Int) := by omega
        have HMIN : Hid (∀ k, (k = 2 * i + 1 ∨ k = 2 * i + 2) → k < m → at_ l q ≤ at_ l k) := Lib.hid fun k hk hkm => by
          have h8 := HQ.out
          rcases hk with rfl | rfl
          · rw [← h8]; omega
          · omega
        have HJ : Hid (q = 2 * i + 1 ∨ q = 2 * i + 2) := Lib.hid (.inl HQ.out)
        clear h2
        have hml2 := m_less ⟨g, 0, none⟩ _ wr HR.out.cell.1
        have HLT := Lib.hid (HLESS.out q i wr HR.out.own (by omega) (by omega))
        cases hlt : decide (at_ l q < at_ l i)
        · rw [hlt] at HLT
          have HD := Lib.hid (HU.out.done (fun k hk hkm => by have := HMIN.out k hk hkm; have := of_decide_eq_false hlt; omega))
          clear hlt
          go_wp2_with fail
          refine HLT.out.mono ?_
          rintro e w' ⟨rfl, nq2, hw⟩
          obtain rfl := hw.symm
          go_wp2
          exact HP.out _ _ ⟨_, rfl⟩ l (HR.out.drewN nq2) (HC.out.drewN nq2) HD.out HM.out HL.out HA.out
        · rw [hlt] at HLT
          have HU' := Lib.hid (HU.out.step (by have := HL.out; omega) HJ.out (by omega) HMIN.out (of_decide_eq_true hlt))
          clear hlt
          go_wp2_with fail
          refine HLT.out.mono ?_
          rintro e w3 ⟨rfl, nq2, hw⟩
          have HR3 := Lib.hid (HR.out.drewN nq2)
          have HC3 := Lib.hid (HC.out.drewN nq2)
          rw [← hw] at HR3 HC3
          have HSW := Lib.hid (swap_n y i q n cap l base w3 HL.out HR3.out.own (by omega) (by omega) hn)
          have hms := m_swap ⟨g, 0, none⟩ _ w3 HR3.out.cell.1
          clear hw hml2 hcell
          go_wp2_with fail
          refine HSW.out.mono ?_
          rintro e w4 ⟨rfl, ho2, hc2⟩
          have hsl : (sw l i q).length = n := (Cnf.sw_len l i q).trans HL.out
          rw [show l.length = (sw l i q).length from (Cnf.sw_len l i q).symm] at ho2
          have HR4 := Lib.hid (HR3.out.swap hc2 ho2)
          have HC4 := Lib.hid (HC3.out.trans hc2 fun _ _ h => h)
          have HSL := Lib.hid hsl
          have HM2 : Hid (∀ x, x ∈ sw l i q ↔ x ∈ h) := Lib.hid fun x => (Cnf.sw_mem l i q (by have := HL.out; omega) (by have := HL.out; omega) x).trans (HM.out x)
          have HA2 : Hid (at_ (sw l i q) m = at_ h m) := Lib.hid (by rw [Cnf.sw_at l i q m (by have := HL.out; omega) (by have := HL.out; omega), if_neg (by omega), if_neg (by omega)]; exact HA.out)
          clear ho2 hc2 hsl hms
          go_wp2
          go_roundw
          case rel => exact ⟨q, sw l i q, by omega, by first | rfl | omega | (congr 1), HSL, HR4, HC4, HU', HM2, HA2⟩
          case measure => simp [intOf]; omega
    · have h1' : ¬ (q : Int) < (m : Int) := by omega
      have HD := Lib.hid (HU.out.done (by intro k hk hkm; omega))
      clear hq
      go_wp2
      exact HP.out _ _ ⟨_, rfl⟩ l HR.out HC.out HD.out HM.out HL.out HA.out
end Go.Proofs.YtbniilajffjfcaaGreatDoor

/- cnf: container/heap over places: Push and Pop. -/
namespace Go.Proofs.YtbniilajffjfcaaGreatDoor
open Go.RowKit Go.BigFrame
open Cnf (at_ sw UpOk DownOk Heaped)

structure Pushed (base g : Nat) (cs : Array Value) (yv : Value) (h : List Int) (x : Int) (w : World) (w' : World) (v' : Value) (h' : List Int) : Prop where
  rdy : Rdy w' base g (cs.setIfInBounds 0 v') v' h'
  ch : Ch w w' (Two g yv)
  moved : Moved w yv v'
  heap : Heaped h' h'.length
  mem : ∀ k, k ∈ h' ↔ k ∈ h ∨ k = x
  len : h'.length = h.length + 1
def HeapPush (base g : Nat) (cs : Array Value) (yv : Value) (h : List Int) (x : Int) (w : World) (e : Ending) (w' : World) : Prop :=
  e = .returned (.tuple #[]) ∧ ∃ v' h', Pushed base g cs yv h x w w' v' h'
set_option maxRecDepth 100000 in
set_option maxHeartbeats 1000000 in
theorem heapPush_any (x : Int) (base g : Nat) (cs : Array Value) (yv : Value) (h : List Int) (w : World) (H : Rdy w base g cs yv h) (hh : Heaped h h.length) (hbase : base ≤ w.heap.size) (hn : h.length ≤ 7000000) :
    Calls Tryz.prog 51 #[hp g, .iface 3 (.int .i64 x)] w (HeapPush base g cs yv h x w) := by
  have HP := Lib.hid (fun (e : Ending) (w' : World) (he : e = .returned (.tuple #[])) (v' : Value) (h' : List Int) (hp : Pushed base g cs yv h x w w' v' h') => show HeapPush base g cs yv h x w e w' from ⟨he, v', h', hp⟩)
  generalize HeapPush base g cs yv h x w = post at *
  have HPU := Lib.hid (push_any x base g cs yv h w H hbase (by omega))
  have hmp := m_push ⟨g, 0, none⟩ w
  unfold hp
  have HUO := Lib.hid (UpOk.start x hh)
  have hgl := block_lt H.blk
  clear H hh
  go_enter Tryz.func51, Tryz.ntmps51
  go_wp2_with fail
  refine HPU.out.mono ?_
  rintro e w1 ⟨rfl, v1, hr1, hc1, hm1⟩
  obtain ⟨y, cap, rfl, hy, hyl, hnc, hcm⟩ := own_at hr1.own (by simp)
  have hlen : (h ++ [x]).length = h.length + 1 := by simp
  rw [hlen] at hr1 hnc hm1
  have HC1 := Lib.hid hc1
  have HM1 := Lib.hid hm1
  have HR1 := Lib.hid hr1
  have HUP := Lib.hid (up_n base g h.length y (h.length + 1) cap _ (h ++ [x]) w1 hlen hr1 (by omega) HUO.out (by omega))
  have hml := m_len ⟨g, 0, none⟩ _ w1 hr1.cell.1
  have HLEN := Lib.hid (len_any (some ⟨y, 0, none⟩) (h.length + 1) cap w1)
  have hl0 : IntKind.i64.wrap (((h.length + 1 : Nat) : Int) - 1) = (h.length : Int) := by rw [show (((h.length + 1 : Nat) : Int) - 1) = (h.length : Int) by omega]; exact IntWalk.i64_in _ (by omega)
  have hl1 : ((h.length + 1 : Nat) : Int) - 1 = (h.length : Int) := by omega
  unfold hp at HUP
  clear hr1 hc1 hm1 hmp hlen HPU hcm
  go_wp2_with fail
  refine HLEN.out.mono ?_
  rintro e w' ⟨rfl, hw⟩
  obtain rfl := hw.symm
  go_wp2_with fail
  refine HUP.out.mono ?_
  rintro e w2 ⟨rfl, h', hr2, hc2, hh2, hmem, hle⟩
  have HX := Lib.hid (show Pushed base g cs yv h x w w2 _ h' from ⟨hr2, HC1.out.trans hc2 (fun k hk e => by
    rcases HM1.out with e' | ⟨g', e', hge⟩
    · exact .inr (e' ▸ e)
    · rw [e'] at e; cases e; omega), HM1.out, hh2, fun k => by rw [hmem, List.mem_append, List.mem_singleton], by rw [hle]; simp⟩)
  clear hr2 hc2 hh2 hmem hle hml
  go_wp2
  go_end0
  exact HP.out _ _ rfl _ _ HX.out
structure Popped (base g : Nat) (cs : Array Value) (yv : Value) (h : List Int) (x : Int) (w : World) (w' : World) (v' : Value) (h' : List Int) : Prop where
  rdy : Rdy w' base g (cs.setIfInBounds 0 v') v' h'
  ch : Ch w w' (Two g yv)
  moved : v'.ownBlock = yv.ownBlock
  heap : Heaped h' h'.length
  sub : ∀ k, k ∈ h' → k ∈ h
  cover : ∀ k, k ∈ h → k = x ∨ k ∈ h'
  mem : x ∈ h
  least : ∀ k, k ∈ h → x ≤ k
  len : h'.length + 1 = h.length
def HeapPop (base g : Nat) (cs : Array Value) (yv : Value) (h : List Int) (w : World) (e : Ending) (w' : World) : Prop :=
  ∃ x, e = .returned (.iface 3 (.int .i64 x)) ∧ ∃ v' h', Popped base g cs yv h x w w' v' h'
theorem take_last (h : List Int) (m : Nat) (hl : h.length = m + 1) : h = h.take m ++ [at_ h m] := by
  have h1 := List.take_succ_eq_append_getElem (l := h) (i := m) (by omega)
  rw [List.take_of_length_le (by omega)] at h1
  rw [show at_ h m = h[m] by simp [at_, List.getD, hl]]
  exact h1
set_option maxRecDepth 100000 in
set_option maxHeartbeats 1000000 in
theorem heapPop_any (base g : Nat) (cs : Array Value) (yv : Value) (h : List Int) (w : World) (H : Rdy w base g cs yv h) (hh : Heaped h h.length) (h0 : 0 < h.length) (hn : h.length ≤ 8000000) :
    Calls Tryz.prog 53 #[hp g] w (HeapPop base g cs yv h w) := by
  have HP := Lib.hid (fun (e : Ending) (w' : World) (x : Int) (he : e = .returned (.iface 3 (.int .i64 x))) (v' : Value) (h' : List Int) (hp : Popped base g cs yv h x w w' v' h') => show HeapPop base g cs yv h w e w' from ⟨x, he, v', h', hp⟩)
  generalize HeapPop base g cs yv h w = post at *
  obtain ⟨m, hm⟩ : ∃ m, h.length = m + 1 := ⟨h.length - 1, by omega⟩
  rw [hm] at hh hn
  have HM := Lib.hid hm
  obtain ⟨y, cap, rfl, hy, hyl, hnc, hcm⟩ := own_at H.own h0
  have hml := m_len ⟨g, 0, none⟩ _ w H.cell.1
  have hms := m_swap ⟨g, 0, none⟩ _ w H.cell.1
  rw [hm] at hml hms
  have HLEN := Lib.hid (len_any (some ⟨y, 0, none⟩) (m + 1) cap w)
  have HSW := Lib.hid (swap_n y 0 m (m + 1) cap h base w hm (by have := H.own; rw [hm] at this; rw [hm]; exact this) (by omega) (by omega) (by omega))
  have HDO := Lib.hid (DownOk.start hh hm)
  have HRT := Lib.hid hh.root
  have hl0 : IntKind.i64.wrap (((m + 1 : Nat) : Int) - 1) = (m : Int) := by rw [show (((m + 1 : Nat) : Int) - 1) = (m : Int) by omega]; exact IntWalk.i64_in _ (by omega)
  have hl1 : ((m + 1 : Nat) : Int) - 1 = (m : Int) := by omega
  have HR := Lib.hid H
  rw [hm] at HR HP
  unfold hp
  clear H hh hm h0 hcm
  go_enter Tryz.func53, Tryz.ntmps53
  go_wp2_with fail
  refine HLEN.out.mono ?_
  rintro e w' ⟨rfl, hw⟩
  obtain rfl := hw.symm
  go_wp2_with fail
  refine HSW.out.mono ?_
  rintro e w1 ⟨rfl, ho1, hc1⟩
  rw [show h.length = (sw h 0 m).length from (Cnf.sw_len h 0 m).symm] at ho1
  have HR1 := Lib.hid (HR.out.swap hc1 ho1)
  have HC1 := Lib.hid hc1
  have HDN := Lib.hid (down_n base g m y (m + 1) cap cs (sw h 0 m) w1 ((Cnf.sw_len h 0 m).trans HM.out) HR1.out (by omega) HDO.out (by omega))
  unfold hp at HDN
  clear ho1 hc1 hml hms
  go_wp2_with fail
  refine HDN.out.mono ?_
  rintro e w2 ⟨⟨b, rfl⟩, h2, hr2, hc2, hh2, hm2, hle2, ha2⟩
  have hl2 : h2.length = m + 1 := hle2.trans ((Cnf.sw_len h 0 m).trans HM.out)
  obtain ⟨rest, hrest⟩ : ∃ rest, rest = h2.take m := ⟨_, rfl⟩
  have hx : at_ h2 m = at_ h 0 := by rw [ha2, Cnf.sw_at h 0 m m (by have := HM.out; omega) (by have := HM.out; omega), if_pos rfl]
  have h2e : h2 = rest ++ [at_ h 0] := by
    have := take_last h2 m hl2
    rw [hx, ← hrest] at this; exact this
  have hrl : rest.length = m := by rw [hrest, List.length_take]; omega
  have hhr : Heaped rest rest.length := by rw [hrest]; exact hh2.take (by omega)
  rw [h2e] at hr2 hm2
  have hmp := m_pop ⟨g, 0, none⟩ w2
  have HPP := Lib.hid (pop_any base g cs _ rest (at_ h 0) w2 hr2 (by omega))
  have HM2 := Lib.hid (fun k => (hm2 k).trans (Cnf.sw_mem h 0 m (by have := HM.out; omega) (by have := HM.out; omega) k))
  have HC2 := Lib.hid hc2
  have HHR := Lib.hid hhr
  have HRL := Lib.hid hrl
  clear hr2 hm2 hc2 hhr hrl h2e hx hl2 hrest ha2 hle2 hh2
  go_wp2_with fail
  refine HPP.out.mono ?_
  rintro e w3 ⟨rfl, v3, hr3, hc3, hb3⟩
  have HX := Lib.hid (show Popped base g cs (.slice (some ⟨y, 0, none⟩) (m + 1) cap) h (at_ h 0) w w3 v3 rest from ⟨hr3, ((HC1.out.weak (M' := Two g (.slice (some ⟨y, 0, none⟩) (m + 1) cap)) (fun k _ e => .inr (by rw [e]; rfl))).trans HC2.out (fun k _ e => .inr e)).trans hc3 (fun k _ e => e), hb3, HHR.out,
    fun k hk => (HM2.out k).1 (List.mem_append_left _ hk),
    fun k hk => by
      rcases List.mem_append.1 ((HM2.out k).2 hk) with e | e
      · exact .inr e
      · exact .inl (List.mem_singleton.1 e),
    (Cnf.mem_at h _).2 ⟨0, by have := HM.out; omega, rfl⟩,
    fun k hk => by
      obtain ⟨j, hj, rfl⟩ := (Cnf.mem_at h k).1 hk
      exact HRT.out j (by have := HM.out; omega),
    by rw [HRL.out, HM.out]⟩)
  clear hr3 hc3 hb3 hmp
  go_wp2
  exact HP.out _ _ _ rfl _ _ HX.out
end Go.Proofs.YtbniilajffjfcaaGreatDoor
