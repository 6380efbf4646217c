/- What lay below a block in a world lies there still. (Drawn out of version's text Z, for stages without it.) -/
import Derived.Test.YtbniilajffjfcaaGreatDoorBase
import Derived.Test.YtbniilajffjfcaaGreatDoorDmE2
import Derived.Deep.DeepCutAuto
set_option linter.unusedVariables false
set_option linter.unusedSimpArgs false
namespace Go.Proofs.YtbniilajffjfcaaGreatDoor
open Go.RowKit Go.BigFrame

/-- What lay below block B in a world lies there still. -/
def KeepW (W1 : World) (B : Nat) (w' : World) : Prop := Below B W1 w' ∧ B ≤ w'.heap.size
theorem KeepW.start {W : World} {B : Nat} (h : B ≤ W.heap.size) : KeepW W B W := ⟨Below.refl _ _, h⟩
theorem KeepW.drew {W1 w' : World} {B : Nat} (h : KeepW W1 B w') : KeepW W1 B w'.drew := ⟨h.1.drew, h.2⟩
theorem KeepW.step {W1 w' w2 : World} {B : Nat} (h : KeepW W1 B w') (h2 : Below w'.heap.size w' w2) : KeepW W1 B w2 := ⟨below_step h.1 h2 h.2, Nat.le_trans h.2 h2.size⟩
theorem KeepW.calls {P : Program} {f : FuncId} {args : Array Value} {v : Value} {W1 w' : World} {B : Nat} (h : KeepW W1 B w') (hc : Calls P f args w' fun e w2 => e = .returned v ∧ Below w'.heap.size w' w2) : Calls P f args w' fun e w2 => e = .returned v ∧ KeepW W1 B w2 :=
  hc.mono fun _ _ ⟨he, hb⟩ => ⟨he, h.step hb⟩
theorem KeepW.alloc {W1 w' : World} {B : Nat} (h : KeepW W1 B w') (o : Obj) : KeepW W1 B (w'.alloc o) := ⟨h.1.alloc h.2 o, Nat.le_trans h.2 (by simp)⟩
end Go.Proofs.YtbniilajffjfcaaGreatDoor

/- drv's reference: text, Put. -/
namespace Go.Proofs.YtbniilajffjfcaaGreatDoor
open Go.RowKit Go.BigFrame

theorem byte_nat (n : Nat) : ((UInt8.ofNat (n % 256)).toNat : Int) = (n : Int) % 256 := by
  rw [UInt8.toNat_ofNat', Nat.mod_eq_of_lt (Nat.mod_lt _ (by decide))]; omega
theorem numL_four (n : Nat) (hn : n ≤ 400000000) : u8c (numL n 4) = [.int .u8 ((n : Int) / 16777216), .int .u8 ((n : Int) / 65536 % 256), .int .u8 ((n : Int) / 256 % 256), .int .u8 ((n : Int) % 256)] := by
  show [Value.int .u8 ((UInt8.ofNat (n / 2 ^ 24 % 256)).toNat : Int), .int .u8 ((UInt8.ofNat (n / 2 ^ 16 % 256)).toNat : Int), .int .u8 ((UInt8.ofNat (n / 2 ^ 8 % 256)).toNat : Int), .int .u8 ((UInt8.ofNat (n / 2 ^ 0 % 256)).toNat : Int)] = _
  simp only [byte_nat]
  congr 1
  · exact val_int (by omega)
  congr 1
  congr 1
  congr 1
  exact val_int (by omega)
theorem numL_two (n : Nat) (hn : n ≤ 255) : u8c (numL n 2) = [.int .u8 0, .int .u8 (n : Int)] := by
  show [Value.int .u8 ((UInt8.ofNat (n / 2 ^ 8 % 256)).toNat : Int), .int .u8 ((UInt8.ofNat (n / 2 ^ 0 % 256)).toNat : Int)] = _
  simp only [byte_nat]
  congr 1
  · exact val_int (by omega)
  congr 1
  exact val_int (by omega)
theorem text_of (s : ByteArray) : strOf (numL s.size 4) ++ s = strOf (textL s) := by
  apply str_ext
  simp [strOf, textL]
theorem built_str (w : World) (l : List UInt8) (cs : Array Value) (n : Nat) (h : u8c l = cs.toList) (hn : cs.size = n) (hm : n ≤ maxLen) :
    (convert 26 9 (.slice (some ⟨w.heap.size, 0, none⟩) n n)).run Tryz.prog (w.alloc (.cells cs 5)) = .ok (.string (strOf l)) (w.alloc (.cells cs 5)) := by
  have ho := own_built w 5 cs n hn hm
  have hl : l.length = n := by rw [← u8c_len l, h, ← hn]; simp
  rw [← h, ← hl] at ho
  rw [← hl]
  exact convert_own (P := Tryz.prog) ho Tryz.underlying26 Tryz.underlying5 Tryz.underlying9
def StrPost (r : ByteArray) (w : World) (e : Ending) (w' : World) : Prop := e = .returned (.string r) ∧ Below w.heap.size w w'
set_option maxRecDepth 100000 in
set_option maxHeartbeats 1000000 in
theorem refText_any (s : ByteArray) (w : World) (hs : s.size ≤ 400000000) :
    Calls Tryz.prog 21 #[.string s] w (StrPost (strOf (textL s)) w) := by
  have HP := Lib.hid (fun (q : ByteArray) (w' : World) (h : q = strOf (textL s)) (h1 : Below w.heap.size w w') => show StrPost (strOf (textL s)) w (.returned (.string q)) w' from ⟨by rw [h], h1⟩)
  generalize StrPost (strOf (textL s)) w = post at *
  have HT := Lib.hid (text_of s)
  have hcv := built_str w (numL s.size 4) #[.int .u8 ((s.size : Int) / 16777216), .int .u8 ((s.size : Int) / 65536 % 256), .int .u8 ((s.size : Int) / 256 % 256), .int .u8 ((s.size : Int) % 256)] 4 (numL_four s.size hs) rfl (by decide)
  have hz : (strOf (numL s.size 4)).size = 4 := by rw [strOf_size, numL_len]
  generalize strOf (numL s.size 4) = q at *
  go_enter Tryz.func21, Tryz.ntmps21
  go_wp2
  exact HP.out _ _ HT.out ((Below.refl _ _).alloc (Nat.le_refl _) _)
theorem built_later {wa wb : World} {l : List UInt8} {cs : Array Value} {n g : Nat} (hg : g = wa.heap.size) (h : u8c l = cs.toList) (hn : cs.size = n) (hm : n ≤ maxLen) (hb : Below (wa.alloc (.cells cs 5)).heap.size (wa.alloc (.cells cs 5)) wb) :
    (convert 26 9 (.slice (some ⟨g, 0, none⟩) n n)).run Tryz.prog wb = .ok (.string (strOf l)) wb := by
  subst hg
  have ho := own_below (own_built wa 5 cs n hn hm) hb (Nat.le_refl _)
  have hl : l.length = n := by rw [← u8c_len l, h, ← hn]; simp
  rw [← h, ← hl] at ho
  rw [← hl]
  exact convert_own (P := Tryz.prog) ho Tryz.underlying26 Tryz.underlying5 Tryz.underlying9
theorem head_str (nm : ByteArray) (n : Nat) : (⟨#[68, 82, 86, 49]⟩ : ByteArray) ++ strOf (textL nm) ++ strOf (numL n 2) = strOf (headL nm n) := by
  apply str_ext
  simp [strOf, headL, magic]
theorem app_str (l : List UInt8) (s : ByteArray) : strOf l ++ strOf (textL s) = strOf (l ++ textL s) := by
  apply str_ext
  simp [strOf]
set_option maxRecDepth 100000 in
set_option maxHeartbeats 2000000 in
theorem refPut_any (nm : ByteArray) (v : Value) (ins : List ByteArray) (rc : ByteArray) (w : World) (hv : TRow w AllB v ins) (hs : Small ins) (hn : nm.size ≤ maxLen) (hr : rc.size ≤ maxLen) :
    Calls Tryz.prog 7 #[.agg #[.string nm, v, .string rc]] w (BytesErr (putR nm ins rc) (putE nm ins rc) w) := by
  obtain ⟨A, ca, rfl, hla, hma⟩ := RdS.form hv
  have HR := Lib.hid (fun (w1 : World) (h : TRow w1 AllB (.slice A ins.length ca) ins) => refRight_drv nm (.slice A ins.length ca) ins rc w1 h hs hn hr)
  unfold maxLen at hma hn hr
  cases hrd : rightD nm ins rc
  · have HP := Lib.hid (fun (w' : World) (h2 : Below w.heap.size w w') => show BytesErr (putR nm ins rc) (putE nm ins rc) w (.returned (.tuple #[.slice none 0 0, .int .i64 2])) w' from ⟨_, by unfold putE; rw [hrd]; rfl, by unfold putR; rw [hrd]; exact Byt.nil _, h2⟩)
    generalize BytesErr (putR nm ins rc) (putE nm ins rc) w = post at *
    rw [hrd] at HR
    go_enter Tryz.func7, Tryz.ntmps7
    go_upto_region 1 with (fail)
    obtain ⟨W0, hW0, hg0, hb0, hz0, hbb⟩ := row_at w w (.cells #[.string nm, .slice A ins.length ca, .string rc] 28) (Below.refl _ _)
    rw [← hW0]
    obtain ⟨hc0, hc1, hc2⟩ := three_cells hg0
    have hload := run_loadVar_cells (P := Tryz.prog) W0 ⟨w.heap.size, 0, none⟩ 28 #[.string nm, .slice A ins.length ca, .string rc] _ (row_cells hg0) Tryz.underlying28 rfl (by kernel_rfl)
    have HB0 := Lib.hid hbb
    have HV := Lib.hid (show TRow W0 AllB (.slice A ins.length ca) ins from RdS.below hv hb0)
    clear hW0 hg0 hb0 hz0 hbb hv hrd
    go_wp2_with fail
    refine (HR.out W0 HV.out).mono ?_
    rintro e w1 ⟨rfl, hb1⟩
    have HB1 := Lib.hid (below_step HB0.out hb1 HB0.out.size)
    clear hb1
    go_wp2
    exact HP.out _ HB1.out
  · obtain ⟨hp1, hp2, hp3, hp4⟩ := right_parts hrd
    have HP := Lib.hid (fun (u : Value) (w' : World) (h1 : Byt w' u (putL nm ins rc)) (h2 : Below w.heap.size w w') => show BytesErr (putR nm ins rc) (putE nm ins rc) w (.returned (.tuple #[u, .int .i64 0])) w' from ⟨_, by unfold putE; rw [hrd]; rfl, by unfold putR; rw [hrd]; exact h1, h2⟩)
    generalize BytesErr (putR nm ins rc) (putE nm ins rc) w = post at *
    rw [hrd] at HR
    have HIN := Lib.hid hp4
    clear hp4
    go_enter Tryz.func7, Tryz.ntmps7
    go_upto_region 1 with (fail)
    obtain ⟨W0, hW0, hg0, hb0, hz0, hbb⟩ := row_at w w (.cells #[.string nm, .slice A ins.length ca, .string rc] 28) (Below.refl _ _)
    rw [← hW0]
    obtain ⟨hc0, hc1, hc2⟩ := three_cells hg0
    have hload := run_loadVar_cells (P := Tryz.prog) W0 ⟨w.heap.size, 0, none⟩ 28 #[.string nm, .slice A ins.length ca, .string rc] _ (row_cells hg0) Tryz.underlying28 rfl (by kernel_rfl)
    have HB0 := Lib.hid hbb
    have hzz : w.heap.size < W0.heap.size := by omega
    have HG := Lib.hid (fun (w1 : World) (h : Below W0.heap.size W0 w1) => three_cells ((h.block w.heap.size hzz).trans hg0))
    have HV := Lib.hid (show TRow W0 AllB (.slice A ins.length ca) ins from RdS.below hv hb0)
    clear hW0 hg0 hb0 hz0 hbb hv hrd
    go_wp2_with fail
    refine (HR.out W0 HV.out).mono ?_
    rintro e w1 ⟨rfl, hb1⟩
    have HB1 := Lib.hid hb1
    obtain ⟨hd0, hd1, hd2⟩ := HG.out w1 hb1
    have hs1 := hb1.size
    clear hb1 hload hc0 hc1 hc2
    have hzw : w.heap.size < w1.heap.size := by omega
    have hnb : (0 : Int) ≤ (ins.length : Int) ∧ (ins.length : Int) ≤ 255 := by omega
    have HTX := Lib.hid (fun w' => refText_any nm w' (by omega))
    have HKK := Lib.hid (fun (w' : World) (h : KeepW w1 w1.heap.size w') => (show (w'.cell? ⟨w.heap.size, 0, none⟩ = some (.string nm) ∧ w'.cell? ⟨w.heap.size, 1, none⟩ = some (.slice A ins.length ca)) ∧ KeepW w1 w1.heap.size w' from
      ⟨⟨(h.1.cell hzw).trans hd0, (h.1.cell hzw).trans hd1⟩, h⟩))
    have HK0 := Lib.hid (KeepW.start (Nat.le_refl w1.heap.size))
    have HL2 := Lib.hid (numL_two ins.length (by omega))
    have HHS := Lib.hid (head_str nm ins.length)
    have HCV := Lib.hid (fun (w' : World) (g : Nat) (hg : g = w'.heap.size) => built_later (wa := w') (wb := w'.alloc (.cells #[.int .u8 0, .int .u8 (ins.length : Int)] 5)) (l := numL ins.length 2) (cs := #[.int .u8 0, .int .u8 (ins.length : Int)]) (n := 2) (g := g) hg HL2.out rfl (by decide) (Below.refl _ _))
    have HCW := Lib.hid (fun (w' wb : World) (g : Nat) (hg : g = w'.heap.size) (hb : Below (w'.alloc (.cells #[.int .u8 0, .int .u8 (ins.length : Int)] 5)).heap.size (w'.alloc (.cells #[.int .u8 0, .int .u8 (ins.length : Int)] 5)) wb) => built_later (wa := w') (wb := wb) (l := numL ins.length 2) (cs := #[.int .u8 0, .int .u8 (ins.length : Int)]) (n := 2) (g := g) hg HL2.out rfl (by decide) hb)
    have hcv1 : (convert 26 9 (.slice (some ⟨w1.heap.size, 0, none⟩) 2 2)).run Tryz.prog ((w1.alloc (.cells #[.int .u8 0, .int .u8 (ins.length : Int)] 5)).drew) = .ok (.string (strOf (numL ins.length 2))) ((w1.alloc (.cells #[.int .u8 0, .int .u8 (ins.length : Int)] 5)).drew) := HCV.out w1.drew w1.heap.size rfl
    have hsz1 : (strOf (numL ins.length 2)).size ≤ 2 := by rw [strOf_size, numL_len]; omega
    have hsz2 : (strOf (textL nm)).size ≤ 64 := by rw [strOf_size, textL_len]; omega
    have hwr : IntKind.u8.wrap (ins.length : Int) = (ins.length : Int) := by rw [IntKind.wrap_u8]; omega
    have hm4 : (⟨#[68, 82, 86, 49]⟩ : ByteArray).size = 4 := rfl
    generalize strOf (numL ins.length 2) = q2 at *
    generalize strOf (textL nm) = q1 at *
    have ha1 : ¬ 9223372036854775807 < 4 + q1.size := by omega
    have ha2 : ¬ 9223372036854775807 < 4 + q1.size + q2.size := by omega
    have ha3 : ¬ (9223372036854775807 : Int) < 4 + (q1.size : Int) := by omega
    have ha4 : ¬ (9223372036854775807 : Int) < 4 + (q1.size : Int) + (q2.size : Int) := by omega
    go_upto_region 3 with (fail)
    go_cut [4] (fun sv wx => sv = .string (strOf (headL nm ins.length)) ∧ Hid (KeepW w1 w1.heap.size wx))
    case first =>
      go_region_with (go_at_call 21; refine (HTX.out _).mono ?_; rintro e w4 ⟨rfl, hb4⟩; have hk4 := (show KeepW w1 w1.heap.size _ by first | assumption | exact HK0.out | exact KeepW.drew HK0.out | exact KeepW.alloc HK0.out _ | exact KeepW.drew (KeepW.alloc HK0.out _) | exact KeepW.alloc (KeepW.drew HK0.out) _).step hb4; obtain ⟨⟨hx0, hx1⟩, _⟩ := HKK.out _ hk4; have hcv4 := HCV.out w4 w4.heap.size rfl; (try have hcw4 := HCW.out w1.drew w4 w1.heap.size rfl hb4); clear hb4)
      all_goals
        have HK4 := Lib.hid (show KeepW w1 w1.heap.size w4 by assumption)
        go_wp2_with fail
        go_meet
        refine ⟨?_, Lib.hid ?_⟩
        · rw [HHS.out]
        · first | exact HK4.out | exact KeepW.alloc HK4.out _
    case rest =>
      obtain ⟨rfl, HKC⟩ := hcut
      clear hd0 hd1 hd2 HK0 HKK HTX HHS HCV HCW hcv1 ha1 ha2 ha3 ha4 hsz1 hsz2 hm4 hwr
      have HWC := Lib.hid (below_step HB1.out HKC.out.1 HB1.out.size)
      clear HKC
      go_wp2
      go_loopw [4, 5] (fun sv iv wr => ∃ k : Nat, k ≤ ins.length ∧ iv = .int .i64 k ∧ sv = .string (strOf (headL nm ins.length ++ insL (ins.take k))) ∧ Hid (Below W0.heap.size W0 wr)) (fun _ iv _ => ins.length - (intOf iv).toNat)
      case atStart => exact ⟨0, by omega, rfl, by simp [insL], HWC⟩
      case round =>
        obtain ⟨k, hk, rfl, rfl, HB⟩ := hrel
        have hle := insL_len HIN.out k hk
        have hhl := headL_len nm ins.length
        have hsz : (strOf (headL nm ins.length ++ insL (ins.take k))).size ≤ 7000 := by rw [strOf_size, List.length_append]; omega
        obtain ⟨hf0, hf1, hf2⟩ := HG.out wr HB.out
        by_cases hlt : k < ins.length
        · obtain ⟨ad, rfl, hcx⟩ := TRow.get (RdS.below HV.out HB.out) k hlt
          have h97 := okP_le (insOk_at HIN.out hlt)
          have HT := Lib.hid (refText_any (ins.getD k ⟨#[]⟩) wr (by omega))
          have HA := Lib.hid (show strOf (headL nm ins.length ++ insL (ins.take k)) ++ strOf (textL (ins.getD k ⟨#[]⟩)) = strOf (headL nm ins.length ++ insL (ins.take (k + 1))) by
            rw [app_str, List.append_assoc, ← insL_take ins k hlt])
          have hst : (strOf (textL (ins.getD k ⟨#[]⟩))).size ≤ 200 := by rw [strOf_size, textL_len]; omega
          have hk' : (k : Int) < (ins.length : Int) := by omega
          obtain ⟨S2, hS2⟩ : ∃ S2, S2 = strOf (headL nm ins.length ++ insL (ins.take (k + 1))) := ⟨_, rfl⟩
          rw [← hS2] at HA
          have HS2 := Lib.hid hS2
          clear hS2
          generalize strOf (headL nm ins.length ++ insL (ins.take k)) = S1 at *
          generalize strOf (textL (ins.getD k ⟨#[]⟩)) = X1 at *
          generalize ins.getD k ⟨#[]⟩ = s at *
          clear hle hhl h97
          go_wp2_with fail
          refine HT.out.mono ?_
          rintro e w4 ⟨rfl, hb4⟩
          have HB4 := Lib.hid (below_step HB.out hb4 HB.out.size)
          clear hb4
          go_wp2
          go_roundw
          case rel => exact ⟨k + 1, by omega, by go_num, by first | rw [HA.out, HS2.out] | rw [HS2.out], HB4⟩
          case measure => simp [intOf]; omega
        · have HT := Lib.hid (refText_any rc wr (by omega))
          have HA := Lib.hid (show strOf (headL nm ins.length ++ insL (ins.take k)) ++ strOf (textL rc) = strOf (putL nm ins rc) by
            rw [app_str, List.take_of_length_le (by omega)]; rfl)
          have hst : (strOf (textL rc)).size ≤ 300000 := by rw [strOf_size, textL_len]; omega
          have HPL := Lib.hid (show (putL nm ins rc).length ≤ maxLen by
            have := insL_len HIN.out ins.length (Nat.le_refl _)
            rw [List.take_length] at this
            unfold putL maxLen
            rw [List.length_append, List.length_append, textL_len]
            omega)
          generalize strOf (headL nm ins.length ++ insL (ins.take k)) = S1 at *
          generalize strOf (textL rc) = X1 at *
          clear hle hhl
          go_wp2_with fail
          refine HT.out.mono ?_
          rintro e w4 ⟨rfl, hb4⟩
          have HB4 := Lib.hid (below_step HB.out hb4 HB.out.size)
          obtain ⟨u, w5, hcv5, hby5, hb5⟩ := str_bytes w4 (putL nm ins rc) HPL.out
          rw [← HA.out] at hcv5
          have HBY := Lib.hid hby5
          have HB5 := Lib.hid (below_step HB0.out (below_step HB4.out hb5 HB4.out.size) HB0.out.size)
          obtain ⟨A5, c5, rfl, _⟩ := hby5
          clear hb4 hb5
          go_wp2
          exact HP.out _ _ HBY.out HB5.out
end Go.Proofs.YtbniilajffjfcaaGreatDoor
