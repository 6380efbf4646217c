/- disk: works. -/
import Derived.Test.YtfgbaigpmhnoaaaDskR
set_option linter.unusedVariables false
set_option linter.unusedSimpArgs false
namespace Go.Proofs.Ytfgbaigpmhnoaaa
open Go.RowKit Go.BigFrame Go.Maps
open Dsk (Fl St Ok get put drop used)

def YesPost (w : World) (e : Ending) (w' : World) : Prop := e = .returned (.bool true) ∧ Below w.heap.size w w'
/-- A row of bytes that the call itself owns, as a text. -/
theorem text_own {w : World} {base n : Nat} {v : Value} {l : List Nat} (h : w.ownsRow base 5 1 v n (bvs l)) (hn : l.length = n) : ∃ A cap, v = .slice A n cap ∧ Holds w w.heap.size A n (fun i => l.getD i 0) := by
  obtain ⟨A, cap, rfl⟩ := own_sl h
  exact ⟨A, cap, rfl, holds_own h hn⟩
theorem bvs_bytes (l : List Nat) (h : ∀ x ∈ l, x < 256) : bvs l = (l.map UInt8.ofNat).map fun c => Value.int .u8 (c.toNat : Int) := by
  unfold bvs
  rw [List.map_map]
  refine List.map_congr_left fun x hx => ?_
  have := h x hx
  show _ = Value.int .u8 ((UInt8.ofNat x).toNat : Int)
  rw [UInt8.toNat_ofNat_of_lt' (by simpa using this)]
theorem conv_row {w : World} {base n : Nat} {v : Value} {l : List Nat} (h : w.ownsRow base 5 1 v n (bvs l)) (hn : l.length = n) (hl : ∀ x ∈ l, x < 256) : (convert 29 9 v).run Try.prog w = .ok (.string (strOf (l.map UInt8.ofNat))) w := by
  rw [bvs_bytes l hl, ← hn] at h
  exact convert_own (l := l.map UInt8.ofNat) (by rw [List.length_map]; exact h) Try.underlying29 Try.underlying5 Try.underlying9
set_option maxRecDepth 100000 in
set_option maxHeartbeats 4000000 in
theorem works_any (w : World) : Calls Try.prog 8 #[] w (YesPost w) := by
  have HP := Lib.hid (fun (w' : World) (hb : Below w.heap.size w w') => show YesPost w (.returned (.bool true)) w' from ⟨rfl, hb⟩)
  generalize YesPost w = post at *
  obtain ⟨e1, e2, e3, e4, e5, e6⟩ := ex_steps
  have HE := Lib.hid (And.intro e1 (And.intro e2 (And.intro e3 (And.intro e4 (And.intro e5 e6)))))
  have HN := Lib.hid (ses_new w 100 (by omega) (by omega))
  clear e1 e2 e3 e4 e5 e6
  go_enter Try.func8, Try.ntmps8
  go_wp2_with fail
  refine HN.out.mono ?_
  rintro e w1 ⟨db, ro, rfl, hs⟩
  have hs1 : Ses w w1 w.heap.size db ro exS0 := hs
  have HS1 := Lib.hid hs1
  have HA1 := Lib.hid (ses_append (hs1.alloc (.cells #[.int .u8 1, .int .u8 2] 5)) nA _ 2 [1, 2] (by decide) (lit_holds w1 [1, 2] #[.int .u8 1, .int .u8 2] rfl) (fun e => by cases e) (by simp) (by decide) (by decide) (by rw [HE.out.1]; decide) (by rw [HE.out.2.2.2.1]; decide) (fun _ ad e => by cases e; exact free_new hs1.disk (Nat.le_refl _)))
  clear hs hs1 HN
  go_wp2_with fail
  refine HA1.out.mono ?_
  rintro e w2 ⟨rfl, ro2, hs2⟩
  have HA2 := Lib.hid (ses_sync (S := exS1) hs2 nA (by decide) (by rw [HE.out.2.1]; decide))
  clear hs2 HA1 HS1
  go_wp2_with fail
  refine HA2.out.mono ?_
  rintro e w3 ⟨rfl, ro3, hs3⟩
  have hs3' : Ses w w3 w.heap.size db ro3 exS2 := hs3
  have HA3 := Lib.hid (ses_append (hs3'.alloc (.cells #[.int .u8 3, .int .u8 4] 5)) nA _ 2 [3, 4] (by decide) (lit_holds w3 [3, 4] #[.int .u8 3, .int .u8 4] rfl) (fun e => by cases e) (by simp) (by decide) (by decide) (by rw [HE.out.2.2.1]; decide) (by rw [HE.out.2.2.2.2.2]; decide) (fun _ ad e => by cases e; exact free_new hs3'.disk (Nat.le_refl _)))
  clear hs3 hs3' HA2
  go_wp2_with fail
  refine HA3.out.mono ?_
  rintro e w4 ⟨rfl, ro4, hs4⟩
  have HA4 := Lib.hid (ses_crash (S := exS3) hs4)
  clear hs4 HA3
  go_wp2_with fail
  refine HA4.out.mono ?_
  rintro e w5 ⟨rfl, ro5, hs5⟩
  have hs5' : Ses w w5 w.heap.size db ro5 exS4 := hs5
  have HA5 := Lib.hid (ses_on (hs5'.alloc (.cells #[.int .i64 1] 3)) _ 1 [1] (keep_lit w5 ro5 [1] #[.int .i64 1] rfl (free_new hs5'.disk (Nat.le_refl _))) (by decide))
  clear hs5 hs5' HA4
  go_wp2_with fail
  refine HA5.out.mono ?_
  rintro e w6 ⟨rfl, ro6, hs6⟩
  have hs6' : Ses w w6 w.heap.size db ro6 exS5 := hs6
  have HA6 := Lib.hid (read_any w6 w.heap.size db ro6 exS5 nA hs6'.disk (by decide))
  have HS6 := Lib.hid hs6'
  clear hs6 hs6' HA5
  go_wp2_with fail
  refine HA6.out.mono ?_
  rintro e w7 ⟨hb7, v7, rfl, hrow⟩
  rw [ex_read.1]
  rw [ex_read.2.1] at hrow
  have hrow3 : w7.ownsRow w6.heap.size 5 1 v7 3 (bvs [1, 2, 3]) := hrow
  clear hrow
  have hcv := conv_row hrow3 rfl (by decide)
  have hcv' : (convert 29 9 v7).run Try.prog w7 = .ok (.string ⟨#[1, 2, 3]⟩) w7 := hcv
  obtain ⟨A7, cap7, rfl, hh7⟩ := text_own hrow3 rfl
  have hs7 := HS6.out.grow hb7
  have HS7 := Lib.hid hs7
  have HB := Lib.hid (HP.out _ hs7.below)
  have hu := used_any w7 w.heap.size db ro6 exS5 hs7.disk
  rw [ex_read.2.2] at hu
  have HU := Lib.hid hu
  clear hs7 hu hrow3 hh7 hb7 hcv HS6 HS7 HA6 HP
  go_wp2_with fail
  refine HU.out.mono ?_
  rintro e w8 ⟨rfl, rfl⟩
  go_wp2
  exact HB.out
end Go.Proofs.Ytfgbaigpmhnoaaa
