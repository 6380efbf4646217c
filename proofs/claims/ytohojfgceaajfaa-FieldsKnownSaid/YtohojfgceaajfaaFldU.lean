/- The contracts of nil writers and readers; the walk of the law FieldsKnown. -/
import Derived.Test.YtohojfgceaajfaaFldO
import Derived.Test.YtohojfgceaajfaaFldS
import Derived.Test.YtohojfgceaajfaaFldT
namespace Go.Proofs.Ytohojfgceaajfaa
open Go.RowKit

theorem put_nil (v : Value) (w : World) :
    Calls Try.prog 31 #[.pointer none, v] w fun e w' => e = .returned (.tuple #[]) ∧ w = w' := by
  go_enter Try.func31, Try.ntmps31
  go_wp2_with fail
  exact bodyPost_ret (v := .tuple #[]) (by simp [results, Try.results31, go_sem]) rfl ⟨rfl, rfl⟩
theorem out_nil (w : World) :
    Calls Try.prog 12 #[.pointer none] w fun e w' => e = .returned (.slice none 0 0) ∧ w = w' := by
  go_enter Try.func12, Try.ntmps12
  go_wp2_with fail
  go_ret
  exact ⟨rfl, rfl⟩
theorem take_nilr (z : Int) (w : World) :
    Calls Try.prog 32 #[.pointer none, .int .i64 z] w fun e w' => e = .returned (.slice none 0 0) ∧ w = w' := by
  go_enter Try.func32, Try.ntmps32
  go_wp2_with fail
  go_ret
  exact ⟨rfl, rfl⟩
theorem left_nil (w : World) :
    Calls Try.prog 19 #[.pointer none] w fun e w' => e = .returned (.int .i64 0) ∧ w = w' := by
  go_enter Try.func19, Try.ntmps19
  go_wp2_with fail
  go_ret
  exact ⟨rfl, rfl⟩
theorem bad_nil (w : World) :
    Calls Try.prog 18 #[.pointer none] w fun e w' => e = .returned (.bool true) ∧ w = w' := by
  go_enter Try.func18, Try.ntmps18
  go_wp2_with fail
  go_ret
  exact ⟨rfl, rfl⟩
theorem raw_nil (z : Int) (w : World) :
    Calls Try.prog 21 #[.pointer none, .int .i64 z] w fun e w' => e = .returned (.slice none 0 0) ∧ w = w' := by
  obtain ⟨i0, hi, hz0, hz1, hz2⟩ := info_parts infoU8
  go_enter Try.func21, Try.ntmps21
  go_wp2_with fail
  refine (take_nilr z _).mono ?_
  rintro e w' ⟨rfl, rfl⟩
  go_wp2_with (at_builtin; refine wpList_append_own_none rfl _ _ 25 rfl w.heap.size 5 i0 1 Try.underlying25 hi (.slice none 0 0) 0 [] rfl (World.ownsRow_nil _ _ _ _) rfl ?_)
  go_wp2_with fail
  go_ret
  exact ⟨rfl, rfl⟩

theorem wByte_nil (v : Int) (w : World) :
    Calls Try.prog 22 #[.pointer none, .int .u8 v] w fun e w' => e = .returned (.tuple #[]) ∧ w = w' := by
  go_enter Try.func22, Try.ntmps22
  go_wp2_with fail
  refine (put_nil _ _).mono ?_
  rintro e w' ⟨rfl, rfl⟩
  go_wp2_with fail
  go_end0
  exact ⟨rfl, rfl⟩
set_option maxRecDepth 100000 in
theorem rByte_nil (w : World) :
    Calls Try.prog 26 #[.pointer none] w fun e w' => e = .returned (.int .u8 0) ∧ w = w' := by
  have hg : ∀ w : World, Calls Try.prog 33 #[.pointer none, .int .i64 1] w fun e w' => e = .returned (.iface 5 (.int .u8 0)) ∧ w = w' := by
    intro w
    go_enter Try.func33, Try.ntmps33
    go_wp2_with fail
    refine (take_nilr 1 _).mono ?_
    rintro e w' ⟨rfl, rfl⟩
    go_wp2_with fail
    go_loop [5, 12] (fun r i => i = .int .i64 0 ∧ r = .int .u64 0) (fun _ _ => 0)
    case atStart => exact ⟨rfl, rfl⟩
    case round =>
      obtain ⟨rfl, rfl⟩ := hrel
      go_wp2_with fail
      go_ret
      exact ⟨rfl, rfl⟩
  have HG := Lib.hid hg
  have htb := tb_u8
  clear hg
  go_enter Try.func26, Try.ntmps26
  go_wp2_with fail
  refine (HG.out _).mono ?_
  rintro e w' ⟨rfl, rfl⟩
  go_wp2_with fail
  go_ret
  exact ⟨rfl, rfl⟩

theorem wShort_nil (v : Int) (w : World) :
    Calls Try.prog 23 #[.pointer none, .int .u16 v] w fun e w' => e = .returned (.tuple #[]) ∧ w = w' := by
  go_enter Try.func23, Try.ntmps23
  go_wp2_with fail
  refine (put_nil _ _).mono ?_
  rintro e w' ⟨rfl, rfl⟩
  go_wp2_with fail
  go_end0
  exact ⟨rfl, rfl⟩
set_option maxRecDepth 100000 in
theorem rShort_nil (w : World) :
    Calls Try.prog 27 #[.pointer none] w fun e w' => e = .returned (.int .u16 0) ∧ w = w' := by
  have hg : ∀ w : World, Calls Try.prog 33 #[.pointer none, .int .i64 2] w fun e w' => e = .returned (.iface 54 (.int .u16 0)) ∧ w = w' := by
    intro w
    go_enter Try.func33, Try.ntmps33
    go_wp2_with fail
    refine (take_nilr 2 _).mono ?_
    rintro e w' ⟨rfl, rfl⟩
    go_wp2_with fail
    go_loop [5, 12] (fun r i => i = .int .i64 0 ∧ r = .int .u64 0) (fun _ _ => 0)
    case atStart => exact ⟨rfl, rfl⟩
    case round =>
      obtain ⟨rfl, rfl⟩ := hrel
      go_wp2_with fail
      go_ret
      exact ⟨rfl, rfl⟩
  have HG := Lib.hid hg
  have htb := tb_u16
  clear hg
  go_enter Try.func27, Try.ntmps27
  go_wp2_with fail
  refine (HG.out _).mono ?_
  rintro e w' ⟨rfl, rfl⟩
  go_wp2_with fail
  go_ret
  exact ⟨rfl, rfl⟩

theorem wWord_nil (v : Int) (w : World) :
    Calls Try.prog 24 #[.pointer none, .int .u32 v] w fun e w' => e = .returned (.tuple #[]) ∧ w = w' := by
  go_enter Try.func24, Try.ntmps24
  go_wp2_with fail
  refine (put_nil _ _).mono ?_
  rintro e w' ⟨rfl, rfl⟩
  go_wp2_with fail
  go_end0
  exact ⟨rfl, rfl⟩
set_option maxRecDepth 100000 in
theorem rWord_nil (w : World) :
    Calls Try.prog 28 #[.pointer none] w fun e w' => e = .returned (.int .u32 0) ∧ w = w' := by
  have hg : ∀ w : World, Calls Try.prog 33 #[.pointer none, .int .i64 4] w fun e w' => e = .returned (.iface 56 (.int .u32 0)) ∧ w = w' := by
    intro w
    go_enter Try.func33, Try.ntmps33
    go_wp2_with fail
    refine (take_nilr 4 _).mono ?_
    rintro e w' ⟨rfl, rfl⟩
    go_wp2_with fail
    go_loop [5, 12] (fun r i => i = .int .i64 0 ∧ r = .int .u64 0) (fun _ _ => 0)
    case atStart => exact ⟨rfl, rfl⟩
    case round =>
      obtain ⟨rfl, rfl⟩ := hrel
      go_wp2_with fail
      go_ret
      exact ⟨rfl, rfl⟩
  have HG := Lib.hid hg
  have htb := tb_u32
  clear hg
  go_enter Try.func28, Try.ntmps28
  go_wp2_with fail
  refine (HG.out _).mono ?_
  rintro e w' ⟨rfl, rfl⟩
  go_wp2_with fail
  go_ret
  exact ⟨rfl, rfl⟩

theorem wLong_nil (v : Int) (w : World) :
    Calls Try.prog 25 #[.pointer none, .int .u64 v] w fun e w' => e = .returned (.tuple #[]) ∧ w = w' := by
  go_enter Try.func25, Try.ntmps25
  go_wp2_with fail
  refine (put_nil _ _).mono ?_
  rintro e w' ⟨rfl, rfl⟩
  go_wp2_with fail
  go_end0
  exact ⟨rfl, rfl⟩
set_option maxRecDepth 100000 in
theorem rLong_nil (w : World) :
    Calls Try.prog 29 #[.pointer none] w fun e w' => e = .returned (.int .u64 0) ∧ w = w' := by
  have hg : ∀ w : World, Calls Try.prog 33 #[.pointer none, .int .i64 8] w fun e w' => e = .returned (.iface 28 (.int .u64 0)) ∧ w = w' := by
    intro w
    go_enter Try.func33, Try.ntmps33
    go_wp2_with fail
    refine (take_nilr 8 _).mono ?_
    rintro e w' ⟨rfl, rfl⟩
    go_wp2_with fail
    go_loop [5, 12] (fun r i => i = .int .i64 0 ∧ r = .int .u64 0) (fun _ _ => 0)
    case atStart => exact ⟨rfl, rfl⟩
    case round =>
      obtain ⟨rfl, rfl⟩ := hrel
      go_wp2_with fail
      go_ret
      exact ⟨rfl, rfl⟩
  have HG := Lib.hid hg
  have htb := tb_u64
  clear hg
  go_enter Try.func29, Try.ntmps29
  go_wp2_with fail
  refine (HG.out _).mono ?_
  rintro e w' ⟨rfl, rfl⟩
  go_wp2_with fail
  go_ret
  exact ⟨rfl, rfl⟩

theorem wRaw_nil (v : Value) (w : World) :
    Calls Try.prog 20 #[.pointer none, v] w fun e w' => e = .returned (.tuple #[]) ∧ w = w' := by
  go_enter Try.func20, Try.ntmps20
  go_wp2_with fail
  refine (put_nil _ _).mono ?_
  rintro e w' ⟨rfl, rfl⟩
  go_wp2_with fail
  go_end0
  exact ⟨rfl, rfl⟩

/-- Things in a block that was just built. -/
theorem items_of_rows (W : World) (rows : Array Value) (n : Nat) (x : Nat → It) (hok : ∀ i, i < n → ItOk W W.heap.size (x i)) (hr : ∀ i, i < n → ∀ j, j < 3 → rows[i * 3 + j]? = (itV (x i))[j]?) :
    Items (W.alloc (.cells rows 30)) (W.alloc (.cells rows 30)).heap.size (some ⟨W.heap.size, 0, none⟩) n x := fun _ => by
  refine ⟨_, rfl, by simp, fun i hi => ⟨?_, fun j u hu => ?_⟩⟩
  · have h := (hok i hi).below (below_alloc1 W (.cells rows 30))
    obtain ⟨h1, h2, h3, h4, h5, h6, h7⟩ := h
    exact ⟨h1, h2, h3, h4, h5, h6.more (by simp), h7⟩
  · have hj : j < 3 := by
      have := (Array.getElem?_eq_some_iff.1 hu).1
      simpa [itV] using this
    have hadd : (⟨W.heap.size, 0, none⟩ : Addr).add (i * 3 + j) = ⟨W.heap.size, i * 3 + j, none⟩ := by unfold Addr.add; split <;> simp_all
    rw [add_two, hadd, cell_of_row _ _ _ _ _ _ (heap_alloc_new W _), hr i hi j hj, hu]
def oneTo (i : Nat) : Nat := [1, 2, 3, 4, 5, 6, 7, 8, 9].getD i 0
theorem oneTo_lt (i : Nat) : oneTo i < 256 := by
  unfold oneTo
  rw [List.getD_eq_getElem?_getD]
  by_cases h : i < 9
  · have e : ∀ i : Fin 9, ([1, 2, 3, 4, 5, 6, 7, 8, 9] : List Nat)[i.val]?.getD 0 < 256 := by decide
    exact e ⟨i, h⟩
  · rw [List.getElem?_eq_none (by simp; omega)]; decide
def xs3 (j : Nat) (i : Nat) : It := [one j 3, one 0 0, one j 0].getD i default
def xs4 (j k : Nat) (i : Nat) : It := [one 0 0, one j k, one j 18446744073709551615, one 0 0].getD i default
def xs2 (i : Nat) : It := [one 4 9223372036854775807, one 4 0].getD i default
theorem cases3 (p : Nat → Prop) (h0 : p 0) (h1 : p 1) (h2 : p 2) : ∀ j, j < 3 → p j := fun j hj => by
  match j, hj with
  | 0, _ => exact h0
  | 1, _ => exact h1
  | 2, _ => exact h2
theorem items3 (W : World) (j : Nat) (hj : j < 5) : Items (W.alloc (.cells #[.int .u8 (j : Int), .int .u64 3, .slice none 0 0, .int .u8 0, .int .u64 0, .slice none 0 0, .int .u8 (j : Int), .int .u64 0, .slice none 0 0] 30)) (W.alloc (.cells #[.int .u8 (j : Int), .int .u64 3, .slice none 0 0, .int .u8 0, .int .u64 0, .slice none 0 0, .int .u8 (j : Int), .int .u64 0, .slice none 0 0] 30)).heap.size (some ⟨W.heap.size, 0, none⟩) 3 (xs3 j) :=
  items_of_rows W _ 3 (xs3 j) (cases3 _ (one_ok _ _ _ _ (by omega) (by decide)) (one_ok _ _ _ _ (by decide) (by decide)) (one_ok _ _ _ _ (by omega) (by decide))) (cases3 _ (cases3 _ rfl rfl rfl) (cases3 _ rfl rfl rfl) (cases3 _ rfl rfl rfl))
theorem cases4 (p : Nat → Prop) (h0 : p 0) (h1 : p 1) (h2 : p 2) (h3 : p 3) : ∀ j, j < 4 → p j := fun j hj => by
  match j, hj with
  | 0, _ => exact h0
  | 1, _ => exact h1
  | 2, _ => exact h2
  | 3, _ => exact h3
theorem items4 (W : World) (j k : Nat) (hj : j < 5) (hk : k < 10) : Items (W.alloc (.cells #[.int .u8 0, .int .u64 0, .slice none 0 0, .int .u8 (j : Int), .int .u64 (k : Int), .slice none 0 0, .int .u8 (j : Int), .int .u64 18446744073709551615, .slice none 0 0, .int .u8 0, .int .u64 0, .slice none 0 0] 30)) (W.alloc (.cells #[.int .u8 0, .int .u64 0, .slice none 0 0, .int .u8 (j : Int), .int .u64 (k : Int), .slice none 0 0, .int .u8 (j : Int), .int .u64 18446744073709551615, .slice none 0 0, .int .u8 0, .int .u64 0, .slice none 0 0] 30)).heap.size (some ⟨W.heap.size, 0, none⟩) 4 (xs4 j k) :=
  items_of_rows W _ 4 (xs4 j k) (cases4 _ (one_ok _ _ _ _ (by decide) (by decide)) (one_ok _ _ _ _ (by omega) (by omega)) (one_ok _ _ _ _ (by omega) (by decide)) (one_ok _ _ _ _ (by decide) (by decide))) (cases4 _ (cases3 _ rfl rfl rfl) (cases3 _ rfl rfl rfl) (cases3 _ rfl rfl rfl) (cases3 _ rfl rfl rfl))
theorem cases2 (p : Nat → Prop) (h0 : p 0) (h1 : p 1) : ∀ j, j < 2 → p j := fun j hj => by
  match j, hj with
  | 0, _ => exact h0
  | 1, _ => exact h1
theorem items2 (W : World) : Items (W.alloc (.cells #[.int .u8 4, .int .u64 9223372036854775807, .slice none 0 0, .int .u8 4, .int .u64 0, .slice none 0 0] 30)) (W.alloc (.cells #[.int .u8 4, .int .u64 9223372036854775807, .slice none 0 0, .int .u8 4, .int .u64 0, .slice none 0 0] 30)).heap.size (some ⟨W.heap.size, 0, none⟩) 2 xs2 :=
  items_of_rows W _ 2 xs2 (cases2 _ (one_ok _ _ _ _ (by decide) (by decide)) (one_ok _ _ _ _ (by decide) (by decide))) (cases2 _ (cases3 _ rfl rfl rfl) (cases3 _ rfl rfl rfl))
end Go.Proofs.Ytohojfgceaajfaa
