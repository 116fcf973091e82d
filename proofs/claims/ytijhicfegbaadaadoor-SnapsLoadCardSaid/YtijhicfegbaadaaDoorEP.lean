/- EP: layer 10: what the landed disk's proofs share: files without order, things as they are kept, the cells of a disk. -/
import Derived.Test.YtijhicfegbaadaaDoorMO
import Derived.Test.YtijhicfegbaadaaDoorDO
import Derived.Test.YtijhicfegbaadaaDoorVW
import Derived.Test.YtijhicfegbaadaaDoorD8
import Derived.Test.YtijhicfegbaadaaDoorDU
import Derived.WalkSmall
namespace Go.V
open Go.RowKit
/-- what is done, told without the order of files -/
def doM (L : List Fl) (a : Ac) : List Fl :=
  if a.k = 0 then ⟨a.n, (findF L a.n).getD [] ++ a.b⟩ :: woF L a.n else if a.k = 1 then ⟨a.n, a.b⟩ :: woF L a.n else if a.k = 2 then (match findF L a.n with
    | some b => ⟨a.t, b⟩ :: woF (woF L a.n) a.t
    | none => L) else if a.k = 3 then woF L a.n else L
theorem ins_perm (n : ByteArray) (b : List UInt8) : ∀ l : List Fl, (insF n b l).Perm (⟨n, b⟩ :: woF l n)
  | [] => .refl _
  | f :: r => by
    rw [insF, wo_cons]
    by_cases h : f.n = n
    · rw [if_pos h, if_pos h]
      exact ins_perm n b r
    · rw [if_neg h, if_neg h]
      by_cases h2 : gtS f.n n = true
      · rw [if_pos h2]
      · rw [if_neg h2]
        exact ((ins_perm n b r).cons f).trans (.swap _ _ _)
theorem find_tot : ∀ (l : List Fl) (n : ByteArray), ((findF l n).getD []).length ≤ tot l
  | [], _ => by simp [findF]
  | f :: l, n => by
    have h := find_tot l n
    have e : tot (f :: l) = f.b.length + tot l := by unfold tot; simp
    rw [e, findF]
    split
    · simp
    · omega
theorem doM_perm (l : List Fl) (a : Ac) : (doM l a).Perm (doneF l a) := by
  unfold doM doneF
  split
  · exact (with_perm _ _ _).symm
  · split
    · exact (with_perm _ _ _).symm
    · split
      · cases findF l a.n with
        | none => exact .refl _
        | some b => exact (with_perm _ _ _).symm
      · split <;> exact .refl _
/-- an act as the landed code has it -/
def apD : WD Ac 4 := ⟨fun a => [.atom (.int .i64 a.k), .atom (.string a.n), .atom (.string a.t), bys a.b], fun _ => rfl, by omega⟩
def apL (a : Ac) (u : Value) : List Value := [.int .i64 a.k, .string a.n, .string a.t, u]
theorem ap_mk {w : World} {F : Nat → Prop} {a : Ac} {u : Value} (h : Rd w F u (bys a.b)) : WdEl w F apD a (apL a u) :=
  ⟨rfl, fun j v d hv hd => by
    match j with
    | 0 => simp [apL, apD] at hv hd; subst hv hd; unfold Rd; rfl
    | 1 => simp [apL, apD] at hv hd; subst hv hd; unfold Rd; rfl
    | 2 => simp [apL, apD] at hv hd; subst hv hd; unfold Rd; rfl
    | 3 => simp [apL, apD] at hv hd; subst hv hd; exact h
    | j + 4 => simp [apL] at hv⟩
theorem one_ap (a : Ac) (A : Option Addr) (n c : Nat) : ∀ v ∈ apL a (.slice A n c), v.oneCell' = true := by
  intro v hv
  simp [apL] at hv
  rcases hv with rfl | rfl | rfl | rfl <;> rfl
/-- an act as it is kept: without what it doesn't use -/
def nrmA (a : Ac) : Ac := if a.k = 0 ∨ a.k = 1 then { a with t := ByteArray.empty } else if a.k = 2 then { a with b := [] } else { a with t := ByteArray.empty, b := [] }
theorem nrm_sm {a : Ac} (h : AcSm a) : AcSm (nrmA a) := by
  have h0 : ByteArray.empty.size ≤ maxLen := by simp [maxLen]
  unfold nrmA
  split
  · exact ⟨h.b, h.keep, h.cut, h.m, h.nn, h0⟩
  · split
    · exact ⟨by simp, h.keep, h.cut, h.m, h.nn, h.tt⟩
    · exact ⟨by simp, h.keep, h.cut, h.m, h.nn, h0⟩
theorem done_nrm (l : List Fl) (a : Ac) : doneF l (nrmA a) = doneF l a := by
  unfold nrmA
  by_cases h0 : a.k = 0
  · rw [if_pos (.inl h0)]; unfold doneF; dsimp only; rw [if_pos h0, if_pos h0]
  · by_cases h1 : a.k = 1
    · rw [if_pos (.inr h1)]; unfold doneF; dsimp only; rw [if_neg h0, if_neg h0, if_pos h1, if_pos h1]
    · rw [if_neg (by rintro (h | h); exact h0 h; exact h1 h)]
      by_cases h2 : a.k = 2
      · rw [if_pos h2]; unfold doneF; dsimp only; rw [if_neg h0, if_neg h1, if_pos h2]
        simp only [if_neg h0, if_neg h1]
      · rw [if_neg h2]; unfold doneF; dsimp only; rw [if_neg h0, if_neg h0, if_neg h1, if_neg h1, if_neg h2, if_neg h2]
/-- the landed disk's cells -/
def dcZ (d : Dk) (s f : Nat) (vp : Value) : List Value := [.int .i64 d.room, .map (some s), .map (some f), vp, .int .i64 (max d.fuse (-1)), .bool d.down]
def putsF (a : Ac) : Bool := decide (a.k = 0 ∨ a.k = 1)
theorem tot_perm {l l' : List Fl} (h : l.Perm l') : tot l = tot l' := by
  unfold tot
  exact (h.map _).sum_nat
theorem wo_none {l : List Fl} {s : ByteArray} (h : ∀ f ∈ l, f.n ≠ s) : woF l s = l := by
  unfold woF
  exact List.filter_eq_self.2 (fun f hf => decide_eq_true (h f hf))
theorem wo_tot_eq : ∀ (l : List Fl) (n : ByteArray), (l.map Fl.n).Nodup → tot (woF l n) + ((findF l n).getD []).length = tot l
  | [], _, _ => by simp [woF, findF, tot]
  | f :: l, n, h => by
    rw [List.map_cons, List.nodup_cons] at h
    have ih := wo_tot_eq l n h.2
    have e : tot (f :: l) = f.b.length + tot l := by unfold tot; simp
    rw [wo_cons, e, findF]
    by_cases hf : f.n = n
    · rw [if_pos hf, if_pos hf, wo_none (fun x hx e2 => h.1 (by rw [hf, ← e2]; exact List.mem_map_of_mem hx))]
      simp; omega
    · rw [if_neg hf, if_neg hf]
      have e3 : tot (f :: woF l n) = f.b.length + tot (woF l n) := by unfold tot; simp
      omega
theorem do_put {d : Dk} {a : Ac} (hk : a.k = 0 ∨ a.k = 1) : doF d a = if d.down = true then (d, 14) else if namF a.n = false then (d, 15) else if d.room < (szA a (nowF d) : Int) then (d, 4) else pushF d a := by
  unfold doF sizeR
  rw [if_neg (by omega), if_neg (by omega), if_neg (by omega), if_neg (by omega)]
  by_cases h1 : d.down = true
  · rw [if_pos h1, if_pos h1]
  · rw [if_neg h1, if_neg h1]
    by_cases h2 : namF a.n = false
    · rw [if_pos (.inl h2), if_pos h2]
    · rw [if_neg (by rintro (h | h); exact h2 h; omega), if_neg h2, if_pos (by omega)]
theorem do_find {d : Dk} {a : Ac} (hk : a.k = 2 ∨ a.k = 3) : doF d a = if d.down = true then (d, 14) else if namF a.n = false ∨ (a.k = 2 ∧ namF a.t = false) then (d, 15) else if (findF (nowF d) a.n).isNone = true then (d, 13) else pushF d a := by
  unfold doF findR
  rw [if_neg (by omega), if_neg (by omega), if_neg (by omega), if_neg (by omega)]
  by_cases h1 : d.down = true
  · rw [if_pos h1, if_pos h1]
  · rw [if_neg h1, if_neg h1]
    by_cases h2 : namF a.n = false ∨ (a.k = 2 ∧ namF a.t = false)
    · rw [if_pos h2, if_pos h2]
    · rw [if_neg h2, if_neg h2, if_neg (by omega)]
theorem ap_open {w : World} {F : Nat → Prop} {a : Ac} {cs : List Value} (h : WdEl w F apD a cs) : ∃ u, cs = apL a u ∧ Rd w F u (bys a.b) := by
  obtain ⟨hl, ha⟩ := h
  match cs, hl with
  | [c0, c1, c2, c3], _ =>
    have h0 := ha 0 c0 _ rfl rfl
    have h1 := ha 1 c1 _ rfl rfl
    have h2 := ha 2 c2 _ rfl rfl
    have h3 := ha 3 c3 _ rfl rfl
    unfold Rd at h0 h1 h2
    subst h0 h1 h2
    exact ⟨c3, rfl, h3⟩
theorem ap_one {w : World} {F : Nat → Prop} : ∀ {l : List Ac} {xs : List Value}, WdX w F apD l xs → ∀ u ∈ xs, u.oneCell' = true
  | [], xs, h, u, hu => by
    have h : xs = [] := h
    rw [h] at hu
    cases hu
  | a :: l, xs, h, u, hu => by
    obtain ⟨cs, ys, rfl, he, hr⟩ := h
    rcases List.mem_append.1 hu with h | h
    · obtain ⟨v, rfl, hv⟩ := ap_open he
      obtain ⟨A, c, rfl⟩ := hv.shape
      exact one_ap a _ _ _ u h
    · exact ap_one hr u h
theorem bit_k (keep m : Nat) (h : keep < 18446744073709551616) : (bits BinOp.and IntKind.u64 ((keep : Int) / 2 ^ m) 1 == 1) = decide (keep / 2 ^ m % 2 = 1) := by
  have h1 : keep / 2 ^ m ≤ keep := Nat.div_le_self _ _
  rw [show (keep : Int) / 2 ^ m = ((keep / 2 ^ m : Nat) : Int) from by simp]
  revert h1
  generalize keep / 2 ^ m = x
  intro h1
  rw [and_one_u64 _ (by omega) (by omega)]
  by_cases hx : x % 2 = 1
  · rw [decide_eq_true hx]; simp; omega
  · rw [decide_eq_false hx]; simp; omega
end Go.V
namespace Go.Proofs.YtijhicfegbaadaaDoor
open Go.RowKit Go.V Go.Maps
theorem zSl10 (w : World) : (zeroValue 22).run Tryd.prog w = .ok (.slice none 0 0) w := by kernel_rfl
theorem sizeTh : (Tryd.prog.info? 60).map (·.size) = some 4 := by kernel_rfl
theorem sizeSlTh : (Tryd.prog.info? 55).map (·.size) = some 1 := by kernel_rfl
theorem sizeFs : (Tryd.prog.info? 54).map (·.size) = some 1 := by kernel_rfl
def zPe : List Value := [.int .i64 0, .string ByteArray.empty, .string ByteArray.empty, .slice none 0 0]
theorem slTh : SlW Tryd.prog 55 60 zPe 4 64 := .of Tryd.underlying55 (by kernel_rfl) rfl (by omega) (by omega)
theorem zeroTh : (Tryd.prog.info? 60).map (·.zero) = some (some (.agg zPe.toArray)) := by kernel_rfl
/-- a thing as the landed code has it -/
def thV (a : Ac) (u : Value) : Value := .agg #[.int .i64 a.k, .string a.n, .string a.t, u]
/-- a map of files, whose rows lie in M, as the landed code has it -/
def FX (w : World) (M : Nat → Prop) (b : Nat) (L : List Fl) : Prop := FO Tryd.prog 9 5 w M anyN b L ∧ ¬ M b ∧ ∀ y, M y → y < w.heap.size
end Go.Proofs.YtijhicfegbaadaaDoor
