import PyProof.Rows.All
import Wide.All
import OpenK.AllK
import Wide.FinOn
import Open.SpecLaws
import KE.OsGo
import HandS.ForSpec
import HandS.ForMost
import HandS.Walk
import HandS.Wide
import HandS.SortInts
import PySem.Challenge.RW_evenlight_s16_li_sharper
set_option Elab.async false
set_option maxRecDepth 100000
set_option maxHeartbeats 4000000
namespace EvM
/-! numbers and lists alone -/
theorem natural_iff {z : Int} {b : Nat} : Sh55Neutral.natural z b = true ↔ 0 ≤ z ∧ z < 2 ^ b := by
  unfold Sh55Neutral.natural
  rw [Bool.and_eq_true, decide_eq_true_eq, decide_eq_true_eq]
def Nn (l : List Int) : Prop := ∀ z ∈ l, 0 ≤ z
def By (l : List Int) : Prop := ∀ z ∈ l, 0 ≤ z ∧ z < 256
theorem By.nn {l : List Int} (h : By l) : Nn l := fun z hz => (h z hz).1
theorem by_of {l : List Int} (h : l.all (fun (z : Int) => Sh55Neutral.natural z 8) = true) : By l := fun z hz => by
  have := natural_iff.mp (List.all_eq_true.mp h z hz)
  exact ⟨this.1, by have h2 := this.2; simpa using h2⟩
def Wd (l : List Int) : Prop := ∀ z ∈ l, 0 ≤ z ∧ z < 65536
theorem Wd.nn {l : List Int} (h : Wd l) : Nn l := fun z hz => (h z hz).1
theorem wd_of {l : List Int} (h : l.all (fun (z : Int) => Sh55Neutral.natural z 16) = true) : Wd l := fun z hz => by
  have := natural_iff.mp (List.all_eq_true.mp h z hz)
  exact ⟨this.1, by have h2 := this.2; simpa using h2⟩
theorem nats_len (l : List Int) : (Sh55Neutral.nats l).length = l.length := by
  unfold Sh55Neutral.nats; rw [List.length_map]
theorem ints_len (l : List Nat) : (Sh55Neutral.ints l).length = l.length := by
  unfold Sh55Neutral.ints; rw [List.length_map]
theorem ints_nats {l : List Int} (h : Nn l) : Sh55Neutral.ints (Sh55Neutral.nats l) = l := by
  unfold Sh55Neutral.ints Sh55Neutral.nats
  rw [List.map_map]
  conv => rhs; rw [← List.map_id l]
  refine List.map_congr_left fun z hz => ?_
  exact Int.toNat_of_nonneg (h z hz)
theorem nats_ints (l : List Nat) : Sh55Neutral.nats (Sh55Neutral.ints l) = l := by
  unfold Sh55Neutral.ints Sh55Neutral.nats
  rw [List.map_map]
  conv => rhs; rw [← List.map_id l]
  rfl
/-- what a list of numbers that are not negative is -/
theorem Nn.eq {l : List Int} (h : Nn l) : ∃ m : List Nat, l = Sh55Neutral.ints m := ⟨_, (ints_nats h).symm⟩
theorem ints_get (l : List Nat) (i : Nat) : (Sh55Neutral.ints l)[i]? = (l[i]?).map fun (n : Nat) => (n : Int) := by
  unfold Sh55Neutral.ints; rw [List.getElem?_map]
theorem num_eq (l : List Nat) (i : Nat) : Sh55.num l i = (l[i]?).getD 0 := by
  unfold Sh55.num; rw [List.getD_eq_getElem?_getD]
end EvM
namespace EvM
/-! pages -/
def isPage (w : Int) (n : Nat) : Bool := Sh55.page w.toNat (n / w.toNat)
theorem isPage_iff {w : Int} {n : Nat} (h0 : 0 ≤ w) : isPage w n = true ↔ (1 ≤ w ∧ w ≤ 256) ∧ 1 ≤ (n : Int) / w ∧ (n : Int) / w ≤ 256 := by
  obtain ⟨m, rfl⟩ : ∃ m : Nat, w = (m : Int) := ⟨w.toNat, by omega⟩
  unfold isPage Sh55.page Sh55.among
  rw [Int.toNat_natCast]
  simp only [Bool.and_eq_true, decide_eq_true_eq]
  rw [← Int.natCast_ediv]
  omega
/-- the same in natural numbers -/
theorem isPage_nat {w : Int} {n : Nat} (h : isPage w n = true) : 1 ≤ w.toNat ∧ w.toNat ≤ 256 ∧ 1 ≤ n / w.toNat ∧ n / w.toNat ≤ 256 := by
  unfold isPage Sh55.page Sh55.among at h
  simp only [Bool.and_eq_true, decide_eq_true_eq] at h
  exact ⟨h.1.1, h.1.2, h.2.1, h.2.2⟩
/-- a place of a page -/
theorem place {w h n c r : Nat} (hl : n = w * h) (hc : c < w) (hr : r < h) : r * w + c < n := by
  have h2 := Nat.mul_le_mul_left w (show r + 1 ≤ h from hr)
  rw [Nat.mul_add, Nat.mul_one, Nat.mul_comm w r] at h2
  omega
theorem nats_get {l : List Int} {i : Nat} (h : i < l.length) : (Sh55Neutral.nats l)[i]? = some (l[i].toNat) := by
  unfold Sh55Neutral.nats
  rw [List.getElem?_map, List.getElem?_eq_getElem h]
  rfl
theorem at_eq {l : List Int} {w c r : Nat} (h : r * w + c < l.length) : Sh55.at_ w (Sh55Neutral.nats l) c r = l[r * w + c].toNat := by
  unfold Sh55.at_
  rw [num_eq, nats_get h]
  rfl
/-- of each place something, row by row; as whole numbers -/
def eachI (w h : Nat) (f : Nat → Nat → Int) : List Int := (List.range h).flatMap fun r => (List.range w).map fun c => f c r
theorem flatMap_congr' {α β : Type} {f g : α → List β} : ∀ {l : List α}, (∀ a, a ∈ l → f a = g a) → l.flatMap f = l.flatMap g
  | [], _ => rfl
  | a :: l, h => by
    rw [List.flatMap_cons, List.flatMap_cons, h a List.mem_cons_self, flatMap_congr' fun b hb => h b (List.mem_cons_of_mem _ hb)]
theorem each_ints (w h : Nat) (f : Nat → Nat → Nat) : Sh55Neutral.ints (Sh55.each w h f) = eachI w h fun c r => ((f c r : Nat) : Int) := by
  unfold Sh55Neutral.ints Sh55.each eachI
  rw [List.map_flatMap]
  refine flatMap_congr' fun r _ => ?_
  rw [List.map_map]
  rfl
theorem eachI_congr {w h : Nat} {f g : Nat → Nat → Int} (e : ∀ c r, c < w → r < h → f c r = g c r) : eachI w h f = eachI w h g := by
  unfold eachI
  refine flatMap_congr' fun r hr => List.map_congr_left fun c hc => e c r (List.mem_range.mp hc) (List.mem_range.mp hr)
theorem eachI_succ (w h : Nat) (f : Nat → Nat → Int) : eachI w (h + 1) f = eachI w h f ++ (List.range w).map fun c => f c h := by
  unfold eachI
  rw [List.range_succ, List.flatMap_append, List.flatMap_singleton]
theorem eachI_len (w h : Nat) (f : Nat → Nat → Int) : (eachI w h f).length = h * w := by
  induction h with
  | zero => simp [eachI]
  | succ h ih => rw [eachI_succ, List.length_append, ih, List.length_map, List.length_range, Nat.add_mul, Nat.one_mul]
theorem eachI_get {w h : Nat} {f : Nat → Nat → Int} {c r : Nat} (hc : c < w) (hr : r < h) : (eachI w h f)[r * w + c]? = some (f c r) := by
  induction h with
  | zero => omega
  | succ h ih =>
    rw [eachI_succ]
    by_cases e : r < h
    · rw [List.getElem?_append_left (by rw [eachI_len]; exact place (Nat.mul_comm h w) hc e)]
      exact ih e
    · have e2 : r = h := by omega
      subst e2
      rw [List.getElem?_append_right (by rw [eachI_len]; omega), eachI_len, Nat.add_sub_cancel_left, List.getElem?_map, List.getElem?_range hc]
      rfl
/-- the same by one running place -/
theorem eachI_flat {w h : Nat} (hw : 0 < w) (f : Nat → Nat → Int) : eachI w h f = (List.range (h * w)).map fun i => f (i % w) (i / w) := by
  refine List.ext_getElem? fun i => ?_
  by_cases hi : i < h * w
  · have hr : i / w < h := (Nat.div_lt_iff_lt_mul hw).mpr hi
    have e := eachI_get (f := f) (Nat.mod_lt i hw) hr
    rw [Nat.mul_comm, Nat.div_add_mod] at e
    rw [e, List.getElem?_map, List.getElem?_range hi]
    rfl
  · rw [List.getElem?_eq_none (by rw [eachI_len]; omega), List.getElem?_eq_none (by rw [List.length_map, List.length_range]; omega)]
end EvM
namespace EvM
/-! lists of natural numbers and of whole numbers, number by number -/
theorem ints_map {x : List Int} {f : Nat → Nat} {g : Int → Int} (h : ∀ z ∈ x, ((f z.toNat : Nat) : Int) = g z) : Sh55Neutral.ints ((Sh55Neutral.nats x).map f) = x.map g := by
  unfold Sh55Neutral.ints Sh55Neutral.nats
  rw [List.map_map, List.map_map]
  exact List.map_congr_left fun z hz => h z hz
theorem ints_zip {x b : List Int} {f : Nat → Nat → Nat} {g : Int → Int → Int} (h : ∀ z ∈ x, ∀ y ∈ b, ((f z.toNat y.toNat : Nat) : Int) = g z y) :
    Sh55Neutral.ints (((Sh55Neutral.nats x).zip (Sh55Neutral.nats b)).map fun p => f p.1 p.2) = (x.zip b).map fun p => g p.1 p.2 := by
  unfold Sh55Neutral.ints Sh55Neutral.nats
  rw [List.zip_map, List.map_map, List.map_map]
  refine List.map_congr_left fun z hz => ?_
  exact h z.1 (List.of_mem_zip hz).1 z.2 (List.of_mem_zip hz).2
theorem zip_get {x b : List Int} {i : Nat} {z y : Int} (h1 : x[i]? = some z) (h2 : b[i]? = some y) : (x.zip b)[i]? = some (z, y) := by
  rw [List.getElem?_zip_eq_some]
  exact ⟨h1, h2⟩
/-- the byte at column c, row r -/
def pix (w : Nat) (x : List Int) (c r : Nat) : Int := (x[r * w + c]?).getD 0
theorem at_cast {w c r : Nat} {x : List Int} (h : Nn x) : ((Sh55.at_ w (Sh55Neutral.nats x) c r : Nat) : Int) = pix w x c r := by
  unfold Sh55.at_ pix
  rw [num_eq]
  unfold Sh55Neutral.nats
  rw [List.getElem?_map]
  cases e : x[r * w + c]? with
  | none => rfl
  | some z =>
    have := h z (List.mem_of_getElem? e)
    show ((z.toNat : Nat) : Int) = z
    omega
theorem pix_get {w c r h : Nat} {x : List Int} (hl : x.length = w * h) (hc : c < w) (hr : r < h) : x[r * w + c]? = some (pix w x c r) := by
  have := place hl hc hr
  unfold pix
  rw [List.getElem?_eq_getElem this]
  rfl
theorem pix_by {w c r : Nat} {x : List Int} (h : By x) : 0 ≤ pix w x c r ∧ pix w x c r ≤ 255 := by
  unfold pix
  cases e : x[r * w + c]? with
  | none => exact ⟨by decide, by decide⟩
  | some z =>
    have := h z (List.mem_of_getElem? e)
    show 0 ≤ z ∧ z ≤ 255
    omega
theorem page_eq {w h : Nat} {x : List Int} (hw : 0 < w) (hl : x.length = w * h) : x = eachI w h (pix w x) := by
  refine List.ext_getElem? fun i => ?_
  by_cases hi : i < h * w
  · have hr : i / w < h := (Nat.div_lt_iff_lt_mul hw).mpr hi
    have e := eachI_get (f := pix w x) (Nat.mod_lt i hw) hr
    have e2 := pix_get hl (Nat.mod_lt i hw) hr
    rw [Nat.mul_comm, Nat.div_add_mod] at e e2
    rw [e, e2]
  · rw [List.getElem?_eq_none (by rw [hl, Nat.mul_comm]; omega), List.getElem?_eq_none (by rw [eachI_len]; omega)]
theorem eachI_map (w h : Nat) (g : Nat → Nat → Int) (f : Int → Int) : (eachI w h g).map f = eachI w h fun c r => f (g c r) := by
  unfold eachI
  rw [List.map_flatMap]
  refine flatMap_congr' fun r _ => ?_
  rw [List.map_map]
  rfl
/-- a row of a page -/
def rowI (w : Nat) (g : Nat → Nat → Int) (r : Nat) : List Int := (List.range w).map fun c => g c r
theorem rowI_len (w : Nat) (g : Nat → Nat → Int) (r : Nat) : (rowI w g r).length = w := by
  unfold rowI
  rw [List.length_map, List.length_range]
theorem rowI_get {w : Nat} {g : Nat → Nat → Int} {r c : Nat} (hc : c < w) : (rowI w g r)[c]? = some (g c r) := by
  unfold rowI
  rw [List.getElem?_map, List.getElem?_range hc]
  rfl
theorem eachI_row {w h : Nat} {g : Nat → Nat → Int} {r : Nat} (hr : r < h) : ((eachI w h g).drop (r * w)).take w = rowI w g r := by
  refine List.ext_getElem? fun i => ?_
  rw [List.getElem?_take, List.getElem?_drop]
  by_cases hi : i < w
  · rw [if_pos hi, eachI_get hi hr, rowI_get hi]
  · rw [if_neg hi, List.getElem?_eq_none (by rw [rowI_len]; omega)]
end EvM
namespace EvM
/-! the k-th -/
theorem same_sorted {a b : List Int} (hp : a.Perm b) (ha : a.Pairwise (· ≤ ·)) (hb : b.Pairwise (· ≤ ·)) : a = b :=
  hp.eq_of_pairwise (fun _ _ _ _ h1 h2 => Int.le_antisymm h1 h2) ha hb
theorem ints_sort {l s : List Int} (h : Nn l) (p : s.Perm l) (o : s.Pairwise (· ≤ ·)) : s = Sh55Neutral.ints ((Sh55Neutral.nats l).mergeSort fun a b => decide (a ≤ b)) := by
  obtain ⟨m, rfl⟩ := h.eq
  rw [nats_ints]
  refine same_sorted (p.trans ((List.mergeSort_perm m _).symm.map _)) o ?_
  have q : (m.mergeSort fun a b => decide (a ≤ b)).Pairwise fun a b => decide (a ≤ b) = true :=
    List.pairwise_mergeSort (le := fun a b => decide (a ≤ b)) (fun a b c h1 h2 => by simp at *; omega) (fun a b => by simp; omega) m
  unfold Sh55Neutral.ints
  rw [List.pairwise_map]
  exact q.imp fun h => by have := of_decide_eq_true h; omega
theorem kth_asked {k : Int} {l : List Int} (h : PySh55.li_kth_asked k l = true) : 0 ≤ k ∧ By l := by
  have h : (Sh55Neutral.asked1 [[2, k], l] && _) = true := h
  rw [Bool.and_eq_true] at h
  have h1 : (Sh55Neutral.natural k 32 && (l.all (fun (z : Int) => Sh55Neutral.natural z 8) && _)) = true := h.1
  rw [Bool.and_eq_true, Bool.and_eq_true] at h1
  exact ⟨(natural_iff.mp h1.1).1, by_of h1.2.1⟩
theorem kth_big {k : Int} {l : List Int} (h : ¬ l.length ≤ 65536) : PySh55.li_kth k l = [-2] := by
  show Sh55Neutral.f [[2, k], l] = _
  unfold Sh55Neutral.f Sh55Neutral.callOf
  have hf : Sh55.few (Sh55Neutral.nats l).length = false := decide_eq_false (by rw [nats_len]; exact h)
  simp only [hf]
  rfl
theorem kth_none {k : Int} {l : List Int} (h : l.length ≤ 65536) (hn : k = 0 ∨ (l.length : Int) < k) : PySh55.li_kth k l = [-6] := by
  show Sh55Neutral.f [[2, k], l] = _
  unfold Sh55Neutral.f Sh55Neutral.callOf
  have hf : Sh55.few (Sh55Neutral.nats l).length = true := decide_eq_true (by rw [nats_len]; exact h)
  simp only [hf, if_true, Sh55.answer]
  rw [if_pos (by rw [nats_len]; omega)]
  rfl
theorem kth_some {k : Int} {l s : List Int} {z : Int} (h : l.length ≤ 65536) (hb : By l) (h1 : 0 < k) (h2 : k ≤ (l.length : Int)) (p : s.Perm l) (o : s.Pairwise (· ≤ ·)) (hz : s[(k - 1).toNat]? = some z) : PySh55.li_kth k l = [z] := by
  show Sh55Neutral.f [[2, k], l] = _
  unfold Sh55Neutral.f Sh55Neutral.callOf
  have hf : Sh55.few (Sh55Neutral.nats l).length = true := decide_eq_true (by rw [nats_len]; exact h)
  simp only [hf, if_true, Sh55.answer]
  rw [if_neg (by rw [nats_len]; omega)]
  show [((Sh55.kth k.toNat (Sh55Neutral.nats l) : Nat) : Int)] = [z]
  unfold Sh55.kth
  rw [ints_sort hb.nn p o, ints_get] at hz
  rw [num_eq, show k.toNat - 1 = (k - 1).toNat by omega]
  cases e : (List.mergeSort (Sh55Neutral.nats l) fun a b => decide (a ≤ b))[(k - 1).toNat]? with
  | none => rw [e] at hz; cases hz
  | some n =>
    rw [e] at hz
    rw [← Option.some.inj hz]
    rfl
end EvM
namespace EvM
/-! medians -/
theorem sort_get {l s : List Int} {k : Nat} {z : Int} (hl : Nn l) (p : s.Perm l) (o : s.Pairwise (· ≤ ·)) (hz : s[k - 1]? = some z) : ((Sh55.kth k (Sh55Neutral.nats l) : Nat) : Int) = z := by
  unfold Sh55.kth
  rw [ints_sort hl p o, ints_get] at hz
  rw [num_eq]
  cases e : (List.mergeSort (Sh55Neutral.nats l) fun a b => decide (a ≤ b))[k - 1]? with
  | none => rw [e] at hz; cases hz
  | some n =>
    rw [e] at hz
    rw [← Option.some.inj hz]
    rfl
/-- a line with its rims once more -/
def rimI (w : Nat) (f : Nat → Int) : List Int := f 0 :: (List.range w).map f ++ [f (w - 1)]
theorem rimI_len (w : Nat) (f : Nat → Int) : (rimI w f).length = w + 2 := by
  unfold rimI
  simp
theorem rim_get {α : Type} {l : List α} {a b : α} {n j : Nat} (hn : l.length = n) (ha : l[0]? = some a) (hb : l[n - 1]? = some b) (hj : j < n + 2) : (a :: l ++ [b])[j]? = l[min (n - 1) (j - 1)]? := by
  have h0 : 0 < n := by
    rw [← hn]
    exact (List.getElem?_eq_some_iff.mp ha).1
  rw [List.cons_append]
  cases j with
  | zero =>
    rw [List.getElem?_cons_zero, show min (n - 1) (0 - 1) = 0 by omega, ha]
  | succ j =>
    rw [List.getElem?_cons_succ]
    by_cases h : j < n
    · rw [List.getElem?_append_left (by omega), show min (n - 1) (j + 1 - 1) = j by omega]
    · have e : j = n := by omega
      subst e
      rw [List.getElem?_append_right (by omega), hn, Nat.sub_self, show min (j - 1) (j + 1 - 1) = j - 1 by omega, hb]
      rfl
theorem rimI_get {w j : Nat} {f : Nat → Int} (hw : 0 < w) (hj : j < w + 2) : (rimI w f)[j]? = some (f (min (w - 1) (j - 1))) := by
  unfold rimI
  rw [rim_get (l := (List.range w).map f) (n := w) (by simp) (by rw [List.getElem?_map, List.getElem?_range hw]; rfl) (by rw [List.getElem?_map, List.getElem?_range (by omega)]; rfl) hj, List.getElem?_map, List.getElem?_range (by omega)]
  rfl
theorem take3 {l : List Int} {c : Nat} {a b d : Int} (h0 : l[c]? = some a) (h1 : l[c + 1]? = some b) (h2 : l[c + 2]? = some d) : (l.drop c).take 3 = [a, b, d] := by
  refine List.ext_getElem? fun i => ?_
  rw [List.getElem?_take, List.getElem?_drop]
  match i with
  | 0 => exact h0
  | 1 => exact h1
  | 2 => exact h2
  | i + 3 => rfl
theorem rim3 {w c : Nat} {f : Nat → Int} (hc : c < w) : ((rimI w f).drop c).take 3 = [0, 1, 2].map fun i => f (min (w - 1) (c + i - 1)) :=
  take3 (rimI_get (by omega) (by omega)) (rimI_get (by omega) (by omega)) (rimI_get (by omega) (by omega))
/-- the nine, row by row -/
def nineI (w h : Nat) (g : Nat → Nat → Int) (c r : Nat) : List Int := [0, 1, 2].flatMap fun j => [0, 1, 2].map fun i => g (min (w - 1) (c + i - 1)) (min (h - 1) (r + j - 1))
theorem nine_cast {w h c r : Nat} {x : List Int} (hx : By x) : Sh55Neutral.nats (nineI w h (pix w x) c r) = [0, 1, 2].flatMap fun j => [0, 1, 2].map fun i => Sh55.at_ w (Sh55Neutral.nats x) (min (w - 1) (c + i - 1)) (min (h - 1) (r + j - 1)) := by
  unfold Sh55Neutral.nats nineI
  rw [List.map_flatMap]
  refine flatMap_congr' fun j _ => ?_
  rw [List.map_map]
  refine List.map_congr_left fun i _ => ?_
  show (pix w x (min (w - 1) (c + i - 1)) (min (h - 1) (r + j - 1))).toNat = _
  rw [← at_cast hx.nn]
  exact Int.toNat_natCast _
theorem nine_nn {w h c r : Nat} {g : Nat → Nat → Int} (hg : ∀ c r, 0 ≤ g c r) : Nn (nineI w h g c r) := fun z hz => by
  unfold nineI at hz
  obtain ⟨j, _, hz⟩ := List.mem_flatMap.mp hz
  obtain ⟨i, _, rfl⟩ := List.mem_map.mp hz
  exact hg _ _
/-- the median -/
def medI (w h : Nat) (x : List Int) (c r : Nat) : Int := ((Sh55.median w h (Sh55Neutral.nats x) c r : Nat) : Int)
theorem med_is {w h c r : Nat} {x s : List Int} {z : Int} (hx : By x) (p : s.Perm (nineI w h (pix w x) c r)) (o : s.Pairwise (· ≤ ·)) (hz : s[4]? = some z) : z = medI w h x c r := by
  have := sort_get (k := 5) (nine_nn fun c r => (pix_by hx).1) p o hz
  rw [nine_cast hx] at this
  exact this.symm
theorem median_list (w h : Nat) (x : List Int) : Sh55Neutral.ints (Sh55.each w h (Sh55.median w h (Sh55Neutral.nats x))) = eachI w h (medI w h x) := each_ints _ _ _
end EvM
namespace EvM
/-! li_sharper -/
theorem sharper_okB {w k : Int} {x : List Int} (hw : 0 ≤ w) (hk : 0 ≤ k) : ((Sh55.page w.toNat ((Sh55Neutral.nats x).length / w.toNat) && decide (k.toNat ≤ 256))) = true ↔ (isPage w x.length = true ∧ k ≤ 256) := by
  rw [nats_len]
  simp only [Bool.and_eq_true, decide_eq_true_eq]
  have e_k : k.toNat ≤ 256 ↔ k ≤ 256 := by omega
  rw [e_k]
  exact Iff.rfl
theorem sharper_asked {w k : Int} {x : List Int} (h : PySh55.li_sharper_asked w k x = true) : 0 ≤ w ∧ 0 ≤ k ∧ By x ∧ ((isPage w x.length = true ∧ k ≤ 256) → x.length = w.toNat * (x.length / w.toNat)) := by
  have h : (Sh55Neutral.asked1 [[15, w, k], x] && _) = true := h
  rw [Bool.and_eq_true] at h
  have h1 : (Sh55Neutral.natural w 32 && (Sh55Neutral.natural k 32 && (x.all (fun (z : Int) => Sh55Neutral.natural z 8) && (if ((Sh55.page w.toNat ((Sh55Neutral.nats x).length / w.toNat) && decide (k.toNat ≤ 256))) = true then x.length == w.toNat * ((Sh55Neutral.nats x).length / w.toNat) else _)))) = true := h.1
  rw [Bool.and_eq_true, Bool.and_eq_true, Bool.and_eq_true] at h1
  refine ⟨(natural_iff.mp h1.1).1, (natural_iff.mp h1.2.1).1, by_of h1.2.2.1, ?_⟩
  have h2 := h1.2.2.2
  intro ok
  rw [if_pos ((sharper_okB (natural_iff.mp h1.1).1 (natural_iff.mp h1.2.1).1).mpr ok), nats_len] at h2
  exact beq_iff_eq.mp h2
theorem sharper_bad {w k : Int} {x : List Int} (hw : 0 ≤ w) (hk : 0 ≤ k) (h : ¬ (isPage w x.length = true ∧ k ≤ 256)) : PySh55.li_sharper w k x = [-2] := by
  show Sh55Neutral.f [[15, w, k], x] = _
  unfold Sh55Neutral.f Sh55Neutral.callOf
  have hf : ((Sh55.page w.toNat ((Sh55Neutral.nats x).length / w.toNat) && decide (k.toNat ≤ 256))) = false := by
    cases e : ((Sh55.page w.toNat ((Sh55Neutral.nats x).length / w.toNat) && decide (k.toNat ≤ 256))) with
    | false => rfl
    | true => exact absurd ((sharper_okB hw hk).mp e) h
  simp only [hf]
  rfl
theorem sharper_ok {w k : Int} {x : List Int} (hw : 0 ≤ w) (hk : 0 ≤ k) (h : isPage w x.length = true ∧ k ≤ 256) : PySh55.li_sharper w k x = 0 :: Sh55Neutral.ints (Sh55.each w.toNat (x.length / w.toNat) (Sh55.sharper w.toNat (x.length / w.toNat) k.toNat (Sh55Neutral.nats x))) := by
  show Sh55Neutral.f [[15, w, k], x] = _
  unfold Sh55Neutral.f Sh55Neutral.callOf
  have hf : ((Sh55.page w.toNat ((Sh55Neutral.nats x).length / w.toNat) && decide (k.toNat ≤ 256))) = true := (sharper_okB hw hk).mpr h
  simp only [hf, if_true]
  rw [← nats_len x]
  rfl
end EvM
namespace EvM
def heldI (z : Int) : Int := max 0 (min 255 z)
/-- sharper, of a byte and the sum of the four beside -/
def sharpI (k a s : Int) : Int := heldI (a + (k * (4 * a - s) + 32) / 64)
def fourI (w h : Nat) (g : Nat → Nat → Int) (c r : Nat) : Int := g (c - 1) r + g (min (w - 1) (c + 1)) r + g c (r - 1) + g c (min (h - 1) (r + 1))
theorem sharper_list {w h k : Nat} {x : List Int} (hx : Nn x) : Sh55Neutral.ints (Sh55.each w h (Sh55.sharper w h k (Sh55Neutral.nats x))) = eachI w h fun c r => sharpI k (pix w x c r) (fourI w h (pix w x) c r) := by
  rw [each_ints]
  refine eachI_congr fun c r _ _ => ?_
  unfold Sh55.sharper Sh55.held sharpI fourI heldI
  rw [← at_cast hx, ← at_cast hx, ← at_cast hx, ← at_cast hx, ← at_cast hx]
  simp only [Int.natCast_add]
  omega
end EvM
namespace Ev
open PySem PySem.Spec PyProof.Rows L2
/-! small words over the hand layer -/
theorem same_upd {H : Hp} {p : Addr} {o : HO} (h : H p = none) : Same H (upd H p o) := fun b x e => by
  rw [upd_ne (ne_of_none e h)]
  exact e
/-- xs[j] by values, for xs[j] += e -/
def rGetL (K : PySem.W.Frag) : V → V → Hp → VK → Prop := fun x y H Q => ∃ (p : Addr) (xs : List V) (j : Nat) (v : V), x = .ref p ∧ y = .int j ∧ SqL K H p xs ∧ xs[j]? = some v ∧ Q v H
theorem get_list {X : Cx} : PGet X (rGetL X.K) := by
  intro pins s σ H x y v u Q I rx ry h
  obtain ⟨p, xs, j, z, rfl, rfl, hq, he, q⟩ := h
  cases rx
  obtain ⟨t, rfl⟩ := ry
  obtain ⟨its, r, pl, hz⟩ := I.list hq
  obtain ⟨w, ew, rw'⟩ := r.get he
  have hj : j < xs.length := (List.getElem?_eq_some_iff.mp he).1
  have hl := r.length
  have hn := line63
  exact wpAny_getItem_list pl.isList (by omega) (by omega) (by rw [Int.toNat_natCast]; simpa using ew) ⟨z, H, I, rw', q⟩
theorem ixN_nat {n j : Nat} (h : j < n) : ixN n (j : Int) = some j := by
  unfold ixN
  rw [if_pos (by omega), if_pos (by omega), Int.toNat_natCast]
theorem map_set {α β : Type} (f : α → β) (l : List α) (i : Nat) (a : α) : (l.map f).set i (f a) = (l.set i a).map f := by
  rw [List.map_set]
theorem get_int {l : List Int} {i : Nat} {y : V} (h : (l.map V.int)[i]? = some y) : ∃ z, l[i]? = some z ∧ y = V.int z := by
  rw [List.getElem?_map] at h
  cases e : l[i]? with
  | none => rw [e] at h; cases h
  | some z => rw [e] at h; exact ⟨z, rfl, (Option.some.inj h).symm⟩
theorem int_get {l : List Int} {i : Nat} {z : Int} (h : l[i]? = some z) : (l.map V.int)[i]? = some (V.int z) := by
  rw [List.getElem?_map, h]
  rfl
theorem take_more {α : Type} {l : List α} {i : Nat} {x : α} (h : l[i]? = some x) : l.take (i + 1) = l.take i ++ [x] := by
  rw [List.take_add_one, h]
  rfl
end Ev
namespace Ev
open PySem PySem.Spec PyProof.Rows L2
theorem cut_nat (l : List Int) (i j : Nat) : cutV (l.map V.int) (some (i : Int)) (some (j : Int)) = ((l.drop i).take (j - i)).map V.int := by
  unfold cutV
  rw [HT.sIx_nat, HT.sIx_nat, List.length_map, ← List.map_drop, ← List.map_take]
  congr 1
  by_cases h : i ≤ l.length
  · rw [Nat.min_eq_left h]
    by_cases h2 : j ≤ l.length
    · rw [Nat.min_eq_left h2]
    · rw [Nat.min_eq_right (by omega), List.take_of_length_le (by rw [List.length_drop]; omega), List.take_of_length_le (by rw [List.length_drop]; omega)]
  · rw [List.drop_eq_nil_of_le (by omega), List.drop_eq_nil_of_le (by omega), List.take_nil, List.take_nil]
theorem rgC_up {i j c : Int} {n : Nat} (hc : 0 < c) (hc2 : c < 1073741824) (hi : 0 ≤ i) (hi2 : i < 2 ^ 60) (hj : 0 ≤ j) (hj2 : j < 2 ^ 60) (hn : (n : Int) = if i < j then (j - i - 1) / c + 1 else 0) : RgC i j c n := by
  have hs : Builtin.Range.rangeSize i j c = n := by
    unfold Builtin.Range.rangeSize
    rw [if_pos hc, hn]
  have hn2 : (n : Int) < 2 ^ 62 := by
    rw [hn]
    split
    · have h1 : (j - i - 1) / c ≤ j - i - 1 := Int.ediv_le_self _ (by omega)
      omega
    · decide
  refine ⟨by omega, by omega, ?_, hs⟩
  unfold Builtin.Range.small
  rw [hs]
  unfold Builtin.Range.rangeFitsLong
  simp only [Bool.and_eq_true, Bool.or_eq_true, decide_eq_true_eq]
  rw [if_pos hc]
  simp only [Bool.and_eq_true, decide_eq_true_eq]
  omega
end Ev
namespace Ev
open PySem PySem.Spec PyProof.Rows L2
/-- the end of a comprehension's turn where nothing else is made -/
theorem lc_fin {H0 : Hp} {D : Addr} {l l' : List Int} {v : Int} (hl : l.length < sizeLine) (e : l' = l ++ [v]) :
    ∃ acc, upd H0 D (.lst (l.map V.int)) D = some (.lst acc) ∧ acc.length < sizeLine ∧ upd (upd H0 D (.lst (l.map V.int))) D (.lst (acc ++ [.int v])) = upd H0 D (.lst (l'.map V.int)) := by
  refine ⟨_, upd_same, by rw [List.length_map]; exact hl, ?_⟩
  rw [upd_upd, e, List.map_append]
  rfl
theorem map_more {l : List Int} {f : Int → Int} {i : Nat} {z : Int} (h : l[i]? = some z) : (l.take (i + 1)).map f = (l.take i).map f ++ [f z] := by
  rw [take_more h, List.map_append]
  rfl
theorem range_more (f : Nat → Int) (i : Nat) : (List.range (i + 1)).map f = (List.range i).map f ++ [f i] := by
  rw [List.range_succ, List.map_append]
  rfl
theorem cutV_nat (l : List V) (i j : Nat) : cutV l (some (i : Int)) (some (j : Int)) = (l.drop i).take (j - i) := by
  unfold cutV
  rw [HT.sIx_nat, HT.sIx_nat]
  by_cases h : i ≤ l.length
  · rw [Nat.min_eq_left h]
    by_cases h2 : j ≤ l.length
    · rw [Nat.min_eq_left h2]
    · rw [Nat.min_eq_right (by omega), List.take_of_length_le (by rw [List.length_drop]; omega), List.take_of_length_le (by rw [List.length_drop]; omega)]
  · rw [List.drop_eq_nil_of_le (by omega), List.drop_eq_nil_of_le (by omega), List.take_nil, List.take_nil]
theorem at_natE {l : List V} {j : Int} {i : Nat} {v : V} (e : j = (i : Int)) (h : l[i]? = some v) : atI l j = some v := at_of e h
theorem small {n : Nat} (h : n ≤ 16777216) : n ≤ sizeLine := Nat.le_trans h (by decide)
theorem smallS {n : Nat} (h : n < 16777216) : n < sizeLine := Nat.lt_of_lt_of_le h (by decide)
end Ev
namespace Ev
open PySem PySem.Spec PyProof.Rows L2
theorem map_range_get {n i : Nat} {f : Nat → Int} (h : i < n) : (((List.range n).map f).map V.int)[i]? = some (V.int (f i)) := by
  rw [List.getElem?_map, List.getElem?_map, List.getElem?_range h]
  rfl
theorem each_rows {w h : Nat} (hw : 1 ≤ w) (g : Nat → Nat → Int) : ((((EvM.eachI w h g).map V.int).length : Nat) : Int) / (w : Int) = (h : Int) := by
  rw [List.length_map, EvM.eachI_len, ← Int.natCast_ediv, Nat.mul_div_cancel _ (by omega)]
theorem each_row {w h r : Nat} (hr : r < h) (g : Nat → Nat → Int) : (((EvM.eachI w h g).map V.int).drop (r * w)).take w = ((List.range w).map fun c => g c r).map V.int := by
  rw [← List.map_drop, ← List.map_take, EvM.eachI_row hr]
  rfl
theorem rep_range (n : Nat) (f : Nat → Int) (h : ∀ c, f c = 0) : (List.replicate n [V.int 0]).flatten = ((List.range n).map f).map V.int := by
  rw [List.flatten_replicate_singleton, List.map_map]
  symm
  rw [List.eq_replicate_iff]
  refine ⟨by simp, fun b hb => ?_⟩
  obtain ⟨c, _, rfl⟩ := List.mem_map.mp hb
  show V.int (f c) = _
  rw [h]
theorem max_sub (c d : Nat) : (if (0 : Int) > (c : Int) - (d : Int) then 0 else (c : Int) - (d : Int)) = ((c - d : Nat) : Int) := by
  split <;> omega
end Ev
namespace Ev
open PySem PySem.Spec PyProof.Rows L2
open PySem.W (Codec)
def top (i : Nat) : Stmt := PySem.Challenge.pw_evenlight_s16_li_sharper.main.body.getD i (.Pass ⟨0, 0, 0, 0⟩)
abbrev s_with_rim : Stmt := top 8
theorem sc_with_rim : FnScope ["line"] ["line"] (defScope s_with_rim) := ⟨rfl, rfl, rfl, by decide +kernel, rfl, by decide +kernel, by decide +kernel⟩
abbrev s_row_of : Stmt := top 7
theorem sc_row_of : FnScope ["w", "x", "r"] ["w", "x", "r"] (defScope s_row_of) := ⟨rfl, rfl, rfl, by decide +kernel, rfl, by decide +kernel, by decide +kernel⟩
abbrev s_rows_with_rim : Stmt := top 9
theorem sc_rows_with_rim : FnScope ["w", "x", "r"] ["w", "x"] (defScope s_rows_with_rim) := ⟨rfl, rfl, rfl, by decide +kernel, rfl, by decide +kernel, by decide +kernel⟩
abbrev s_is_page : Stmt := top 6
theorem sc_is_page : FnScope ["w", "x", "h"] ["w", "x"] (defScope s_is_page) := ⟨rfl, rfl, rfl, by decide +kernel, rfl, by decide +kernel, by decide +kernel⟩
abbrev s_held : Stmt := top 11
theorem sc_held : FnScope ["number", "least", "most"] ["number", "least", "most"] (defScope s_held) := ⟨rfl, rfl, rfl, by decide +kernel, rfl, by decide +kernel, by decide +kernel⟩
abbrev s_sharper_row : Stmt := top 10
theorem sc_sharper_row : FnScope ["k", "above", "row", "below", "sharper", "c", "beside"] ["k", "above", "row", "below"] (defScope s_sharper_row) := ⟨rfl, rfl, rfl, by decide +kernel, rfl, by decide +kernel, by decide +kernel⟩
abbrev s_li_sharper : Stmt := top 5
theorem sc_li_sharper : FnScope ["w", "k", "x", "rows", "sharper", "r"] ["w", "k", "x"] (defScope s_li_sharper) := ⟨rfl, rfl, rfl, by decide +kernel, rfl, by decide +kernel, by decide +kernel⟩
section
variable {P : Program} {w : World} {K : PySem.W.Frag} {mg : Str → Option Value} {base : Heap}
def sp_with_rim (K : PySem.W.Frag) : Sp := fun vs H Q _ => ∃ (a : Addr) (xs : List V) (n : Nat) (x0 xn : V), vs = [.ref a] ∧ H a = some (.lst xs) ∧ xs.length = n ∧ n ≤ 300 ∧ xs[0]? = some x0 ∧ xs[n - 1]? = some xn ∧
  ∀ (H' : Hp) (p : Addr), Same H H' → H p = none → H' p = some (.lst (x0 :: xs ++ [xn])) → Q (.ref p) H'
theorem sp_with_rim_len {K : PySem.W.Frag} {vs : List V} {H : Hp} {Q : VK} {E : XK} (h : sp_with_rim K vs H Q E) : vs.length = 1 := by
  obtain ⟨_, _, _, _, _, rfl, _⟩ := h
  rfl
theorem cut3 {W c : Nat} {f : Nat → Int} (hc : c < W) : cutV ((EvM.rimI W f).map V.int) (some (c : Int)) (some ((c : Int) + 3)) = ([0, 1, 2].map fun i => f (min (W - 1) (c + i - 1))).map V.int := by
  rw [show (c : Int) + 3 = ((c + 3 : Nat) : Int) by omega, cut_nat, Nat.add_sub_cancel_left, EvM.rim3 hc]
/-! with_rim: slots 0 line -/
theorem ok_with_rim {f : Addr} {fd : FuncData} (F : Fun K "with_rim" "with_rim" s_with_rim f fd)
    (g_len : mg "len" = none) : FnOk P w K mg base CX0 1 f fd ["line"] (sp_with_rim K) := by
  refine F.ok sc_with_rim (fun vs H Q E h => ?_) (fun cdv A outer s H vs Q E hr h => ?_)
  · exact sp_with_rim_len h
  · refine ⟨_, (pss_one (ps_ret (pe_op op_cat (pe_op op_cat (pe_lst (pa_cons (pe_ix ix_list (pv 0) pe_int (fun _ _ => rfl)) pa_nil)) (pv 0)) (pe_lst (pa_cons (pe_ix ix_list (pv 0) (pe_op op_sub (pe_callB call_len_seq (by rfl) g_len PySem.boot_len (pa_cons (pv 0) pa_nil)) pe_int) (fun _ _ => rfl)) pa_nil))))), ?_⟩
    obtain ⟨a, xs, n, x0, xn, rfl, ha, hn, hn2, h0, hl, q⟩ := h
    refine ⟨_, rfl, a, _, _, _, rfl, rfl, SqL.of ha, at_natE (i := 0) rfl h0, (by show 1 ≤ sizeLine; decide), fun p1 n1 => ?_⟩
    have s1 : Same H (upd H p1 (.lst [x0])) := same_upd n1
    refine ⟨_, rfl, p1, a, _, _, rfl, rfl, upd_same, s1 _ _ ha, small (by show 1 + _ ≤ _; omega), fun p2 n2 => ?_⟩
    have s2 := same_upd (o := .lst ([x0] ++ xs)) n2
    have ha2 := s2 _ _ (s1 _ _ ha)
    have hp0 : 0 < n := by
      rw [← hn]
      exact (List.getElem?_eq_some_iff.mp h0).1
    refine ⟨_, rfl, _, rfl, a, _, rfl, .inl (SqL.of ha2), _, _, rfl, rfl, a, _, _, _, rfl, rfl, SqL.of ha2, at_natE (i := n - 1) (by rw [hn]; omega) hl, (by show 1 ≤ sizeLine; decide), fun p3 n3 => ?_⟩
    have s3 := same_upd (o := .lst [xn]) n3
    refine ⟨p2, p3, _, _, rfl, rfl, s3 _ _ upd_same, upd_same, small ?_, fun p4 n4 => ?_⟩
    · rw [List.length_append]
      show 1 + _ + 1 ≤ _
      omega
    · have s4 := same_upd (o := .lst ([x0] ++ xs ++ [xn])) n4
      exact q _ p4 (((s1.trans s2).trans s3).trans s4) (((s1.trans s2).trans s3).free n4) upd_same
def sp_row_of (K : PySem.W.Frag) : Sp := fun vs H Q _ => ∃ (w : Nat) (a : Addr) (xs : List V) (r : Nat), vs = [.int w, .ref a, .int r] ∧ SqL K H a xs ∧ w ≤ 65536 ∧ ∀ p, H p = none → Q (.ref p) (upd H p (.lst ((xs.drop (r * w)).take w)))
theorem sp_row_of_len {K : PySem.W.Frag} {vs : List V} {H : Hp} {Q : VK} {E : XK} (h : sp_row_of K vs H Q E) : vs.length = 3 := by
  obtain ⟨_, _, _, _, rfl, _⟩ := h
  rfl
/-! row_of: slots 0 w, 1 x, 2 r -/
theorem ok_row_of {f : Addr} {fd : FuncData} (F : Fun K "row_of" "row_of" s_row_of f fd)
     : FnOk P w K mg base CX0 1 f fd ["w", "x", "r"] (sp_row_of K) := by
  refine F.ok sc_row_of (fun vs H Q E h => ?_) (fun cdv A outer s H vs Q E hr h => ?_)
  · exact sp_row_of_len h
  · refine ⟨_, (pss_one (ps_ret (pe_slice sl_list (pv 1) (po_some (pe_op op_mul (pv 2) (pv 0))) (po_some (pe_op op_mul (pe_op op_add (pv 2) pe_int) (pv 0)))))), ?_⟩
    obtain ⟨w, a, xs, r, rfl, hS, hw, q⟩ := h
    refine ⟨_, rfl, _, rfl, _, rfl, _, _, rfl, rfl, .inr ⟨by omega, by omega⟩, _, rfl, _, rfl, _, _, rfl, rfl, _, rfl, _, _, rfl, rfl, .inr ⟨by omega, by omega⟩, _, rfl, a, xs, rfl, hS, fun p np => ?_⟩
    have e : cutV xs (some ((r : Int) * (w : Int))) (some (((r : Int) + 1) * (w : Int))) = (xs.drop (r * w)).take w := by
      have e1 : (r : Int) * (w : Int) = ((r * w : Nat) : Int) := (Int.natCast_mul r w).symm
      have e2 : ((r : Int) + 1) * (w : Int) = ((r * w + w : Nat) : Int) := by
        rw [Int.add_mul, Int.one_mul, Int.natCast_add, Int.natCast_mul]
      rw [e1, e2, cutV_nat, Nat.add_sub_cancel_left]
    rw [e]
    exact q p np
def sp_rows_with_rim (K : PySem.W.Frag) : Sp := fun vs H Q _ => ∃ (w : Nat) (a : Addr) (n : Nat) (g : Nat → Nat → Int), vs = [.int w, .ref a] ∧ SqL K H a ((EvM.eachI w n g).map V.int) ∧ 1 ≤ w ∧ w ≤ 256 ∧ 1 ≤ n ∧ n ≤ 256 ∧
  ∀ (H' : Hp) (R : Addr) (rows : List V), Same H H' → H R = none → H' R = some (.lst rows) → (∀ j, j < n + 2 → ∃ p, rows[j]? = some (.ref p) ∧ H' p = some (.lst ((EvM.rimI w fun c => g c (min (n - 1) (j - 1))).map V.int))) → Q (.ref R) H'
theorem sp_rows_with_rim_len {K : PySem.W.Frag} {vs : List V} {H : Hp} {Q : VK} {E : XK} (h : sp_rows_with_rim K vs H Q E) : vs.length = 2 := by
  obtain ⟨_, _, _, _, rfl, _⟩ := h
  rfl
/-! rows_with_rim: slots 0 w, 1 x, 2 r -/
theorem ok_rows_with_rim {f : Addr} {fd : FuncData} (F : Fun K "rows_with_rim" "rows_with_rim" s_rows_with_rim f fd)
    (g_range : mg "range" = none)
    (g_len : mg "len" = none)
    {f_with_rim : Addr} {fd_with_rim : FuncData} (G_with_rim : FnOk P w K mg base CX0 1 f_with_rim fd_with_rim ["line"] (sp_with_rim K)) (m_with_rim : mg "with_rim" = some (.ref f_with_rim)) (k_with_rim : PySem.W.keepIn K (.ref f_with_rim) = true) (b_with_rim : Binds K fd_with_rim ["line"] [])
    {f_row_of : Addr} {fd_row_of : FuncData} (G_row_of : FnOk P w K mg base CX0 1 f_row_of fd_row_of ["w", "x", "r"] (sp_row_of K)) (m_row_of : mg "row_of" = some (.ref f_row_of)) (k_row_of : PySem.W.keepIn K (.ref f_row_of) = true) (b_row_of : Binds K fd_row_of ["w", "x", "r"] []) : FnOk P w K mg base CX0 2 f fd ["w", "x"] (sp_rows_with_rim K) := by
  refine F.ok sc_rows_with_rim (fun vs H Q E h => ?_) (fun cdv A outer s H vs Q E hr h => ?_)
  · exact sp_rows_with_rim_len h
  · refine ⟨_, (pss_one (ps_ret (pe_call G_with_rim (hr.mono (by decide)) (by rfl) m_with_rim k_with_rim b_with_rim .nil pass0 (pa_cons (pe_lc (own := [("r", 2)]) (g := (gName 2)) (tt := tYes) (by rfl) sc_rows_with_rim.nd (pi_range1 (by rfl) g_range (pa_cons (pe_op op_fdiv (pe_callB call_len_seq (by rfl) g_len PySem.boot_len (pa_cons (pv 1) pa_nil)) (pv 0)) pa_nil)) (blkOk_by (own := [("r", 2)]) (N := ["w", "x", "r"]) (sc := defScope s_rows_with_rim) (by decide +kernel)) (fun _ _ _ _ _ => (pg_name (i := 2) sc_rows_with_rim.nd rfl (Or.inl rfl))) (fun _ _ _ _ _ => pts_nil) (fun _ _ _ _ _ => (pe_call G_with_rim (hr.mono (by decide)) (by rfl) m_with_rim k_with_rim b_with_rim .nil pass0 (pa_cons (pe_call G_row_of (hr.mono (by decide)) (by rfl) m_row_of k_row_of b_row_of .nil pass0 (pa_cons (pv 0) (pa_cons (pv 1) (pa_cons (pv 2) pa_nil)))) pa_nil)))) pa_nil)))), ?_⟩
    obtain ⟨W, a, n, g, rfl, hS, hw1, hw2, hn1, hn2, q⟩ := h
    refine ⟨_, rfl, a, _, rfl, .inl hS, _, rfl, _, _, rfl, rfl, ⟨by omega, by omega⟩, (n : Int), congrArg (fun z => [V.int z]) (each_rows hw1 g), by omega, by omega, fun D nD => ?_⟩
    rw [Int.toNat_natCast]
    refine lc_range (lo := 0) (n := n) (fun r H' => ∃ rs : List V, Same H H' ∧ H' D = some (.lst rs) ∧ rs.length = r ∧ ∀ j, j < r → ∃ p, rs[j]? = some (.ref p) ∧ p ≠ D ∧ H' p = some (.lst ((EvM.rimI W fun c => g c j).map V.int)))
      ⟨[], same_upd nD, upd_same, rfl, fun j hj => absurd hj (Nat.not_lt_zero j)⟩ ?_ ?_
    · rintro r H1 hr ⟨rs, s1, hD, hlr, hall⟩
      have e0 : (0 : Int) + (r : Nat) = (r : Nat) := Int.zero_add _
      rw [e0]
      refine ⟨rfl, _, rfl, _, rfl, _, rfl, W, a, _, r, rfl, s1.seq hS, by omega, fun p np => ?_⟩
      rw [each_row hr]
      have s2 : Same H1 (upd H1 p (.lst (((List.range W).map fun c => g c r).map V.int))) := same_upd np
      refine ⟨p, _, W, .int (g 0 r), .int (g (W - 1) r), rfl, upd_same, by rw [List.length_map, List.length_map, List.length_range], by omega, map_range_get (by omega), map_range_get (by omega), fun H3 p3 s3 n3 hp3 => ?_⟩
      have s4 := s2.trans s3
      have n3' : H1 p3 = none := s2.free n3
      have ne3 : p3 ≠ D := (ne_of_none hD n3').symm
      refine ⟨rs, s4 _ _ hD, smallS (by omega), rs ++ [.ref p3], fun b o e => ?_, upd_same, by rw [List.length_append, hlr]; rfl, fun j hj => ?_⟩
      · rw [upd_ne (ne_of_none e nD)]
        exact s4 _ _ (s1 _ _ e)
      · by_cases hjr : j < r
        · obtain ⟨u, hu, nu, hu2⟩ := hall j hjr
          refine ⟨u, ?_, nu, ?_⟩
          · rw [List.getElem?_append_left (by omega)]
            exact hu
          · rw [upd_ne nu]
            exact s4 _ _ hu2
        · have ej : j = r := by omega
          subst ej
          refine ⟨p3, ?_, ne3, ?_⟩
          · rw [List.getElem?_append_right (by omega), hlr, Nat.sub_self]
            rfl
          · rw [upd_ne ne3, hp3]
            unfold EvM.rimI
            rw [List.map_append]
            rfl
    · rintro H1 ⟨rs, s1, hD, hlr, hall⟩
      obtain ⟨u0, g0, _⟩ := hall 0 (by omega)
      obtain ⟨un, gn, _⟩ := hall (n - 1) (by omega)
      refine ⟨D, rs, n, .ref u0, .ref un, rfl, hD, hlr, by omega, g0, gn, fun H2 R s2 nR hR => ?_⟩
      have s3 := s1.trans s2
      refine q H2 R _ s3 (s1.free nR) hR fun j hj => ?_
      obtain ⟨p, hp, _, hp2⟩ := hall (min (n - 1) (j - 1)) (by omega)
      exact ⟨p, by rw [EvM.rim_get hlr g0 gn hj]; exact hp, s2 _ _ hp2⟩
def sp_is_page (K : PySem.W.Frag) : Sp := fun vs H Q _ => ∃ (w : Int) (a : Addr) (xs : List Int), vs = [.int w, .ref a] ∧ SqL K H a (xs.map V.int) ∧ 0 ≤ w ∧ Q (.bl (EvM.isPage w xs.length)) H
theorem sp_is_page_len {K : PySem.W.Frag} {vs : List V} {H : Hp} {Q : VK} {E : XK} (h : sp_is_page K vs H Q E) : vs.length = 2 := by
  obtain ⟨_, _, _, rfl, _⟩ := h
  rfl
/-! is_page: slots 0 w, 1 x, 2 h -/
theorem ok_is_page {f : Addr} {fd : FuncData} (F : Fun K "is_page" "is_page" s_is_page f fd)
    (g_len : mg "len" = none)
    {t_MOST_SIDE : Tok} (c_MOST_SIDE : mg "MOST_SIDE" = some (.int (256) t_MOST_SIDE)) : FnOk P w K mg base CX0 1 f fd ["w", "x"] (sp_is_page K) := by
  refine F.ok sc_is_page (fun vs H Q E h => ?_) (fun cdv A outer s H vs Q E hr h => ?_)
  · exact sp_is_page_len h
  · refine ⟨_, (pss_cons (ps_if (PW.pt (pw_or (pt_cmpR op_lt (pv 0) pe_int (nomark _)) (pw_or1 (pt_cmpR op_gt (pv 0) (pe_glob (v := .int (256)) (by rfl) c_MOST_SIDE ⟨_, rfl⟩) (nomark _))))) (pss_one (ps_ret pe_bl)) pss_nil)
      (pss_cons (ps_set (i := 2) sc_is_page.nd rfl (Or.inl rfl) (pe_op op_fdiv (pe_callB call_len_seq (by rfl) g_len PySem.boot_len (pa_cons (pv 1) pa_nil)) (pv 0)))
      (pss_one (ps_ret (pe_and (pe_cmpR op_ge (pv 2) pe_int (nomark _)) (pe_one (pe_cmpR op_le (pv 2) (pe_glob (v := .int (256)) (by rfl) c_MOST_SIDE ⟨_, rfl⟩) (nomark _)))))))), ?_⟩
    obtain ⟨w, a, xs, rfl, hS, h0, q⟩ := h
    have no : ¬ (1 ≤ w ∧ w ≤ 256) → Q (.bl false) H := fun z => by
      have e : EvM.isPage w xs.length = false := by
        cases e : EvM.isPage w xs.length with
        | false => rfl
        | true => exact absurd ((EvM.isPage_iff h0).mp e).1 z
      rw [e] at q
      exact q
    refine ⟨_, rfl, _, _, rfl, rfl, _, rfl, ite2 (fun e => ?_) (fun e => ?_)⟩
    · have e : w < 1 := of_decide_eq_true e
      exact iteT (no (by omega))
    · have e : ¬ w < 1 := fun z => e (decide_eq_true z)
      refine ⟨_, rfl, _, _, rfl, rfl, _, rfl, ite2 (fun e2 => ?_) (fun e2 => ?_)⟩
      · have e2 : 256 < w := of_decide_eq_true e2
        exact no (by omega)
      · have e2 : ¬ 256 < w := fun z => e2 (decide_eq_true z)
        refine ⟨_, rfl, a, _, rfl, .inl hS, _, rfl, _, _, rfl, rfl, ⟨by omega, by omega⟩, ?_⟩
        rw [List.length_map]
        have key : EvM.isPage w xs.length = true ↔ 1 ≤ (xs.length : Int) / w ∧ (xs.length : Int) / w ≤ 256 := by
          rw [EvM.isPage_iff h0]
          exact ⟨fun z => z.2, fun z => ⟨by omega, z⟩⟩
        refine ⟨_, rfl, _, _, rfl, rfl, _, rfl, ite2 (fun e3 => ?_) (fun e3 => ?_)⟩
        · have e3 : 1 ≤ (xs.length : Int) / w := of_decide_eq_true e3
          refine ⟨_, rfl, _, _, rfl, rfl, ?_⟩
          have e4 : EvM.isPage w xs.length = decide ((xs.length : Int) / w ≤ 256) := by
            rw [Bool.eq_iff_iff, key, decide_eq_true_eq]
            exact ⟨fun z => z.2, fun z => ⟨e3, z⟩⟩
          rw [e4] at q
          exact q
        · have e3 : ¬ 1 ≤ (xs.length : Int) / w := fun z => e3 (decide_eq_true z)
          have e4 : EvM.isPage w xs.length = false := by
            cases e : EvM.isPage w xs.length with
            | false => rfl
            | true => exact absurd (key.mp e).1 e3
          rw [e4] at q
          exact q
def sp_held (K : PySem.W.Frag) : Sp := fun vs H Q _ => ∃ (z a b : Int), vs = [.int z, .int a, .int b] ∧ Q (.int (max a (min b z))) H
theorem sp_held_len {K : PySem.W.Frag} {vs : List V} {H : Hp} {Q : VK} {E : XK} (h : sp_held K vs H Q E) : vs.length = 3 := by
  obtain ⟨_, _, _, rfl, _⟩ := h
  rfl
theorem held_eq (z a b : Int) : (if (if b < z then b else z) > a then (if b < z then b else z) else a) = max a (min b z) := by
  split <;> split <;> omega
/-! held: slots 0 number, 1 least, 2 most -/
theorem ok_held {f : Addr} {fd : FuncData} (F : Fun K "held" "held" s_held f fd)
    (g_max : mg "max" = none)
    (g_min : mg "min" = none) : FnOk P w K mg base CX0 1 f fd ["number", "least", "most"] (sp_held K) := by
  refine F.ok sc_held (fun vs H Q E h => ?_) (fun cdv A outer s H vs Q E hr h => ?_)
  · exact sp_held_len h
  · refine ⟨_, (pss_one (ps_ret (pe_callB (call_max2 rfl) (by rfl) g_max (by decide +kernel) (pa_cons (pv 1) (pa_cons (pe_callB (call_min2 rfl) (by rfl) g_min (by decide +kernel) (pa_cons (pv 0) (pa_cons (pv 2) pa_nil))) pa_nil))))), ?_⟩
    obtain ⟨z, a, b, rfl, q⟩ := h
    refine ⟨_, rfl, _, rfl, _, rfl, _, _, rfl, _, _, rfl, ?_⟩
    rw [held_eq]
    exact q
def sp_sharper_row (K : PySem.W.Frag) : Sp := fun vs H Q _ => ∃ (k : Int) (a0 a1 a2 : Addr) (w : Nat) (A B C : Nat → Int), vs = [.int k, .ref a0, .ref a1, .ref a2] ∧ SqL K H a0 ((EvM.rimI w A).map V.int) ∧ SqL K H a1 ((EvM.rimI w B).map V.int) ∧ SqL K H a2 ((EvM.rimI w C).map V.int) ∧ 1 ≤ w ∧ w ≤ 256 ∧ 0 ≤ k ∧ k ≤ 256 ∧
  ∀ (H' : Hp) (p : Addr), Same H H' → H p = none → H' p = some (.lst (((List.range w).map fun c => EvM.sharpI k (B c) (B (c - 1) + B (min (w - 1) (c + 1)) + A c + C c)).map V.int)) → Q (.ref p) H'
theorem sp_sharper_row_len {K : PySem.W.Frag} {vs : List V} {H : Hp} {Q : VK} {E : XK} (h : sp_sharper_row K vs H Q E) : vs.length = 4 := by
  obtain ⟨_, _, _, _, _, _, _, _, rfl, _⟩ := h
  rfl
theorem rim_at {w c j : Nat} {f : Nat → Int} {z : Int} (hw : 1 ≤ w) (hj : j < w + 2) (hz : z = (j : Int)) (hc : min (w - 1) (j - 1) = c) : atI ((EvM.rimI w f).map V.int) z = some (.int (f c)) := by
  subst hc
  exact at_natE hz (int_get (EvM.rimI_get hw hj))
/-! sharper_row: slots 0 k, 1 above, 2 row, 3 below, 4 sharper, 5 c, 6 beside -/
theorem ok_sharper_row {f : Addr} {fd : FuncData} (F : Fun K "sharper_row" "sharper_row" s_sharper_row f fd)
    (g_range : mg "range" = none)
    (g_len : mg "len" = none)
    {t_WHITE : Tok} (c_WHITE : mg "WHITE" = some (.int (255) t_WHITE))
    {f_held : Addr} {fd_held : FuncData} (G_held : FnOk P w K mg base CX0 1 f_held fd_held ["number", "least", "most"] (sp_held K)) (m_held : mg "held" = some (.ref f_held)) (k_held : PySem.W.keepIn K (.ref f_held) = true) (b_held : Binds K fd_held ["number", "least", "most"] []) : FnOk P w K mg base CX0 2 f fd ["k", "above", "row", "below"] (sp_sharper_row K) := by
  refine F.ok sc_sharper_row (fun vs H Q E h => ?_) (fun cdv A outer s H vs Q E hr h => ?_)
  · exact sp_sharper_row_len h
  · refine ⟨_, (pss_cons (ps_set (i := 4) sc_sharper_row.nd rfl (Or.inl rfl) (pe_lst pa_nil))
      (pss_cons (ps_for PassesOwn.never rfl (pi_range2 (by rfl) g_range (pa_cons pe_int (pa_cons (pe_op op_sub (pe_callB call_len_seq (by rfl) g_len PySem.boot_len (pa_cons (pv 2) pa_nil)) pe_int) pa_nil))) (pg_name (i := 5) sc_sharper_row.nd rfl (Or.inl rfl))
      (pss_cons (ps_set (i := 6) sc_sharper_row.nd rfl (Or.inl rfl) (pe_op op_add (pe_op op_add (pe_op op_add (pe_ix ix_list (pv 2) (pe_op op_sub (pv 5) pe_int) (fun _ _ => rfl)) (pe_ix ix_list (pv 2) (pe_op op_add (pv 5) pe_int) (fun _ _ => rfl))) (pe_ix ix_list (pv 1) (pv 5) (fun _ _ => rfl))) (pe_ix ix_list (pv 3) (pv 5) (fun _ _ => rfl))))
      (pss_one (ps_expr (pe_bm PySem.F.plainAttrs_list PySem.F.slot_list_append PySem.F.type_list_append mt_append (pv 4) (pa_cons (pe_call G_held (hr.mono (by decide)) (by rfl) m_held k_held b_held .nil pass0 (pa_cons (pe_op op_add (pe_ix ix_list (pv 2) (pv 5) (fun _ _ => rfl)) (pe_op op_fdiv (pe_op op_add (pe_op op_mul (pv 0) (pe_op op_sub (pe_op op_mul pe_int (pe_ix ix_list (pv 2) (pv 5) (fun _ _ => rfl))) (pv 6))) pe_int) pe_int)) (pa_cons pe_int (pa_cons (pe_glob (v := .int (255)) (by rfl) c_WHITE ⟨_, rfl⟩) pa_nil)))) pa_nil))))))
      (pss_one (ps_ret (pv 4))))), ?_⟩
    obtain ⟨k, a0, a1, a2, w, A, B, C, rfl, h0, h1, h2, hw1, hw2, hk0, hk1, q⟩ := h
    refine ⟨by decide, fun o no => ?_⟩
    have s0 : Same H (upd H o (.lst [])) := same_upd no
    have ln : (((((EvM.rimI w B).map V.int).length : Nat) : Int) - 1) = ((w + 1 : Nat) : Int) := by
      rw [List.length_map, EvM.rimI_len]
      omega
    refine ⟨_, rfl, a1, _, rfl, .inl (s0.seq h1), _, _, rfl, rfl, 1, ((w + 1 : Nat) : Int), congrArg (fun z => [V.int 1, V.int z]) ln, ⟨by decide, by decide, by omega, by omega⟩, ?_⟩
    rw [show (((w + 1 : Nat) : Int) - 1).toNat = w by omega]
    refine for_range (lo := 1) (n := w) (fun c σ H' => ∃ v5 v6 : Option V, σ = [some (.int k), some (.ref a0), some (.ref a1), some (.ref a2), some (.ref o), v5, v6] ∧ Same H H' ∧ H' o = some (.lst (((List.range c).map fun c => EvM.sharpI k (B c) (B (c - 1) + B (min (w - 1) (c + 1)) + A c + C c)).map V.int)))
      ⟨none, none, rfl, s0, upd_same⟩ ?_ ?_
    · rintro c σ H1 hc ⟨v5, v6, rfl, s1, ho⟩
      have e0 : (1 : Int) + (c : Nat) = ((c + 1 : Nat) : Int) := by omega
      rw [e0]
      have m0 := s1.seq h0
      have m1 := s1.seq h1
      have m2 := s1.seq h2
      refine ⟨_, rfl, _, rfl, _, _, rfl, rfl, a1, _, _, _, rfl, rfl, m1, rim_at (c := c - 1) (j := c) hw1 (by omega) (by omega) (by omega), _, rfl, _, rfl, _, _, rfl, rfl, a1, _, _, _, rfl, rfl, m1, rim_at (c := min (w - 1) (c + 1)) (j := c + 2) hw1 (by omega) (by omega) (by omega), _, _, rfl, rfl,
        _, rfl, _, rfl, a0, _, _, _, rfl, rfl, m0, rim_at (c := c) (j := c + 1) hw1 (by omega) rfl (by omega), _, _, rfl, rfl, _, rfl, _, rfl, a2, _, _, _, rfl, rfl, m2, rim_at (c := c) (j := c + 1) hw1 (by omega) rfl (by omega), _, _, rfl, rfl, ?_⟩
      refine ⟨_, rfl, .inl ⟨rfl, _, SqL.of ho⟩, _, rfl, _, rfl, a1, _, _, _, rfl, rfl, m1, rim_at (c := c) (j := c + 1) hw1 (by omega) rfl (by omega), _, rfl, _, rfl, _, rfl, a1, _, _, _, rfl, rfl, m1, rim_at (c := c) (j := c + 1) hw1 (by omega) rfl (by omega), _, _, rfl, rfl, .inl ⟨by decide, by decide⟩, _, rfl, _, _, rfl, rfl, _, _, rfl, rfl, .inl ⟨by omega, by omega⟩, _, _, rfl, rfl, _, _, rfl, rfl, ⟨by decide, by decide⟩, _, _, rfl, rfl, _, 0, 255, rfl, ?_⟩
      refine ⟨o, _, _, rfl, rfl, ho, smallS ?_, some (.int ((c + 1 : Nat) : Int)), some (.int (B (c - 1) + B (min (w - 1) (c + 1)) + A c + C c)), rfl, fun b x e => ?_, ?_⟩
      · rw [List.length_map, List.length_map, List.length_range]
        omega
      · rw [upd_ne (ne_of_none e no)]
        exact s1 _ _ e
      · rw [upd_same, range_more _ c, List.map_append]
        rfl
    · rintro σ H1 ⟨v5, v6, rfl, s1, ho⟩
      exact ⟨_, rfl, q _ o s1 no ho⟩
def sp_li_sharper (K : PySem.W.Frag) : Sp := fun vs H Q _ => ∃ (w : Int) (k : Int) (a_x : Addr) (x : List Int), vs = [.int w, .int k, .ref a_x] ∧ SqL K H a_x (x.map V.int) ∧ x.length ≤ 70000 ∧ PySh55.li_sharper_asked w k x = true ∧
  ∀ (H' : Hp) (p : Addr), H' p = some (.lst ((PySh55.li_sharper w k x).map V.int)) → Q (.ref p) H'
theorem sp_li_sharper_len {K : PySem.W.Frag} {vs : List V} {H : Hp} {Q : VK} {E : XK} (h : sp_li_sharper K vs H Q E) : vs.length = 3 := by
  obtain ⟨_, _, _, _, rfl, _⟩ := h
  rfl
/-! li_sharper: slots 0 w, 1 k, 2 x, 3 rows, 4 sharper, 5 r -/
theorem ok_li_sharper {f : Addr} {fd : FuncData} (F : Fun K "li_sharper" "li_sharper" s_li_sharper f fd)
    (g_range : mg "range" = none)
    (g_len : mg "len" = none)
    {t_WHOLE : Tok} (c_WHOLE : mg "WHOLE" = some (.int (256) t_WHOLE))
    {t_OUT_OF_RANGE : Tok} (c_OUT_OF_RANGE : mg "OUT_OF_RANGE" = some (.int (-2) t_OUT_OF_RANGE))
    {f_sharper_row : Addr} {fd_sharper_row : FuncData} (G_sharper_row : FnOk P w K mg base CX0 2 f_sharper_row fd_sharper_row ["k", "above", "row", "below"] (sp_sharper_row K)) (m_sharper_row : mg "sharper_row" = some (.ref f_sharper_row)) (k_sharper_row : PySem.W.keepIn K (.ref f_sharper_row) = true) (b_sharper_row : Binds K fd_sharper_row ["k", "above", "row", "below"] [])
    {f_rows_with_rim : Addr} {fd_rows_with_rim : FuncData} (G_rows_with_rim : FnOk P w K mg base CX0 2 f_rows_with_rim fd_rows_with_rim ["w", "x"] (sp_rows_with_rim K)) (m_rows_with_rim : mg "rows_with_rim" = some (.ref f_rows_with_rim)) (k_rows_with_rim : PySem.W.keepIn K (.ref f_rows_with_rim) = true) (b_rows_with_rim : Binds K fd_rows_with_rim ["w", "x"] [])
    {f_is_page : Addr} {fd_is_page : FuncData} (G_is_page : FnOk P w K mg base CX0 1 f_is_page fd_is_page ["w", "x"] (sp_is_page K)) (m_is_page : mg "is_page" = some (.ref f_is_page)) (k_is_page : PySem.W.keepIn K (.ref f_is_page) = true) (b_is_page : Binds K fd_is_page ["w", "x"] []) : FnOk P w K mg base CX0 3 f fd ["w", "k", "x"] (sp_li_sharper K) := by
  refine F.ok sc_li_sharper (fun vs H Q E h => ?_) (fun cdv A outer s H vs Q E hr h => ?_)
  · exact sp_li_sharper_len h
  · refine ⟨_, (pss_cons (ps_if (PW.pt (pw_or (pt_not (pt_val (pe_call G_is_page (hr.mono (by decide)) (by rfl) m_is_page k_is_page b_is_page .nil pass0 (pa_cons (pv 0) (pa_cons (pv 2) pa_nil))))) (pw_or1 (pt_cmpR op_gt (pv 1) (pe_glob (v := .int (256)) (by rfl) c_WHOLE ⟨_, rfl⟩) (nomark _))))) (pss_one (ps_ret (pe_lst (pa_cons (pe_glob (v := .int (-2)) (by rfl) c_OUT_OF_RANGE ⟨_, rfl⟩) pa_nil)))) pss_nil)
      (pss_cons (ps_set (i := 3) sc_li_sharper.nd rfl (Or.inl rfl) (pe_call G_rows_with_rim (hr.mono (by decide)) (by rfl) m_rows_with_rim k_rows_with_rim b_rows_with_rim .nil pass0 (pa_cons (pv 0) (pa_cons (pv 2) pa_nil))))
      (pss_cons (ps_set (i := 4) sc_li_sharper.nd rfl (Or.inl rfl) (pe_lst pa_nil))
      (pss_cons (ps_for PassesOwn.never rfl (pi_range1 (by rfl) g_range (pa_cons (pe_op op_fdiv (pe_callB call_len_seq (by rfl) g_len PySem.boot_len (pa_cons (pv 2) pa_nil)) (pv 0)) pa_nil)) (pg_name (i := 5) sc_li_sharper.nd rfl (Or.inl rfl))
      (pss_one (ps_expr (pe_bm PySem.F.plainAttrs_list PySem.F.slot_list_extend PySem.F.type_list_extend mt_extend (pv 4) (pa_cons (pe_call G_sharper_row (hr.mono (by decide)) (by rfl) m_sharper_row k_sharper_row b_sharper_row .nil pass0 (pa_cons (pv 1) (pa_cons (pe_ix ix_list (pv 3) (pv 5) (fun _ _ => rfl)) (pa_cons (pe_ix ix_list (pv 3) (pe_op op_add (pv 5) pe_int) (fun _ _ => rfl)) (pa_cons (pe_ix ix_list (pv 3) (pe_op op_add (pv 5) pe_int) (fun _ _ => rfl)) pa_nil))))) pa_nil)))))
      (pss_one (ps_ret (pe_op op_cat (pe_lst (pa_cons pe_int pa_nil)) (pv 4)))))))), ?_⟩
    obtain ⟨w, k, a, x, rfl, hS, hlen, hask, q⟩ := h
    obtain ⟨h0, h1, hb, hrows⟩ := EvM.sharper_asked hask
    have bad : ¬ (EvM.isPage w x.length = true ∧ k ≤ 256) → ∀ p, H p = none → Q (.ref p) (upd H p (.lst [.int (-2)])) := fun z p hp => q _ p (by
      rw [upd_same, EvM.sharper_bad h0 h1 z]
      rfl)
    refine ⟨_, rfl, _, rfl, w, a, x, rfl, hS, h0, _, rfl, ite2 (fun e => ?_) (fun e => ?_)⟩
    · have e1 : ¬ EvM.isPage w x.length = true := fun z => by
        rw [z] at e
        cases e
      exact iteT ⟨by decide, bad fun z => e1 z.1⟩
    · have hp : EvM.isPage w x.length = true := by
        cases z : EvM.isPage w x.length with
        | true => rfl
        | false =>
          rw [z] at e
          exact absurd rfl e
      refine ⟨_, rfl, _, _, rfl, rfl, _, rfl, ite2 (fun e2 => ?_) (fun e2 => ?_)⟩
      · have e2 : 256 < k := of_decide_eq_true e2
        exact ⟨by decide, bad fun z => absurd z.2 (by omega)⟩
      · have e2 : ¬ 256 < k := fun z => e2 (decide_eq_true z)
        have hl := hrows ⟨hp, by omega⟩
        have pg := EvM.isPage_nat hp
        have ew : w = (w.toNat : Int) := by omega
        have ek : ((k.toNat : Nat) : Int) = k := by omega
        have goal := EvM.sharper_ok h0 h1 ⟨hp, by omega⟩
        rw [EvM.sharper_list hb.nn, ek] at goal
        rw [goal] at q
        rw [EvM.page_eq (by omega) hl] at hS
        generalize EvM.pix w.toNat x = g at hS q
        generalize hn : x.length / w.toNat = n at hS q pg
        clear hl hrows goal bad hask hlen hp
        generalize w.toNat = W at *
        subst ew
        refine ⟨_, rfl, _, rfl, W, a, n, g, rfl, hS, by omega, by omega, by omega, by omega, fun H2 R rows s3 nR hR hrow => ?_⟩
        refine ⟨by decide, fun o no => ?_⟩
        have hS3 := (s3.trans (same_upd (o := .lst []) no)).seq hS
        refine ⟨_, rfl, a, _, rfl, .inl hS3, _, rfl, _, _, rfl, rfl, ⟨by omega, by omega⟩, (n : Int), congrArg (fun z => [V.int z]) (each_rows (by omega) g), by omega, by omega, ?_⟩
        rw [Int.toNat_natCast]
        refine for_range (lo := 0) (n := n) (fun r σ H' => ∃ v5 : Option V, σ = [some (.int W), some (.int k), some (.ref a), some (.ref R), some (.ref o), v5] ∧ Same H2 H' ∧ H' o = some (.lst ((EvM.eachI W r fun c r => EvM.sharpI k (g c r) (EvM.fourI W n g c r)).map V.int)))
          ⟨none, rfl, same_upd no, upd_same⟩ ?_ ?_
        · rintro r σ H3 hr ⟨v5, rfl, s4, ho⟩
          have e0 : (0 : Int) + (r : Nat) = (r : Nat) := Int.zero_add _
          rw [e0]
          obtain ⟨q0, r0, c0⟩ := hrow r (by omega)
          obtain ⟨q1, r1, c1⟩ := hrow (r + 1) (by omega)
          obtain ⟨q2, r2, c2⟩ := hrow (r + 2) (by omega)
          rw [show min (n - 1) (r - 1) = r - 1 by omega] at c0
          rw [show min (n - 1) (r + 1 - 1) = r by omega] at c1
          rw [show min (n - 1) (r + 2 - 1) = min (n - 1) (r + 1) by omega] at c2
          have hR3 : SqL K H3 R _ := SqL.of (s4 _ _ hR)
          refine ⟨_, rfl, .inl ⟨rfl, _, SqL.of ho⟩, _, rfl, _, rfl, _, rfl, R, _, _, _, rfl, rfl, hR3, at_natE rfl r0, _, rfl, _, rfl, _, _, rfl, rfl, R, _, _, _, rfl, rfl, hR3, at_natE (i := r + 1) rfl r1, _, rfl, _, rfl, _, _, rfl, rfl, R, _, _, _, rfl, rfl, hR3, at_natE (i := r + 2) rfl r2,
            k, q0, q1, q2, W, (fun c => g c (r - 1)), (fun c => g c r), (fun c => g c (min (n - 1) (r + 1))), rfl, SqL.of (s4 _ _ c0), SqL.of (s4 _ _ c1), SqL.of (s4 _ _ c2), by omega, by omega, by omega, by omega, fun H4 p s5 np hp => ?_⟩
          have ho4 := s5 _ _ ho
          refine ⟨o, p, _, _, rfl, rfl, ho4, hp, small ?_, some (.int (r : Nat)), rfl, fun b x e => ?_, ?_⟩
          · rw [List.length_map, List.length_map, List.length_map, List.length_range, EvM.eachI_len]
            have : r * W ≤ 256 * 256 := Nat.mul_le_mul (by omega) (by omega)
            omega
          · rw [upd_ne (ne_of_none e no)]
            exact s5 _ _ (s4 _ _ e)
          · rw [upd_same, EvM.eachI_succ, List.map_append]
            rfl
        · rintro σ H3 ⟨v5, rfl, s4, ho⟩
          refine ⟨by decide, fun u nu => ?_⟩
          have s5 := same_upd (o := .lst [.int 0]) nu
          refine ⟨_, rfl, u, o, _, _, rfl, rfl, upd_same, s5 _ _ ho, small ?_, fun v nv => q _ v ?_⟩
          · rw [List.length_map, EvM.eachI_len]
            have : n * W ≤ 256 * 256 := Nat.mul_le_mul (by omega) (by omega)
            show 1 + _ ≤ _
            omega
          · rw [upd_same]
            rfl
end
theorem all_mk {P : Program} {w : World} {K : PySem.W.Frag} {h : Heap} {mg : Str → Option Value} {fa : Addr} (X : K.In h) (G : h.Ns mainGlobals mg) (hfa : mg "li_sharper" = some (.ref fa))
    {f0 : Addr} {od0 an0 : Option Addr} {sl0 : Array (Option Value)} {oc0 kV0 dc0 pm0 cd0 ct0 : Value}
    (a0 : PySem.W.nsIn K mainGlobals "with_rim" = some (some (.ref f0))) (l0 : K.lookup f0 = some ⟨oc0, od0, .func (PySem.W.fnOf "with_rim" "with_rim" (defArgs s_with_rim) (defBody s_with_rim) (defScope s_with_rim) .none kV0 dc0 pm0 an0 cd0 ct0), sl0⟩) (q0 : PySem.W.codeIn K cd0 "with_rim" = true) (k0 : PySem.W.keepIn K (.ref f0) = true)
    {f1 : Addr} {od1 an1 : Option Addr} {sl1 : Array (Option Value)} {oc1 kV1 dc1 pm1 cd1 ct1 : Value}
    (a1 : PySem.W.nsIn K mainGlobals "row_of" = some (some (.ref f1))) (l1 : K.lookup f1 = some ⟨oc1, od1, .func (PySem.W.fnOf "row_of" "row_of" (defArgs s_row_of) (defBody s_row_of) (defScope s_row_of) .none kV1 dc1 pm1 an1 cd1 ct1), sl1⟩) (q1 : PySem.W.codeIn K cd1 "row_of" = true) (k1 : PySem.W.keepIn K (.ref f1) = true)
    {f2 : Addr} {od2 an2 : Option Addr} {sl2 : Array (Option Value)} {oc2 kV2 dc2 pm2 cd2 ct2 : Value}
    (a2 : PySem.W.nsIn K mainGlobals "rows_with_rim" = some (some (.ref f2))) (l2 : K.lookup f2 = some ⟨oc2, od2, .func (PySem.W.fnOf "rows_with_rim" "rows_with_rim" (defArgs s_rows_with_rim) (defBody s_rows_with_rim) (defScope s_rows_with_rim) .none kV2 dc2 pm2 an2 cd2 ct2), sl2⟩) (q2 : PySem.W.codeIn K cd2 "rows_with_rim" = true) (k2 : PySem.W.keepIn K (.ref f2) = true)
    {f3 : Addr} {od3 an3 : Option Addr} {sl3 : Array (Option Value)} {oc3 kV3 dc3 pm3 cd3 ct3 : Value}
    (a3 : PySem.W.nsIn K mainGlobals "is_page" = some (some (.ref f3))) (l3 : K.lookup f3 = some ⟨oc3, od3, .func (PySem.W.fnOf "is_page" "is_page" (defArgs s_is_page) (defBody s_is_page) (defScope s_is_page) .none kV3 dc3 pm3 an3 cd3 ct3), sl3⟩) (q3 : PySem.W.codeIn K cd3 "is_page" = true) (k3 : PySem.W.keepIn K (.ref f3) = true)
    {f4 : Addr} {od4 an4 : Option Addr} {sl4 : Array (Option Value)} {oc4 kV4 dc4 pm4 cd4 ct4 : Value}
    (a4 : PySem.W.nsIn K mainGlobals "held" = some (some (.ref f4))) (l4 : K.lookup f4 = some ⟨oc4, od4, .func (PySem.W.fnOf "held" "held" (defArgs s_held) (defBody s_held) (defScope s_held) .none kV4 dc4 pm4 an4 cd4 ct4), sl4⟩) (q4 : PySem.W.codeIn K cd4 "held" = true) (k4 : PySem.W.keepIn K (.ref f4) = true)
    {f5 : Addr} {od5 an5 : Option Addr} {sl5 : Array (Option Value)} {oc5 kV5 dc5 pm5 cd5 ct5 : Value}
    (a5 : PySem.W.nsIn K mainGlobals "sharper_row" = some (some (.ref f5))) (l5 : K.lookup f5 = some ⟨oc5, od5, .func (PySem.W.fnOf "sharper_row" "sharper_row" (defArgs s_sharper_row) (defBody s_sharper_row) (defScope s_sharper_row) .none kV5 dc5 pm5 an5 cd5 ct5), sl5⟩) (q5 : PySem.W.codeIn K cd5 "sharper_row" = true) (k5 : PySem.W.keepIn K (.ref f5) = true)
    {f6 : Addr} {od6 an6 : Option Addr} {sl6 : Array (Option Value)} {oc6 kV6 dc6 pm6 cd6 ct6 : Value}
    (a6 : PySem.W.nsIn K mainGlobals "li_sharper" = some (some (.ref f6))) (l6 : K.lookup f6 = some ⟨oc6, od6, .func (PySem.W.fnOf "li_sharper" "li_sharper" (defArgs s_li_sharper) (defBody s_li_sharper) (defScope s_li_sharper) .none kV6 dc6 pm6 an6 cd6 ct6), sl6⟩) (q6 : PySem.W.codeIn K cd6 "li_sharper" = true) (k6 : PySem.W.keepIn K (.ref f6) = true)
    (z_len : PySem.W.nsIn K mainGlobals "len" = some none)
    (z_max : PySem.W.nsIn K mainGlobals "max" = some none)
    (z_min : PySem.W.nsIn K mainGlobals "min" = some none)
    (z_range : PySem.W.nsIn K mainGlobals "range" = some none)
    {t_MOST_SIDE : Tok} (y_MOST_SIDE : PySem.W.nsIn K mainGlobals "MOST_SIDE" = some (some (.int (256) t_MOST_SIDE)))
    {t_OUT_OF_RANGE : Tok} (y_OUT_OF_RANGE : PySem.W.nsIn K mainGlobals "OUT_OF_RANGE" = some (some (.int (-2) t_OUT_OF_RANGE)))
    {t_WHITE : Tok} (y_WHITE : PySem.W.nsIn K mainGlobals "WHITE" = some (some (.int (255) t_WHITE)))
    {t_WHOLE : Tok} (y_WHOLE : PySem.W.nsIn K mainGlobals "WHOLE" = some (some (.int (256) t_WHOLE)))
    : ∃ fd : FuncData, (∀ (s : Shared) (us : List Value), us.length = (["w", "k", "x"] : List Str).length → BindsTo s fd ⟨us, []⟩ ((["w", "k", "x"] : List Str).zip us)) ∧ ∀ base : Heap, K.In base → base.Ns mainGlobals mg → FnOk P w K mg base CX0 3 fa fd ["w", "k", "x"] (sp_li_sharper K) := by
  have e := hfa.symm.trans (PySem.W.mg_of X G a6)
  cases e
  have F0 := fun_mk (st := s_with_rim) l0 q0 k0
  have b0 := F0.binds (ps := ["line"]) fun _ _ _ _ _ _ us hl => match us, hl with | [_], _ => rfl
  have F1 := fun_mk (st := s_row_of) l1 q1 k1
  have b1 := F1.binds (ps := ["w", "x", "r"]) fun _ _ _ _ _ _ us hl => match us, hl with | [_, _, _], _ => rfl
  have F2 := fun_mk (st := s_rows_with_rim) l2 q2 k2
  have b2 := F2.binds (ps := ["w", "x"]) fun _ _ _ _ _ _ us hl => match us, hl with | [_, _], _ => rfl
  have F3 := fun_mk (st := s_is_page) l3 q3 k3
  have b3 := F3.binds (ps := ["w", "x"]) fun _ _ _ _ _ _ us hl => match us, hl with | [_, _], _ => rfl
  have F4 := fun_mk (st := s_held) l4 q4 k4
  have b4 := F4.binds (ps := ["number", "least", "most"]) fun _ _ _ _ _ _ us hl => match us, hl with | [_, _, _], _ => rfl
  have F5 := fun_mk (st := s_sharper_row) l5 q5 k5
  have b5 := F5.binds (ps := ["k", "above", "row", "below"]) fun _ _ _ _ _ _ us hl => match us, hl with | [_, _, _, _], _ => rfl
  have F6 := fun_mk (st := s_li_sharper) l6 q6 k6
  have b6 := F6.binds (ps := ["w", "k", "x"]) fun _ _ _ _ _ _ us hl => match us, hl with | [_, _, _], _ => rfl
  refine ⟨PySem.W.fnOf "li_sharper" "li_sharper" (defArgs s_li_sharper) (defBody s_li_sharper) (defScope s_li_sharper) .none kV6 dc6 pm6 an6 cd6 ct6, fun s us hu => match us, hu with | [_, _, _], _ => .of_eq rfl, fun base _ _ => ?_⟩
  have O0 : FnOk P w K mg base CX0 1 _ _ ["line"] (sp_with_rim K) := ok_with_rim F0 (PySem.W.mg_none_of X G z_len)
  have O1 : FnOk P w K mg base CX0 1 _ _ ["w", "x", "r"] (sp_row_of K) := ok_row_of F1 
  have O2 : FnOk P w K mg base CX0 2 _ _ ["w", "x"] (sp_rows_with_rim K) := ok_rows_with_rim F2 (PySem.W.mg_none_of X G z_range) (PySem.W.mg_none_of X G z_len) O0 (PySem.W.mg_of X G a0) k0 b0 O1 (PySem.W.mg_of X G a1) k1 b1
  have O3 : FnOk P w K mg base CX0 1 _ _ ["w", "x"] (sp_is_page K) := ok_is_page F3 (PySem.W.mg_none_of X G z_len) (PySem.W.mg_of X G y_MOST_SIDE)
  have O4 : FnOk P w K mg base CX0 1 _ _ ["number", "least", "most"] (sp_held K) := ok_held F4 (PySem.W.mg_none_of X G z_max) (PySem.W.mg_none_of X G z_min)
  have O5 : FnOk P w K mg base CX0 2 _ _ ["k", "above", "row", "below"] (sp_sharper_row K) := ok_sharper_row F5 (PySem.W.mg_none_of X G z_range) (PySem.W.mg_none_of X G z_len) (PySem.W.mg_of X G y_WHITE) O4 (PySem.W.mg_of X G a4) k4 b4
  have O6 : FnOk P w K mg base CX0 3 _ _ ["w", "k", "x"] (sp_li_sharper K) := ok_li_sharper F6 (PySem.W.mg_none_of X G z_range) (PySem.W.mg_none_of X G z_len) (PySem.W.mg_of X G y_WHOLE) (PySem.W.mg_of X G y_OUT_OF_RANGE) O5 (PySem.W.mg_of X G a5) k5 b5 O2 (PySem.W.mg_of X G a2) k2 b2 O3 (PySem.W.mg_of X G a3) k3 b3
  exact O6
theorem end_li_sharper {K : PySem.W.Frag} {H : Hp} {w : Int} {k : Int} {a_x : Addr} {x : List Int} (h_x : SqL K H a_x (x.map V.int)) (hwi : (Codec.inInt (0) (4294967295) w && (Codec.inInt (0) (4294967295) k && ((Codec.inLen 0 70000 x && x.all (Codec.inInt (0) (255))) && true))) = true) (hask : PySh55.li_sharper_asked w k x = true) :
    sp_li_sharper K [.int w, .int k, .ref a_x] H (fun v H' => Dw K H' v (.list ((PySh55.li_sharper w k x).map .int))) fun _ _ _ => False := by
  obtain ⟨w_w, hwi⟩ := Bool.and_eq_true_iff.mp hwi
  obtain ⟨w_k, hwi⟩ := Bool.and_eq_true_iff.mp hwi
  obtain ⟨w_x, hwi⟩ := Bool.and_eq_true_iff.mp hwi
  obtain ⟨l_x, _⟩ := Bool.and_eq_true_iff.mp w_x
  exact ⟨w, k, _, x, rfl, h_x, (Codec.inNat_iff.mp l_x).2, hask, fun H' p hp => .lst (L2.SqL.of hp) (L2.dw_ints _)⟩
end Ev
open PySem PySem.W PyProof.Rows
set_option maxRecDepth 100000 in
set_option maxHeartbeats 8000000 in
theorem PySem.Challenge.cw_evenlight_s16_li_sharper_holds : PySem.Challenge.rw_evenlight_s16_li_sharper.Holds := by
  w_on; k_headS; (case hw => exact ⟨[.int 0, .int 0, .list []], by decide +kernel, by decide +kernel⟩)
  k_fillS
  refine L2.walk_specK (r := PySem.Challenge.rw_evenlight_s16_li_sharper) (k := 3) (CX := L2.CX0) (ps := ["w", "k", "x"]) (sp := Ev.sp_li_sharper) (by decide +kernel) rfl rfl ⟨rfl, by decide, by decide⟩ (fun w h Y => PySem.W.kIn_of Y) ?F ?S (fun _ _ _ _ z => z)
  case F =>
    intro w mg fa h Y KX G hmg
    refine' Ev.all_mk KX G hmg ?a0 ?l0 ?q0 ?k0 ?a1 ?l1 ?q1 ?k1 ?a2 ?l2 ?q2 ?k2 ?a3 ?l3 ?q3 ?k3 ?a4 ?l4 ?q4 ?k4 ?a5 ?l5 ?q5 ?k5 ?a6 ?l6 ?q6 ?k6 ?z_len ?z_max ?z_min ?z_range ?y_MOST_SIDE ?y_OUT_OF_RANGE ?y_WHITE ?y_WHOLE
    (case a0 => k_is)
    (case l0 => k_is)
    (case q0 => k_is)
    (case k0 => k_is)
    (case a1 => k_is)
    (case l1 => k_is)
    (case q1 => k_is)
    (case k1 => k_is)
    (case a2 => k_is)
    (case l2 => k_is)
    (case q2 => k_is)
    (case k2 => k_is)
    (case a3 => k_is)
    (case l3 => k_is)
    (case q3 => k_is)
    (case k3 => k_is)
    (case a4 => k_is)
    (case l4 => k_is)
    (case q4 => k_is)
    (case k4 => k_is)
    (case a5 => k_is)
    (case l5 => k_is)
    (case q5 => k_is)
    (case k5 => k_is)
    (case a6 => k_is)
    (case l6 => k_is)
    (case q6 => k_is)
    (case k6 => k_is)
    (case z_len => k_is)
    (case z_max => k_is)
    (case z_min => k_is)
    (case z_range => k_is)
    (case y_MOST_SIDE => k_is)
    (case y_OUT_OF_RANGE => k_is)
    (case y_WHITE => k_is)
    (case y_WHOLE => k_is)
  case S =>
    intro K H xs a hO hwi hask hx
    obtain ⟨a0, a1, a2, u⟩ := a
    cases hx with
    | cons h0 hx =>
    cases hx with
    | cons h1 hx =>
    cases hx with
    | cons h2 hx =>
    cases hx
    cases h0
    cases h1
    cases h2 with
    | lst hs2 ha2 =>
    have e2 := L2.ints_dw a2 _ ha2
    subst e2
    exact Ev.end_li_sharper hs2 hwi hask
#print axioms PySem.Challenge.cw_evenlight_s16_li_sharper_holds
