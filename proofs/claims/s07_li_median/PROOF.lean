import PyProof.Rows.All
import Wide.All
import OpenK.AllK
import Wide.FinOn
import Open.SpecLaws
import KE.OsGo
import HandS.ForSpec
import HandS.ForMost
import HandS.Walk
import HandS.Wide
import HandS.SortInts
import PySem.Challenge.RW_evenlight_s07_li_median
set_option Elab.async false
set_option maxRecDepth 100000
set_option maxHeartbeats 4000000
namespace EvM
/-! numbers and lists alone -/
theorem natural_iff {z : Int} {b : Nat} : Sh55Neutral.natural z b = true ↔ 0 ≤ z ∧ z < 2 ^ b := by
  unfold Sh55Neutral.natural
  rw [Bool.and_eq_true, decide_eq_true_eq, decide_eq_true_eq]
def Nn (l : List Int) : Prop := ∀ z ∈ l, 0 ≤ z
def By (l : List Int) : Prop := ∀ z ∈ l, 0 ≤ z ∧ z < 256
theorem By.nn {l : List Int} (h : By l) : Nn l := fun z hz => (h z hz).1
theorem by_of {l : List Int} (h : l.all (fun (z : Int) => Sh55Neutral.natural z 8) = true) : By l := fun z hz => by
  have := natural_iff.mp (List.all_eq_true.mp h z hz)
  exact ⟨this.1, by have h2 := this.2; simpa using h2⟩
def Wd (l : List Int) : Prop := ∀ z ∈ l, 0 ≤ z ∧ z < 65536
theorem Wd.nn {l : List Int} (h : Wd l) : Nn l := fun z hz => (h z hz).1
theorem wd_of {l : List Int} (h : l.all (fun (z : Int) => Sh55Neutral.natural z 16) = true) : Wd l := fun z hz => by
  have := natural_iff.mp (List.all_eq_true.mp h z hz)
  exact ⟨this.1, by have h2 := this.2; simpa using h2⟩
theorem nats_len (l : List Int) : (Sh55Neutral.nats l).length = l.length := by
  unfold Sh55Neutral.nats; rw [List.length_map]
theorem ints_len (l : List Nat) : (Sh55Neutral.ints l).length = l.length := by
  unfold Sh55Neutral.ints; rw [List.length_map]
theorem ints_nats {l : List Int} (h : Nn l) : Sh55Neutral.ints (Sh55Neutral.nats l) = l := by
  unfold Sh55Neutral.ints Sh55Neutral.nats
  rw [List.map_map]
  conv => rhs; rw [← List.map_id l]
  refine List.map_congr_left fun z hz => ?_
  exact Int.toNat_of_nonneg (h z hz)
theorem nats_ints (l : List Nat) : Sh55Neutral.nats (Sh55Neutral.ints l) = l := by
  unfold Sh55Neutral.ints Sh55Neutral.nats
  rw [List.map_map]
  conv => rhs; rw [← List.map_id l]
  rfl
/-- what a list of numbers that are not negative is -/
theorem Nn.eq {l : List Int} (h : Nn l) : ∃ m : List Nat, l = Sh55Neutral.ints m := ⟨_, (ints_nats h).symm⟩
theorem ints_get (l : List Nat) (i : Nat) : (Sh55Neutral.ints l)[i]? = (l[i]?).map fun (n : Nat) => (n : Int) := by
  unfold Sh55Neutral.ints; rw [List.getElem?_map]
theorem num_eq (l : List Nat) (i : Nat) : Sh55.num l i = (l[i]?).getD 0 := by
  unfold Sh55.num; rw [List.getD_eq_getElem?_getD]
end EvM
namespace EvM
/-! pages -/
def isPage (w : Int) (n : Nat) : Bool := Sh55.page w.toNat (n / w.toNat)
theorem isPage_iff {w : Int} {n : Nat} (h0 : 0 ≤ w) : isPage w n = true ↔ (1 ≤ w ∧ w ≤ 256) ∧ 1 ≤ (n : Int) / w ∧ (n : Int) / w ≤ 256 := by
  obtain ⟨m, rfl⟩ : ∃ m : Nat, w = (m : Int) := ⟨w.toNat, by omega⟩
  unfold isPage Sh55.page Sh55.among
  rw [Int.toNat_natCast]
  simp only [Bool.and_eq_true, decide_eq_true_eq]
  rw [← Int.natCast_ediv]
  omega
/-- the same in natural numbers -/
theorem isPage_nat {w : Int} {n : Nat} (h : isPage w n = true) : 1 ≤ w.toNat ∧ w.toNat ≤ 256 ∧ 1 ≤ n / w.toNat ∧ n / w.toNat ≤ 256 := by
  unfold isPage Sh55.page Sh55.among at h
  simp only [Bool.and_eq_true, decide_eq_true_eq] at h
  exact ⟨h.1.1, h.1.2, h.2.1, h.2.2⟩
/-- a place of a page -/
theorem place {w h n c r : Nat} (hl : n = w * h) (hc : c < w) (hr : r < h) : r * w + c < n := by
  have h2 := Nat.mul_le_mul_left w (show r + 1 ≤ h from hr)
  rw [Nat.mul_add, Nat.mul_one, Nat.mul_comm w r] at h2
  omega
theorem nats_get {l : List Int} {i : Nat} (h : i < l.length) : (Sh55Neutral.nats l)[i]? = some (l[i].toNat) := by
  unfold Sh55Neutral.nats
  rw [List.getElem?_map, List.getElem?_eq_getElem h]
  rfl
theorem at_eq {l : List Int} {w c r : Nat} (h : r * w + c < l.length) : Sh55.at_ w (Sh55Neutral.nats l) c r = l[r * w + c].toNat := by
  unfold Sh55.at_
  rw [num_eq, nats_get h]
  rfl
/-- of each place something, row by row; as whole numbers -/
def eachI (w h : Nat) (f : Nat → Nat → Int) : List Int := (List.range h).flatMap fun r => (List.range w).map fun c => f c r
theorem flatMap_congr' {α β : Type} {f g : α → List β} : ∀ {l : List α}, (∀ a, a ∈ l → f a = g a) → l.flatMap f = l.flatMap g
  | [], _ => rfl
  | a :: l, h => by
    rw [List.flatMap_cons, List.flatMap_cons, h a List.mem_cons_self, flatMap_congr' fun b hb => h b (List.mem_cons_of_mem _ hb)]
theorem each_ints (w h : Nat) (f : Nat → Nat → Nat) : Sh55Neutral.ints (Sh55.each w h f) = eachI w h fun c r => ((f c r : Nat) : Int) := by
  unfold Sh55Neutral.ints Sh55.each eachI
  rw [List.map_flatMap]
  refine flatMap_congr' fun r _ => ?_
  rw [List.map_map]
  rfl
theorem eachI_congr {w h : Nat} {f g : Nat → Nat → Int} (e : ∀ c r, c < w → r < h → f c r = g c r) : eachI w h f = eachI w h g := by
  unfold eachI
  refine flatMap_congr' fun r hr => List.map_congr_left fun c hc => e c r (List.mem_range.mp hc) (List.mem_range.mp hr)
theorem eachI_succ (w h : Nat) (f : Nat → Nat → Int) : eachI w (h + 1) f = eachI w h f ++ (List.range w).map fun c => f c h := by
  unfold eachI
  rw [List.range_succ, List.flatMap_append, List.flatMap_singleton]
theorem eachI_len (w h : Nat) (f : Nat → Nat → Int) : (eachI w h f).length = h * w := by
  induction h with
  | zero => simp [eachI]
  | succ h ih => rw [eachI_succ, List.length_append, ih, List.length_map, List.length_range, Nat.add_mul, Nat.one_mul]
theorem eachI_get {w h : Nat} {f : Nat → Nat → Int} {c r : Nat} (hc : c < w) (hr : r < h) : (eachI w h f)[r * w + c]? = some (f c r) := by
  induction h with
  | zero => omega
  | succ h ih =>
    rw [eachI_succ]
    by_cases e : r < h
    · rw [List.getElem?_append_left (by rw [eachI_len]; exact place (Nat.mul_comm h w) hc e)]
      exact ih e
    · have e2 : r = h := by omega
      subst e2
      rw [List.getElem?_append_right (by rw [eachI_len]; omega), eachI_len, Nat.add_sub_cancel_left, List.getElem?_map, List.getElem?_range hc]
      rfl
/-- the same by one running place -/
theorem eachI_flat {w h : Nat} (hw : 0 < w) (f : Nat → Nat → Int) : eachI w h f = (List.range (h * w)).map fun i => f (i % w) (i / w) := by
  refine List.ext_getElem? fun i => ?_
  by_cases hi : i < h * w
  · have hr : i / w < h := (Nat.div_lt_iff_lt_mul hw).mpr hi
    have e := eachI_get (f := f) (Nat.mod_lt i hw) hr
    rw [Nat.mul_comm, Nat.div_add_mod] at e
    rw [e, List.getElem?_map, List.getElem?_range hi]
    rfl
  · rw [List.getElem?_eq_none (by rw [eachI_len]; omega), List.getElem?_eq_none (by rw [List.length_map, List.length_range]; omega)]
end EvM
namespace EvM
/-! lists of natural numbers and of whole numbers, number by number -/
theorem ints_map {x : List Int} {f : Nat → Nat} {g : Int → Int} (h : ∀ z ∈ x, ((f z.toNat : Nat) : Int) = g z) : Sh55Neutral.ints ((Sh55Neutral.nats x).map f) = x.map g := by
  unfold Sh55Neutral.ints Sh55Neutral.nats
  rw [List.map_map, List.map_map]
  exact List.map_congr_left fun z hz => h z hz
theorem ints_zip {x b : List Int} {f : Nat → Nat → Nat} {g : Int → Int → Int} (h : ∀ z ∈ x, ∀ y ∈ b, ((f z.toNat y.toNat : Nat) : Int) = g z y) :
    Sh55Neutral.ints (((Sh55Neutral.nats x).zip (Sh55Neutral.nats b)).map fun p => f p.1 p.2) = (x.zip b).map fun p => g p.1 p.2 := by
  unfold Sh55Neutral.ints Sh55Neutral.nats
  rw [List.zip_map, List.map_map, List.map_map]
  refine List.map_congr_left fun z hz => ?_
  exact h z.1 (List.of_mem_zip hz).1 z.2 (List.of_mem_zip hz).2
theorem zip_get {x b : List Int} {i : Nat} {z y : Int} (h1 : x[i]? = some z) (h2 : b[i]? = some y) : (x.zip b)[i]? = some (z, y) := by
  rw [List.getElem?_zip_eq_some]
  exact ⟨h1, h2⟩
/-- the byte at column c, row r -/
def pix (w : Nat) (x : List Int) (c r : Nat) : Int := (x[r * w + c]?).getD 0
theorem at_cast {w c r : Nat} {x : List Int} (h : Nn x) : ((Sh55.at_ w (Sh55Neutral.nats x) c r : Nat) : Int) = pix w x c r := by
  unfold Sh55.at_ pix
  rw [num_eq]
  unfold Sh55Neutral.nats
  rw [List.getElem?_map]
  cases e : x[r * w + c]? with
  | none => rfl
  | some z =>
    have := h z (List.mem_of_getElem? e)
    show ((z.toNat : Nat) : Int) = z
    omega
theorem pix_get {w c r h : Nat} {x : List Int} (hl : x.length = w * h) (hc : c < w) (hr : r < h) : x[r * w + c]? = some (pix w x c r) := by
  have := place hl hc hr
  unfold pix
  rw [List.getElem?_eq_getElem this]
  rfl
theorem pix_by {w c r : Nat} {x : List Int} (h : By x) : 0 ≤ pix w x c r ∧ pix w x c r ≤ 255 := by
  unfold pix
  cases e : x[r * w + c]? with
  | none => exact ⟨by decide, by decide⟩
  | some z =>
    have := h z (List.mem_of_getElem? e)
    show 0 ≤ z ∧ z ≤ 255
    omega
theorem page_eq {w h : Nat} {x : List Int} (hw : 0 < w) (hl : x.length = w * h) : x = eachI w h (pix w x) := by
  refine List.ext_getElem? fun i => ?_
  by_cases hi : i < h * w
  · have hr : i / w < h := (Nat.div_lt_iff_lt_mul hw).mpr hi
    have e := eachI_get (f := pix w x) (Nat.mod_lt i hw) hr
    have e2 := pix_get hl (Nat.mod_lt i hw) hr
    rw [Nat.mul_comm, Nat.div_add_mod] at e e2
    rw [e, e2]
  · rw [List.getElem?_eq_none (by rw [hl, Nat.mul_comm]; omega), List.getElem?_eq_none (by rw [eachI_len]; omega)]
theorem eachI_map (w h : Nat) (g : Nat → Nat → Int) (f : Int → Int) : (eachI w h g).map f = eachI w h fun c r => f (g c r) := by
  unfold eachI
  rw [List.map_flatMap]
  refine flatMap_congr' fun r _ => ?_
  rw [List.map_map]
  rfl
/-- a row of a page -/
def rowI (w : Nat) (g : Nat → Nat → Int) (r : Nat) : List Int := (List.range w).map fun c => g c r
theorem rowI_len (w : Nat) (g : Nat → Nat → Int) (r : Nat) : (rowI w g r).length = w := by
  unfold rowI
  rw [List.length_map, List.length_range]
theorem rowI_get {w : Nat} {g : Nat → Nat → Int} {r c : Nat} (hc : c < w) : (rowI w g r)[c]? = some (g c r) := by
  unfold rowI
  rw [List.getElem?_map, List.getElem?_range hc]
  rfl
theorem eachI_row {w h : Nat} {g : Nat → Nat → Int} {r : Nat} (hr : r < h) : ((eachI w h g).drop (r * w)).take w = rowI w g r := by
  refine List.ext_getElem? fun i => ?_
  rw [List.getElem?_take, List.getElem?_drop]
  by_cases hi : i < w
  · rw [if_pos hi, eachI_get hi hr, rowI_get hi]
  · rw [if_neg hi, List.getElem?_eq_none (by rw [rowI_len]; omega)]
end EvM
namespace EvM
/-! the k-th -/
theorem same_sorted {a b : List Int} (hp : a.Perm b) (ha : a.Pairwise (· ≤ ·)) (hb : b.Pairwise (· ≤ ·)) : a = b :=
  hp.eq_of_pairwise (fun _ _ _ _ h1 h2 => Int.le_antisymm h1 h2) ha hb
theorem ints_sort {l s : List Int} (h : Nn l) (p : s.Perm l) (o : s.Pairwise (· ≤ ·)) : s = Sh55Neutral.ints ((Sh55Neutral.nats l).mergeSort fun a b => decide (a ≤ b)) := by
  obtain ⟨m, rfl⟩ := h.eq
  rw [nats_ints]
  refine same_sorted (p.trans ((List.mergeSort_perm m _).symm.map _)) o ?_
  have q : (m.mergeSort fun a b => decide (a ≤ b)).Pairwise fun a b => decide (a ≤ b) = true :=
    List.pairwise_mergeSort (le := fun a b => decide (a ≤ b)) (fun a b c h1 h2 => by simp at *; omega) (fun a b => by simp; omega) m
  unfold Sh55Neutral.ints
  rw [List.pairwise_map]
  exact q.imp fun h => by have := of_decide_eq_true h; omega
theorem kth_asked {k : Int} {l : List Int} (h : PySh55.li_kth_asked k l = true) : 0 ≤ k ∧ By l := by
  have h : (Sh55Neutral.asked1 [[2, k], l] && _) = true := h
  rw [Bool.and_eq_true] at h
  have h1 : (Sh55Neutral.natural k 32 && (l.all (fun (z : Int) => Sh55Neutral.natural z 8) && _)) = true := h.1
  rw [Bool.and_eq_true, Bool.and_eq_true] at h1
  exact ⟨(natural_iff.mp h1.1).1, by_of h1.2.1⟩
theorem kth_big {k : Int} {l : List Int} (h : ¬ l.length ≤ 65536) : PySh55.li_kth k l = [-2] := by
  show Sh55Neutral.f [[2, k], l] = _
  unfold Sh55Neutral.f Sh55Neutral.callOf
  have hf : Sh55.few (Sh55Neutral.nats l).length = false := decide_eq_false (by rw [nats_len]; exact h)
  simp only [hf]
  rfl
theorem kth_none {k : Int} {l : List Int} (h : l.length ≤ 65536) (hn : k = 0 ∨ (l.length : Int) < k) : PySh55.li_kth k l = [-6] := by
  show Sh55Neutral.f [[2, k], l] = _
  unfold Sh55Neutral.f Sh55Neutral.callOf
  have hf : Sh55.few (Sh55Neutral.nats l).length = true := decide_eq_true (by rw [nats_len]; exact h)
  simp only [hf, if_true, Sh55.answer]
  rw [if_pos (by rw [nats_len]; omega)]
  rfl
theorem kth_some {k : Int} {l s : List Int} {z : Int} (h : l.length ≤ 65536) (hb : By l) (h1 : 0 < k) (h2 : k ≤ (l.length : Int)) (p : s.Perm l) (o : s.Pairwise (· ≤ ·)) (hz : s[(k - 1).toNat]? = some z) : PySh55.li_kth k l = [z] := by
  show Sh55Neutral.f [[2, k], l] = _
  unfold Sh55Neutral.f Sh55Neutral.callOf
  have hf : Sh55.few (Sh55Neutral.nats l).length = true := decide_eq_true (by rw [nats_len]; exact h)
  simp only [hf, if_true, Sh55.answer]
  rw [if_neg (by rw [nats_len]; omega)]
  show [((Sh55.kth k.toNat (Sh55Neutral.nats l) : Nat) : Int)] = [z]
  unfold Sh55.kth
  rw [ints_sort hb.nn p o, ints_get] at hz
  rw [num_eq, show k.toNat - 1 = (k - 1).toNat by omega]
  cases e : (List.mergeSort (Sh55Neutral.nats l) fun a b => decide (a ≤ b))[(k - 1).toNat]? with
  | none => rw [e] at hz; cases hz
  | some n =>
    rw [e] at hz
    rw [← Option.some.inj hz]
    rfl
end EvM
namespace EvM
/-! li_median -/
theorem median_okB {w : Int} {x : List Int} (hw : 0 ≤ w) : (Sh55.page w.toNat ((Sh55Neutral.nats x).length / w.toNat)) = true ↔ (isPage w x.length = true) := by
  rw [nats_len]
  exact Iff.rfl
theorem median_asked {w : Int} {x : List Int} (h : PySh55.li_median_asked w x = true) : 0 ≤ w ∧ By x ∧ ((isPage w x.length = true) → x.length = w.toNat * (x.length / w.toNat)) := by
  have h : (Sh55Neutral.asked1 [[6, w], x] && _) = true := h
  rw [Bool.and_eq_true] at h
  have h1 : (Sh55Neutral.natural w 32 && (x.all (fun (z : Int) => Sh55Neutral.natural z 8) && (if (Sh55.page w.toNat ((Sh55Neutral.nats x).length / w.toNat)) = true then x.length == w.toNat * ((Sh55Neutral.nats x).length / w.toNat) else _))) = true := h.1
  rw [Bool.and_eq_true, Bool.and_eq_true] at h1
  refine ⟨(natural_iff.mp h1.1).1, by_of h1.2.1, ?_⟩
  have h2 := h1.2.2
  intro ok
  rw [if_pos ((median_okB (natural_iff.mp h1.1).1).mpr ok), nats_len] at h2
  exact beq_iff_eq.mp h2
theorem median_bad {w : Int} {x : List Int} (hw : 0 ≤ w) (h : ¬ (isPage w x.length = true)) : PySh55.li_median w x = [-2] := by
  show Sh55Neutral.f [[6, w], x] = _
  unfold Sh55Neutral.f Sh55Neutral.callOf
  have hf : (Sh55.page w.toNat ((Sh55Neutral.nats x).length / w.toNat)) = false := by
    cases e : (Sh55.page w.toNat ((Sh55Neutral.nats x).length / w.toNat)) with
    | false => rfl
    | true => exact absurd ((median_okB hw).mp e) h
  simp only [hf]
  rfl
theorem median_ok {w : Int} {x : List Int} (hw : 0 ≤ w) (h : isPage w x.length = true) : PySh55.li_median w x = 0 :: Sh55Neutral.ints (Sh55.each w.toNat (x.length / w.toNat) (Sh55.median w.toNat (x.length / w.toNat) (Sh55Neutral.nats x))) := by
  show Sh55Neutral.f [[6, w], x] = _
  unfold Sh55Neutral.f Sh55Neutral.callOf
  have hf : (Sh55.page w.toNat ((Sh55Neutral.nats x).length / w.toNat)) = true := (median_okB hw).mpr h
  simp only [hf, if_true]
  rw [← nats_len x]
  rfl
end EvM
namespace EvM
/-! medians -/
theorem sort_get {l s : List Int} {k : Nat} {z : Int} (hl : Nn l) (p : s.Perm l) (o : s.Pairwise (· ≤ ·)) (hz : s[k - 1]? = some z) : ((Sh55.kth k (Sh55Neutral.nats l) : Nat) : Int) = z := by
  unfold Sh55.kth
  rw [ints_sort hl p o, ints_get] at hz
  rw [num_eq]
  cases e : (List.mergeSort (Sh55Neutral.nats l) fun a b => decide (a ≤ b))[k - 1]? with
  | none => rw [e] at hz; cases hz
  | some n =>
    rw [e] at hz
    rw [← Option.some.inj hz]
    rfl
/-- a line with its rims once more -/
def rimI (w : Nat) (f : Nat → Int) : List Int := f 0 :: (List.range w).map f ++ [f (w - 1)]
theorem rimI_len (w : Nat) (f : Nat → Int) : (rimI w f).length = w + 2 := by
  unfold rimI
  simp
theorem rim_get {α : Type} {l : List α} {a b : α} {n j : Nat} (hn : l.length = n) (ha : l[0]? = some a) (hb : l[n - 1]? = some b) (hj : j < n + 2) : (a :: l ++ [b])[j]? = l[min (n - 1) (j - 1)]? := by
  have h0 : 0 < n := by
    rw [← hn]
    exact (List.getElem?_eq_some_iff.mp ha).1
  rw [List.cons_append]
  cases j with
  | zero =>
    rw [List.getElem?_cons_zero, show min (n - 1) (0 - 1) = 0 by omega, ha]
  | succ j =>
    rw [List.getElem?_cons_succ]
    by_cases h : j < n
    · rw [List.getElem?_append_left (by omega), show min (n - 1) (j + 1 - 1) = j by omega]
    · have e : j = n := by omega
      subst e
      rw [List.getElem?_append_right (by omega), hn, Nat.sub_self, show min (j - 1) (j + 1 - 1) = j - 1 by omega, hb]
      rfl
theorem rimI_get {w j : Nat} {f : Nat → Int} (hw : 0 < w) (hj : j < w + 2) : (rimI w f)[j]? = some (f (min (w - 1) (j - 1))) := by
  unfold rimI
  rw [rim_get (l := (List.range w).map f) (n := w) (by simp) (by rw [List.getElem?_map, List.getElem?_range hw]; rfl) (by rw [List.getElem?_map, List.getElem?_range (by omega)]; rfl) hj, List.getElem?_map, List.getElem?_range (by omega)]
  rfl
theorem take3 {l : List Int} {c : Nat} {a b d : Int} (h0 : l[c]? = some a) (h1 : l[c + 1]? = some b) (h2 : l[c + 2]? = some d) : (l.drop c).take 3 = [a, b, d] := by
  refine List.ext_getElem? fun i => ?_
  rw [List.getElem?_take, List.getElem?_drop]
  match i with
  | 0 => exact h0
  | 1 => exact h1
  | 2 => exact h2
  | i + 3 => rfl
theorem rim3 {w c : Nat} {f : Nat → Int} (hc : c < w) : ((rimI w f).drop c).take 3 = [0, 1, 2].map fun i => f (min (w - 1) (c + i - 1)) :=
  take3 (rimI_get (by omega) (by omega)) (rimI_get (by omega) (by omega)) (rimI_get (by omega) (by omega))
/-- the nine, row by row -/
def nineI (w h : Nat) (g : Nat → Nat → Int) (c r : Nat) : List Int := [0, 1, 2].flatMap fun j => [0, 1, 2].map fun i => g (min (w - 1) (c + i - 1)) (min (h - 1) (r + j - 1))
theorem nine_cast {w h c r : Nat} {x : List Int} (hx : By x) : Sh55Neutral.nats (nineI w h (pix w x) c r) = [0, 1, 2].flatMap fun j => [0, 1, 2].map fun i => Sh55.at_ w (Sh55Neutral.nats x) (min (w - 1) (c + i - 1)) (min (h - 1) (r + j - 1)) := by
  unfold Sh55Neutral.nats nineI
  rw [List.map_flatMap]
  refine flatMap_congr' fun j _ => ?_
  rw [List.map_map]
  refine List.map_congr_left fun i _ => ?_
  show (pix w x (min (w - 1) (c + i - 1)) (min (h - 1) (r + j - 1))).toNat = _
  rw [← at_cast hx.nn]
  exact Int.toNat_natCast _
theorem nine_nn {w h c r : Nat} {g : Nat → Nat → Int} (hg : ∀ c r, 0 ≤ g c r) : Nn (nineI w h g c r) := fun z hz => by
  unfold nineI at hz
  obtain ⟨j, _, hz⟩ := List.mem_flatMap.mp hz
  obtain ⟨i, _, rfl⟩ := List.mem_map.mp hz
  exact hg _ _
/-- the median -/
def medI (w h : Nat) (x : List Int) (c r : Nat) : Int := ((Sh55.median w h (Sh55Neutral.nats x) c r : Nat) : Int)
theorem med_is {w h c r : Nat} {x s : List Int} {z : Int} (hx : By x) (p : s.Perm (nineI w h (pix w x) c r)) (o : s.Pairwise (· ≤ ·)) (hz : s[4]? = some z) : z = medI w h x c r := by
  have := sort_get (k := 5) (nine_nn fun c r => (pix_by hx).1) p o hz
  rw [nine_cast hx] at this
  exact this.symm
theorem median_list (w h : Nat) (x : List Int) : Sh55Neutral.ints (Sh55.each w h (Sh55.median w h (Sh55Neutral.nats x))) = eachI w h (medI w h x) := each_ints _ _ _
end EvM
namespace Ev
open PySem PySem.Spec PyProof.Rows L2
/-! small words over the hand layer -/
theorem same_upd {H : Hp} {p : Addr} {o : HO} (h : H p = none) : Same H (upd H p o) := fun b x e => by
  rw [upd_ne (ne_of_none e h)]
  exact e
/-- xs[j] by values, for xs[j] += e -/
def rGetL (K : PySem.W.Frag) : V → V → Hp → VK → Prop := fun x y H Q => ∃ (p : Addr) (xs : List V) (j : Nat) (v : V), x = .ref p ∧ y = .int j ∧ SqL K H p xs ∧ xs[j]? = some v ∧ Q v H
theorem get_list {X : Cx} : PGet X (rGetL X.K) := by
  intro pins s σ H x y v u Q I rx ry h
  obtain ⟨p, xs, j, z, rfl, rfl, hq, he, q⟩ := h
  cases rx
  obtain ⟨t, rfl⟩ := ry
  obtain ⟨its, r, pl, hz⟩ := I.list hq
  obtain ⟨w, ew, rw'⟩ := r.get he
  have hj : j < xs.length := (List.getElem?_eq_some_iff.mp he).1
  have hl := r.length
  have hn := line63
  exact wpAny_getItem_list pl.isList (by omega) (by omega) (by rw [Int.toNat_natCast]; simpa using ew) ⟨z, H, I, rw', q⟩
theorem ixN_nat {n j : Nat} (h : j < n) : ixN n (j : Int) = some j := by
  unfold ixN
  rw [if_pos (by omega), if_pos (by omega), Int.toNat_natCast]
theorem map_set {α β : Type} (f : α → β) (l : List α) (i : Nat) (a : α) : (l.map f).set i (f a) = (l.set i a).map f := by
  rw [List.map_set]
theorem get_int {l : List Int} {i : Nat} {y : V} (h : (l.map V.int)[i]? = some y) : ∃ z, l[i]? = some z ∧ y = V.int z := by
  rw [List.getElem?_map] at h
  cases e : l[i]? with
  | none => rw [e] at h; cases h
  | some z => rw [e] at h; exact ⟨z, rfl, (Option.some.inj h).symm⟩
theorem int_get {l : List Int} {i : Nat} {z : Int} (h : l[i]? = some z) : (l.map V.int)[i]? = some (V.int z) := by
  rw [List.getElem?_map, h]
  rfl
theorem take_more {α : Type} {l : List α} {i : Nat} {x : α} (h : l[i]? = some x) : l.take (i + 1) = l.take i ++ [x] := by
  rw [List.take_add_one, h]
  rfl
end Ev
namespace Ev
open PySem PySem.Spec PyProof.Rows L2
theorem cut_nat (l : List Int) (i j : Nat) : cutV (l.map V.int) (some (i : Int)) (some (j : Int)) = ((l.drop i).take (j - i)).map V.int := by
  unfold cutV
  rw [HT.sIx_nat, HT.sIx_nat, List.length_map, ← List.map_drop, ← List.map_take]
  congr 1
  by_cases h : i ≤ l.length
  · rw [Nat.min_eq_left h]
    by_cases h2 : j ≤ l.length
    · rw [Nat.min_eq_left h2]
    · rw [Nat.min_eq_right (by omega), List.take_of_length_le (by rw [List.length_drop]; omega), List.take_of_length_le (by rw [List.length_drop]; omega)]
  · rw [List.drop_eq_nil_of_le (by omega), List.drop_eq_nil_of_le (by omega), List.take_nil, List.take_nil]
theorem rgC_up {i j c : Int} {n : Nat} (hc : 0 < c) (hc2 : c < 1073741824) (hi : 0 ≤ i) (hi2 : i < 2 ^ 60) (hj : 0 ≤ j) (hj2 : j < 2 ^ 60) (hn : (n : Int) = if i < j then (j - i - 1) / c + 1 else 0) : RgC i j c n := by
  have hs : Builtin.Range.rangeSize i j c = n := by
    unfold Builtin.Range.rangeSize
    rw [if_pos hc, hn]
  have hn2 : (n : Int) < 2 ^ 62 := by
    rw [hn]
    split
    · have h1 : (j - i - 1) / c ≤ j - i - 1 := Int.ediv_le_self _ (by omega)
      omega
    · decide
  refine ⟨by omega, by omega, ?_, hs⟩
  unfold Builtin.Range.small
  rw [hs]
  unfold Builtin.Range.rangeFitsLong
  simp only [Bool.and_eq_true, Bool.or_eq_true, decide_eq_true_eq]
  rw [if_pos hc]
  simp only [Bool.and_eq_true, decide_eq_true_eq]
  omega
end Ev
namespace Ev
open PySem PySem.Spec PyProof.Rows L2
/-- the end of a comprehension's turn where nothing else is made -/
theorem lc_fin {H0 : Hp} {D : Addr} {l l' : List Int} {v : Int} (hl : l.length < sizeLine) (e : l' = l ++ [v]) :
    ∃ acc, upd H0 D (.lst (l.map V.int)) D = some (.lst acc) ∧ acc.length < sizeLine ∧ upd (upd H0 D (.lst (l.map V.int))) D (.lst (acc ++ [.int v])) = upd H0 D (.lst (l'.map V.int)) := by
  refine ⟨_, upd_same, by rw [List.length_map]; exact hl, ?_⟩
  rw [upd_upd, e, List.map_append]
  rfl
theorem map_more {l : List Int} {f : Int → Int} {i : Nat} {z : Int} (h : l[i]? = some z) : (l.take (i + 1)).map f = (l.take i).map f ++ [f z] := by
  rw [take_more h, List.map_append]
  rfl
theorem range_more (f : Nat → Int) (i : Nat) : (List.range (i + 1)).map f = (List.range i).map f ++ [f i] := by
  rw [List.range_succ, List.map_append]
  rfl
theorem cutV_nat (l : List V) (i j : Nat) : cutV l (some (i : Int)) (some (j : Int)) = (l.drop i).take (j - i) := by
  unfold cutV
  rw [HT.sIx_nat, HT.sIx_nat]
  by_cases h : i ≤ l.length
  · rw [Nat.min_eq_left h]
    by_cases h2 : j ≤ l.length
    · rw [Nat.min_eq_left h2]
    · rw [Nat.min_eq_right (by omega), List.take_of_length_le (by rw [List.length_drop]; omega), List.take_of_length_le (by rw [List.length_drop]; omega)]
  · rw [List.drop_eq_nil_of_le (by omega), List.drop_eq_nil_of_le (by omega), List.take_nil, List.take_nil]
theorem at_natE {l : List V} {j : Int} {i : Nat} {v : V} (e : j = (i : Int)) (h : l[i]? = some v) : atI l j = some v := at_of e h
theorem small {n : Nat} (h : n ≤ 16777216) : n ≤ sizeLine := Nat.le_trans h (by decide)
theorem smallS {n : Nat} (h : n < 16777216) : n < sizeLine := Nat.lt_of_lt_of_le h (by decide)
end Ev
namespace Ev
open PySem PySem.Spec PyProof.Rows L2
theorem map_range_get {n i : Nat} {f : Nat → Int} (h : i < n) : (((List.range n).map f).map V.int)[i]? = some (V.int (f i)) := by
  rw [List.getElem?_map, List.getElem?_map, List.getElem?_range h]
  rfl
theorem each_rows {w h : Nat} (hw : 1 ≤ w) (g : Nat → Nat → Int) : ((((EvM.eachI w h g).map V.int).length : Nat) : Int) / (w : Int) = (h : Int) := by
  rw [List.length_map, EvM.eachI_len, ← Int.natCast_ediv, Nat.mul_div_cancel _ (by omega)]
theorem each_row {w h r : Nat} (hr : r < h) (g : Nat → Nat → Int) : (((EvM.eachI w h g).map V.int).drop (r * w)).take w = ((List.range w).map fun c => g c r).map V.int := by
  rw [← List.map_drop, ← List.map_take, EvM.eachI_row hr]
  rfl
theorem rep_range (n : Nat) (f : Nat → Int) (h : ∀ c, f c = 0) : (List.replicate n [V.int 0]).flatten = ((List.range n).map f).map V.int := by
  rw [List.flatten_replicate_singleton, List.map_map]
  symm
  rw [List.eq_replicate_iff]
  refine ⟨by simp, fun b hb => ?_⟩
  obtain ⟨c, _, rfl⟩ := List.mem_map.mp hb
  show V.int (f c) = _
  rw [h]
theorem max_sub (c d : Nat) : (if (0 : Int) > (c : Int) - (d : Int) then 0 else (c : Int) - (d : Int)) = ((c - d : Nat) : Int) := by
  split <;> omega
end Ev
namespace Ev
open PySem PySem.Spec PyProof.Rows L2
open PySem.W (Codec)
def top (i : Nat) : Stmt := PySem.Challenge.pw_evenlight_s07_li_median.main.body.getD i (.Pass ⟨0, 0, 0, 0⟩)
abbrev s_with_rim : Stmt := top 6
theorem sc_with_rim : FnScope ["line"] ["line"] (defScope s_with_rim) := ⟨rfl, rfl, rfl, by decide +kernel, rfl, by decide +kernel, by decide +kernel⟩
abbrev s_row_of : Stmt := top 5
theorem sc_row_of : FnScope ["w", "x", "r"] ["w", "x", "r"] (defScope s_row_of) := ⟨rfl, rfl, rfl, by decide +kernel, rfl, by decide +kernel, by decide +kernel⟩
abbrev s_rows_with_rim : Stmt := top 7
theorem sc_rows_with_rim : FnScope ["w", "x", "r"] ["w", "x"] (defScope s_rows_with_rim) := ⟨rfl, rfl, rfl, by decide +kernel, rfl, by decide +kernel, by decide +kernel⟩
abbrev s_is_page : Stmt := top 4
theorem sc_is_page : FnScope ["w", "x", "h"] ["w", "x"] (defScope s_is_page) := ⟨rfl, rfl, rfl, by decide +kernel, rfl, by decide +kernel, by decide +kernel⟩
abbrev s_li_median : Stmt := top 3
theorem sc_li_median : FnScope ["w", "x", "rows", "medians", "r", "c", "nine"] ["w", "x"] (defScope s_li_median) := ⟨rfl, rfl, rfl, by decide +kernel, rfl, by decide +kernel, by decide +kernel⟩
section
variable {P : Program} {w : World} {K : PySem.W.Frag} {mg : Str → Option Value} {base : Heap}
def sp_with_rim (K : PySem.W.Frag) : Sp := fun vs H Q _ => ∃ (a : Addr) (xs : List V) (n : Nat) (x0 xn : V), vs = [.ref a] ∧ H a = some (.lst xs) ∧ xs.length = n ∧ n ≤ 300 ∧ xs[0]? = some x0 ∧ xs[n - 1]? = some xn ∧
  ∀ (H' : Hp) (p : Addr), Same H H' → H p = none → H' p = some (.lst (x0 :: xs ++ [xn])) → Q (.ref p) H'
theorem sp_with_rim_len {K : PySem.W.Frag} {vs : List V} {H : Hp} {Q : VK} {E : XK} (h : sp_with_rim K vs H Q E) : vs.length = 1 := by
  obtain ⟨_, _, _, _, _, rfl, _⟩ := h
  rfl
theorem cut3 {W c : Nat} {f : Nat → Int} (hc : c < W) : cutV ((EvM.rimI W f).map V.int) (some (c : Int)) (some ((c : Int) + 3)) = ([0, 1, 2].map fun i => f (min (W - 1) (c + i - 1))).map V.int := by
  rw [show (c : Int) + 3 = ((c + 3 : Nat) : Int) by omega, cut_nat, Nat.add_sub_cancel_left, EvM.rim3 hc]
/-! with_rim: slots 0 line -/
theorem ok_with_rim {f : Addr} {fd : FuncData} (F : Fun K "with_rim" "with_rim" s_with_rim f fd)
    (g_len : mg "len" = none) : FnOk P w K mg base CX0 1 f fd ["line"] (sp_with_rim K) := by
  refine F.ok sc_with_rim (fun vs H Q E h => ?_) (fun cdv A outer s H vs Q E hr h => ?_)
  · exact sp_with_rim_len h
  · refine ⟨_, (pss_one (ps_ret (pe_op op_cat (pe_op op_cat (pe_lst (pa_cons (pe_ix ix_list (pv 0) pe_int (fun _ _ => rfl)) pa_nil)) (pv 0)) (pe_lst (pa_cons (pe_ix ix_list (pv 0) (pe_op op_sub (pe_callB call_len_seq (by rfl) g_len PySem.boot_len (pa_cons (pv 0) pa_nil)) pe_int) (fun _ _ => rfl)) pa_nil))))), ?_⟩
    obtain ⟨a, xs, n, x0, xn, rfl, ha, hn, hn2, h0, hl, q⟩ := h
    refine ⟨_, rfl, a, _, _, _, rfl, rfl, SqL.of ha, at_natE (i := 0) rfl h0, (by show 1 ≤ sizeLine; decide), fun p1 n1 => ?_⟩
    have s1 : Same H (upd H p1 (.lst [x0])) := same_upd n1
    refine ⟨_, rfl, p1, a, _, _, rfl, rfl, upd_same, s1 _ _ ha, small (by show 1 + _ ≤ _; omega), fun p2 n2 => ?_⟩
    have s2 := same_upd (o := .lst ([x0] ++ xs)) n2
    have ha2 := s2 _ _ (s1 _ _ ha)
    have hp0 : 0 < n := by
      rw [← hn]
      exact (List.getElem?_eq_some_iff.mp h0).1
    refine ⟨_, rfl, _, rfl, a, _, rfl, .inl (SqL.of ha2), _, _, rfl, rfl, a, _, _, _, rfl, rfl, SqL.of ha2, at_natE (i := n - 1) (by rw [hn]; omega) hl, (by show 1 ≤ sizeLine; decide), fun p3 n3 => ?_⟩
    have s3 := same_upd (o := .lst [xn]) n3
    refine ⟨p2, p3, _, _, rfl, rfl, s3 _ _ upd_same, upd_same, small ?_, fun p4 n4 => ?_⟩
    · rw [List.length_append]
      show 1 + _ + 1 ≤ _
      omega
    · have s4 := same_upd (o := .lst ([x0] ++ xs ++ [xn])) n4
      exact q _ p4 (((s1.trans s2).trans s3).trans s4) (((s1.trans s2).trans s3).free n4) upd_same
def sp_row_of (K : PySem.W.Frag) : Sp := fun vs H Q _ => ∃ (w : Nat) (a : Addr) (xs : List V) (r : Nat), vs = [.int w, .ref a, .int r] ∧ SqL K H a xs ∧ w ≤ 65536 ∧ ∀ p, H p = none → Q (.ref p) (upd H p (.lst ((xs.drop (r * w)).take w)))
theorem sp_row_of_len {K : PySem.W.Frag} {vs : List V} {H : Hp} {Q : VK} {E : XK} (h : sp_row_of K vs H Q E) : vs.length = 3 := by
  obtain ⟨_, _, _, _, rfl, _⟩ := h
  rfl
/-! row_of: slots 0 w, 1 x, 2 r -/
theorem ok_row_of {f : Addr} {fd : FuncData} (F : Fun K "row_of" "row_of" s_row_of f fd)
     : FnOk P w K mg base CX0 1 f fd ["w", "x", "r"] (sp_row_of K) := by
  refine F.ok sc_row_of (fun vs H Q E h => ?_) (fun cdv A outer s H vs Q E hr h => ?_)
  · exact sp_row_of_len h
  · refine ⟨_, (pss_one (ps_ret (pe_slice sl_list (pv 1) (po_some (pe_op op_mul (pv 2) (pv 0))) (po_some (pe_op op_mul (pe_op op_add (pv 2) pe_int) (pv 0)))))), ?_⟩
    obtain ⟨w, a, xs, r, rfl, hS, hw, q⟩ := h
    refine ⟨_, rfl, _, rfl, _, rfl, _, _, rfl, rfl, .inr ⟨by omega, by omega⟩, _, rfl, _, rfl, _, _, rfl, rfl, _, rfl, _, _, rfl, rfl, .inr ⟨by omega, by omega⟩, _, rfl, a, xs, rfl, hS, fun p np => ?_⟩
    have e : cutV xs (some ((r : Int) * (w : Int))) (some (((r : Int) + 1) * (w : Int))) = (xs.drop (r * w)).take w := by
      have e1 : (r : Int) * (w : Int) = ((r * w : Nat) : Int) := (Int.natCast_mul r w).symm
      have e2 : ((r : Int) + 1) * (w : Int) = ((r * w + w : Nat) : Int) := by
        rw [Int.add_mul, Int.one_mul, Int.natCast_add, Int.natCast_mul]
      rw [e1, e2, cutV_nat, Nat.add_sub_cancel_left]
    rw [e]
    exact q p np
def sp_rows_with_rim (K : PySem.W.Frag) : Sp := fun vs H Q _ => ∃ (w : Nat) (a : Addr) (n : Nat) (g : Nat → Nat → Int), vs = [.int w, .ref a] ∧ SqL K H a ((EvM.eachI w n g).map V.int) ∧ 1 ≤ w ∧ w ≤ 256 ∧ 1 ≤ n ∧ n ≤ 256 ∧
  ∀ (H' : Hp) (R : Addr) (rows : List V), Same H H' → H R = none → H' R = some (.lst rows) → (∀ j, j < n + 2 → ∃ p, rows[j]? = some (.ref p) ∧ H' p = some (.lst ((EvM.rimI w fun c => g c (min (n - 1) (j - 1))).map V.int))) → Q (.ref R) H'
theorem sp_rows_with_rim_len {K : PySem.W.Frag} {vs : List V} {H : Hp} {Q : VK} {E : XK} (h : sp_rows_with_rim K vs H Q E) : vs.length = 2 := by
  obtain ⟨_, _, _, _, rfl, _⟩ := h
  rfl
/-! rows_with_rim: slots 0 w, 1 x, 2 r -/
theorem ok_rows_with_rim {f : Addr} {fd : FuncData} (F : Fun K "rows_with_rim" "rows_with_rim" s_rows_with_rim f fd)
    (g_range : mg "range" = none)
    (g_len : mg "len" = none)
    {f_with_rim : Addr} {fd_with_rim : FuncData} (G_with_rim : FnOk P w K mg base CX0 1 f_with_rim fd_with_rim ["line"] (sp_with_rim K)) (m_with_rim : mg "with_rim" = some (.ref f_with_rim)) (k_with_rim : PySem.W.keepIn K (.ref f_with_rim) = true) (b_with_rim : Binds K fd_with_rim ["line"] [])
    {f_row_of : Addr} {fd_row_of : FuncData} (G_row_of : FnOk P w K mg base CX0 1 f_row_of fd_row_of ["w", "x", "r"] (sp_row_of K)) (m_row_of : mg "row_of" = some (.ref f_row_of)) (k_row_of : PySem.W.keepIn K (.ref f_row_of) = true) (b_row_of : Binds K fd_row_of ["w", "x", "r"] []) : FnOk P w K mg base CX0 2 f fd ["w", "x"] (sp_rows_with_rim K) := by
  refine F.ok sc_rows_with_rim (fun vs H Q E h => ?_) (fun cdv A outer s H vs Q E hr h => ?_)
  · exact sp_rows_with_rim_len h
  · refine ⟨_, (pss_one (ps_ret (pe_call G_with_rim (hr.mono (by decide)) (by rfl) m_with_rim k_with_rim b_with_rim .nil pass0 (pa_cons (pe_lc (own := [("r", 2)]) (g := (gName 2)) (tt := tYes) (by rfl) sc_rows_with_rim.nd (pi_range1 (by rfl) g_range (pa_cons (pe_op op_fdiv (pe_callB call_len_seq (by rfl) g_len PySem.boot_len (pa_cons (pv 1) pa_nil)) (pv 0)) pa_nil)) (blkOk_by (own := [("r", 2)]) (N := ["w", "x", "r"]) (sc := defScope s_rows_with_rim) (by decide +kernel)) (fun _ _ _ _ _ => (pg_name (i := 2) sc_rows_with_rim.nd rfl (Or.inl rfl))) (fun _ _ _ _ _ => pts_nil) (fun _ _ _ _ _ => (pe_call G_with_rim (hr.mono (by decide)) (by rfl) m_with_rim k_with_rim b_with_rim .nil pass0 (pa_cons (pe_call G_row_of (hr.mono (by decide)) (by rfl) m_row_of k_row_of b_row_of .nil pass0 (pa_cons (pv 0) (pa_cons (pv 1) (pa_cons (pv 2) pa_nil)))) pa_nil)))) pa_nil)))), ?_⟩
    obtain ⟨W, a, n, g, rfl, hS, hw1, hw2, hn1, hn2, q⟩ := h
    refine ⟨_, rfl, a, _, rfl, .inl hS, _, rfl, _, _, rfl, rfl, ⟨by omega, by omega⟩, (n : Int), congrArg (fun z => [V.int z]) (each_rows hw1 g), by omega, by omega, fun D nD => ?_⟩
    rw [Int.toNat_natCast]
    refine lc_range (lo := 0) (n := n) (fun r H' => ∃ rs : List V, Same H H' ∧ H' D = some (.lst rs) ∧ rs.length = r ∧ ∀ j, j < r → ∃ p, rs[j]? = some (.ref p) ∧ p ≠ D ∧ H' p = some (.lst ((EvM.rimI W fun c => g c j).map V.int)))
      ⟨[], same_upd nD, upd_same, rfl, fun j hj => absurd hj (Nat.not_lt_zero j)⟩ ?_ ?_
    · rintro r H1 hr ⟨rs, s1, hD, hlr, hall⟩
      have e0 : (0 : Int) + (r : Nat) = (r : Nat) := Int.zero_add _
      rw [e0]
      refine ⟨rfl, _, rfl, _, rfl, _, rfl, W, a, _, r, rfl, s1.seq hS, by omega, fun p np => ?_⟩
      rw [each_row hr]
      have s2 : Same H1 (upd H1 p (.lst (((List.range W).map fun c => g c r).map V.int))) := same_upd np
      refine ⟨p, _, W, .int (g 0 r), .int (g (W - 1) r), rfl, upd_same, by rw [List.length_map, List.length_map, List.length_range], by omega, map_range_get (by omega), map_range_get (by omega), fun H3 p3 s3 n3 hp3 => ?_⟩
      have s4 := s2.trans s3
      have n3' : H1 p3 = none := s2.free n3
      have ne3 : p3 ≠ D := (ne_of_none hD n3').symm
      refine ⟨rs, s4 _ _ hD, smallS (by omega), rs ++ [.ref p3], fun b o e => ?_, upd_same, by rw [List.length_append, hlr]; rfl, fun j hj => ?_⟩
      · rw [upd_ne (ne_of_none e nD)]
        exact s4 _ _ (s1 _ _ e)
      · by_cases hjr : j < r
        · obtain ⟨u, hu, nu, hu2⟩ := hall j hjr
          refine ⟨u, ?_, nu, ?_⟩
          · rw [List.getElem?_append_left (by omega)]
            exact hu
          · rw [upd_ne nu]
            exact s4 _ _ hu2
        · have ej : j = r := by omega
          subst ej
          refine ⟨p3, ?_, ne3, ?_⟩
          · rw [List.getElem?_append_right (by omega), hlr, Nat.sub_self]
            rfl
          · rw [upd_ne ne3, hp3]
            unfold EvM.rimI
            rw [List.map_append]
            rfl
    · rintro H1 ⟨rs, s1, hD, hlr, hall⟩
      obtain ⟨u0, g0, _⟩ := hall 0 (by omega)
      obtain ⟨un, gn, _⟩ := hall (n - 1) (by omega)
      refine ⟨D, rs, n, .ref u0, .ref un, rfl, hD, hlr, by omega, g0, gn, fun H2 R s2 nR hR => ?_⟩
      have s3 := s1.trans s2
      refine q H2 R _ s3 (s1.free nR) hR fun j hj => ?_
      obtain ⟨p, hp, _, hp2⟩ := hall (min (n - 1) (j - 1)) (by omega)
      exact ⟨p, by rw [EvM.rim_get hlr g0 gn hj]; exact hp, s2 _ _ hp2⟩
def sp_is_page (K : PySem.W.Frag) : Sp := fun vs H Q _ => ∃ (w : Int) (a : Addr) (xs : List Int), vs = [.int w, .ref a] ∧ SqL K H a (xs.map V.int) ∧ 0 ≤ w ∧ Q (.bl (EvM.isPage w xs.length)) H
theorem sp_is_page_len {K : PySem.W.Frag} {vs : List V} {H : Hp} {Q : VK} {E : XK} (h : sp_is_page K vs H Q E) : vs.length = 2 := by
  obtain ⟨_, _, _, rfl, _⟩ := h
  rfl
/-! is_page: slots 0 w, 1 x, 2 h -/
theorem ok_is_page {f : Addr} {fd : FuncData} (F : Fun K "is_page" "is_page" s_is_page f fd)
    (g_len : mg "len" = none)
    {t_MOST_SIDE : Tok} (c_MOST_SIDE : mg "MOST_SIDE" = some (.int (256) t_MOST_SIDE)) : FnOk P w K mg base CX0 1 f fd ["w", "x"] (sp_is_page K) := by
  refine F.ok sc_is_page (fun vs H Q E h => ?_) (fun cdv A outer s H vs Q E hr h => ?_)
  · exact sp_is_page_len h
  · refine ⟨_, (pss_cons (ps_if (PW.pt (pw_or (pt_cmpR op_lt (pv 0) pe_int (nomark _)) (pw_or1 (pt_cmpR op_gt (pv 0) (pe_glob (v := .int (256)) (by rfl) c_MOST_SIDE ⟨_, rfl⟩) (nomark _))))) (pss_one (ps_ret pe_bl)) pss_nil)
      (pss_cons (ps_set (i := 2) sc_is_page.nd rfl (Or.inl rfl) (pe_op op_fdiv (pe_callB call_len_seq (by rfl) g_len PySem.boot_len (pa_cons (pv 1) pa_nil)) (pv 0)))
      (pss_one (ps_ret (pe_and (pe_cmpR op_ge (pv 2) pe_int (nomark _)) (pe_one (pe_cmpR op_le (pv 2) (pe_glob (v := .int (256)) (by rfl) c_MOST_SIDE ⟨_, rfl⟩) (nomark _)))))))), ?_⟩
    obtain ⟨w, a, xs, rfl, hS, h0, q⟩ := h
    have no : ¬ (1 ≤ w ∧ w ≤ 256) → Q (.bl false) H := fun z => by
      have e : EvM.isPage w xs.length = false := by
        cases e : EvM.isPage w xs.length with
        | false => rfl
        | true => exact absurd ((EvM.isPage_iff h0).mp e).1 z
      rw [e] at q
      exact q
    refine ⟨_, rfl, _, _, rfl, rfl, _, rfl, ite2 (fun e => ?_) (fun e => ?_)⟩
    · have e : w < 1 := of_decide_eq_true e
      exact iteT (no (by omega))
    · have e : ¬ w < 1 := fun z => e (decide_eq_true z)
      refine ⟨_, rfl, _, _, rfl, rfl, _, rfl, ite2 (fun e2 => ?_) (fun e2 => ?_)⟩
      · have e2 : 256 < w := of_decide_eq_true e2
        exact no (by omega)
      · have e2 : ¬ 256 < w := fun z => e2 (decide_eq_true z)
        refine ⟨_, rfl, a, _, rfl, .inl hS, _, rfl, _, _, rfl, rfl, ⟨by omega, by omega⟩, ?_⟩
        rw [List.length_map]
        have key : EvM.isPage w xs.length = true ↔ 1 ≤ (xs.length : Int) / w ∧ (xs.length : Int) / w ≤ 256 := by
          rw [EvM.isPage_iff h0]
          exact ⟨fun z => z.2, fun z => ⟨by omega, z⟩⟩
        refine ⟨_, rfl, _, _, rfl, rfl, _, rfl, ite2 (fun e3 => ?_) (fun e3 => ?_)⟩
        · have e3 : 1 ≤ (xs.length : Int) / w := of_decide_eq_true e3
          refine ⟨_, rfl, _, _, rfl, rfl, ?_⟩
          have e4 : EvM.isPage w xs.length = decide ((xs.length : Int) / w ≤ 256) := by
            rw [Bool.eq_iff_iff, key, decide_eq_true_eq]
            exact ⟨fun z => z.2, fun z => ⟨e3, z⟩⟩
          rw [e4] at q
          exact q
        · have e3 : ¬ 1 ≤ (xs.length : Int) / w := fun z => e3 (decide_eq_true z)
          have e4 : EvM.isPage w xs.length = false := by
            cases e : EvM.isPage w xs.length with
            | false => rfl
            | true => exact absurd (key.mp e).1 e3
          rw [e4] at q
          exact q
def sp_li_median (K : PySem.W.Frag) : Sp := fun vs H Q _ => ∃ (w : Int) (a_x : Addr) (x : List Int), vs = [.int w, .ref a_x] ∧ SqL K H a_x (x.map V.int) ∧ x.length ≤ 70000 ∧ PySh55.li_median_asked w x = true ∧
  ∀ (H' : Hp) (p : Addr), H' p = some (.lst ((PySh55.li_median w x).map V.int)) → Q (.ref p) H'
theorem sp_li_median_len {K : PySem.W.Frag} {vs : List V} {H : Hp} {Q : VK} {E : XK} (h : sp_li_median K vs H Q E) : vs.length = 2 := by
  obtain ⟨_, _, _, rfl, _⟩ := h
  rfl
/-! li_median: slots 0 w, 1 x, 2 rows, 3 medians, 4 r, 5 c, 6 nine -/
theorem ok_li_median {f : Addr} {fd : FuncData} (F : Fun K "li_median" "li_median" s_li_median f fd)
    (g_range : mg "range" = none)
    (g_len : mg "len" = none)
    (g_sorted : mg "sorted" = none)
    {t_OUT_OF_RANGE : Tok} (c_OUT_OF_RANGE : mg "OUT_OF_RANGE" = some (.int (-2) t_OUT_OF_RANGE))
    {f_rows_with_rim : Addr} {fd_rows_with_rim : FuncData} (G_rows_with_rim : FnOk P w K mg base CX0 2 f_rows_with_rim fd_rows_with_rim ["w", "x"] (sp_rows_with_rim K)) (m_rows_with_rim : mg "rows_with_rim" = some (.ref f_rows_with_rim)) (k_rows_with_rim : PySem.W.keepIn K (.ref f_rows_with_rim) = true) (b_rows_with_rim : Binds K fd_rows_with_rim ["w", "x"] [])
    {f_is_page : Addr} {fd_is_page : FuncData} (G_is_page : FnOk P w K mg base CX0 1 f_is_page fd_is_page ["w", "x"] (sp_is_page K)) (m_is_page : mg "is_page" = some (.ref f_is_page)) (k_is_page : PySem.W.keepIn K (.ref f_is_page) = true) (b_is_page : Binds K fd_is_page ["w", "x"] []) : FnOk P w K mg base CX0 3 f fd ["w", "x"] (sp_li_median K) := by
  refine F.ok sc_li_median (fun vs H Q E h => ?_) (fun cdv A outer s H vs Q E hr h => ?_)
  · exact sp_li_median_len h
  · refine ⟨_, (pss_cons (ps_if (pt_not (pt_val (pe_call G_is_page (hr.mono (by decide)) (by rfl) m_is_page k_is_page b_is_page .nil pass0 (pa_cons (pv 0) (pa_cons (pv 1) pa_nil))))) (pss_one (ps_ret (pe_lst (pa_cons (pe_glob (v := .int (-2)) (by rfl) c_OUT_OF_RANGE ⟨_, rfl⟩) pa_nil)))) pss_nil)
      (pss_cons (ps_set (i := 2) sc_li_median.nd rfl (Or.inl rfl) (pe_call G_rows_with_rim (hr.mono (by decide)) (by rfl) m_rows_with_rim k_rows_with_rim b_rows_with_rim .nil pass0 (pa_cons (pv 0) (pa_cons (pv 1) pa_nil))))
      (pss_cons (ps_set (i := 3) sc_li_median.nd rfl (Or.inl rfl) (pe_lst pa_nil))
      (pss_cons (ps_for PassesOwn.never rfl (pi_range1 (by rfl) g_range (pa_cons (pe_op op_fdiv (pe_callB call_len_seq (by rfl) g_len PySem.boot_len (pa_cons (pv 1) pa_nil)) (pv 0)) pa_nil)) (pg_name (i := 4) sc_li_median.nd rfl (Or.inl rfl))
      (pss_one (ps_for PassesOwn.never rfl (pi_range1 (by rfl) g_range (pa_cons (pv 0) pa_nil)) (pg_name (i := 5) sc_li_median.nd rfl (Or.inl rfl))
      (pss_cons (ps_set (i := 6) sc_li_median.nd rfl (Or.inl rfl) (pe_op op_cat (pe_op op_cat (pe_slice sl_list (pe_ix ix_list (pv 2) (pv 4) (fun _ _ => rfl)) (po_some (pv 5)) (po_some (pe_op op_add (pv 5) pe_int))) (pe_slice sl_list (pe_ix ix_list (pv 2) (pe_op op_add (pv 4) pe_int) (fun _ _ => rfl)) (po_some (pv 5)) (po_some (pe_op op_add (pv 5) pe_int)))) (pe_slice sl_list (pe_ix ix_list (pv 2) (pe_op op_add (pv 4) pe_int) (fun _ _ => rfl)) (po_some (pv 5)) (po_some (pe_op op_add (pv 5) pe_int)))))
      (pss_one (ps_expr (pe_bm PySem.F.plainAttrs_list PySem.F.slot_list_append PySem.F.type_list_append mt_append (pv 3) (pa_cons (pe_ix ix_list (pe_callB cr_sortedI (by rfl) g_sorted (by decide +kernel) (pa_cons (pv 6) pa_nil)) pe_int (fun _ _ => rfl)) pa_nil))))))))
      (pss_one (ps_ret (pe_op op_cat (pe_lst (pa_cons pe_int pa_nil)) (pv 3)))))))), ?_⟩
    obtain ⟨w, a, x, rfl, hS, hlen, hask, q⟩ := h
    obtain ⟨h0, hb, hrows⟩ := EvM.median_asked hask
    refine ⟨_, rfl, _, rfl, w, a, x, rfl, hS, h0, _, rfl, ite2 (fun e => ?_) (fun e => ?_)⟩
    · have e1 : ¬ EvM.isPage w x.length = true := fun z => by
        rw [z] at e
        cases e
      refine ⟨by decide, fun p hp => q _ p ?_⟩
      rw [upd_same, EvM.median_bad h0 e1]
      rfl
    · have hp : EvM.isPage w x.length = true := by
        cases z : EvM.isPage w x.length with
        | true => rfl
        | false =>
          rw [z] at e
          exact absurd rfl e
      have hl := hrows hp
      have pg := EvM.isPage_nat hp
      have ew : w = (w.toNat : Int) := by omega
      have goal := EvM.median_ok h0 hp
      rw [EvM.median_list] at goal
      rw [goal] at q
      have hmed : ∀ (c r : Nat) (s : List Int) (z : Int), s.Perm (EvM.nineI w.toNat (x.length / w.toNat) (EvM.pix w.toNat x) c r) → s.Pairwise (· ≤ ·) → s[4]? = some z → z = EvM.medI w.toNat (x.length / w.toNat) x c r := fun c r s z p o hz => EvM.med_is hb p o hz
      rw [EvM.page_eq (by omega) hl] at hS
      generalize EvM.pix w.toNat x = g at hS hmed
      generalize hn : x.length / w.toNat = n at hS q pg hmed
      generalize EvM.medI w.toNat n x = M at q hmed
      clear hl hrows goal hask hlen hp
      generalize w.toNat = W at *
      subst ew
      refine ⟨_, rfl, _, rfl, W, a, n, g, rfl, hS, by omega, by omega, by omega, by omega, fun H2 R rows s3 nR hR hrow => ?_⟩
      refine ⟨by decide, fun o no => ?_⟩
      have hS3 := (s3.trans (same_upd (o := .lst []) no)).seq hS
      refine ⟨_, rfl, a, _, rfl, .inl hS3, _, rfl, _, _, rfl, rfl, ⟨by omega, by omega⟩, (n : Int), congrArg (fun z => [V.int z]) (each_rows (by omega) g), by omega, by omega, ?_⟩
      rw [Int.toNat_natCast]
      refine for_range (lo := 0) (n := n) (fun r σ H' => ∃ v5 v6 v7 : Option V, σ = [some (.int W), some (.ref a), some (.ref R), some (.ref o), v5, v6, v7] ∧ Same H2 H' ∧ H' o = some (.lst ((EvM.eachI W r M).map V.int)))
        ⟨none, none, none, rfl, same_upd no, upd_same⟩ ?_ ?_
      · rintro r σ H3 hr ⟨v5, v6, v7, rfl, s4, ho⟩
        have e0 : (0 : Int) + (r : Nat) = (r : Nat) := Int.zero_add _
        rw [e0]
        refine ⟨_, rfl, (W : Int), rfl, by omega, by omega, ?_⟩
        rw [Int.toNat_natCast]
        refine for_range (lo := 0) (n := W) (fun c σ H' => ∃ v6 v7 : Option V, σ = [some (.int W), some (.ref a), some (.ref R), some (.ref o), some (.int (r : Nat)), v6, v7] ∧ Same H2 H' ∧ H' o = some (.lst ((EvM.eachI W r M ++ (List.range c).map fun c => M c r).map V.int)))
          ⟨v6, v7, rfl, s4, by rw [ho, List.range_zero, List.map_nil, List.append_nil]⟩ ?_ ?_
        · rintro c σ H4 hc ⟨v6, v7, rfl, s5, ho⟩
          have e1 : (0 : Int) + (c : Nat) = (c : Nat) := Int.zero_add _
          rw [e1]
          obtain ⟨q0, r0, c0⟩ := hrow r (by omega)
          obtain ⟨q1, r1, c1⟩ := hrow (r + 1) (by omega)
          obtain ⟨q2, r2, c2⟩ := hrow (r + 2) (by omega)
          have hR4 := s5 _ _ hR
          have d0 := s5 _ _ c0
          have d1 := s5 _ _ c1
          have d2 := s5 _ _ c2
          refine ⟨_, rfl, _, rfl, R, _, _, _, rfl, rfl, SqL.of hR4, at_natE rfl r0, _, rfl, _, rfl, _, rfl, _, _, rfl, rfl, _, rfl, q0, _, rfl, SqL.of d0, fun t1 n1 => ?_⟩
          rw [cut3 hc]
          have z1 := same_upd (o := .lst (([0, 1, 2].map fun i => g (min (W - 1) (c + i - 1)) (min (n - 1) (r - 1))).map V.int)) n1
          refine ⟨_, rfl, _, rfl, _, _, rfl, rfl, R, _, _, _, rfl, rfl, SqL.of (z1 _ _ hR4), at_natE (i := r + 1) rfl r1, _, rfl, _, rfl, _, rfl, _, _, rfl, rfl, _, rfl, q1, _, rfl, SqL.of (z1 _ _ d1), fun t2 n2 => ?_⟩
          rw [cut3 hc]
          have z2 := same_upd (o := .lst (([0, 1, 2].map fun i => g (min (W - 1) (c + i - 1)) (min (n - 1) (r + 1 - 1))).map V.int)) n2
          refine ⟨t1, t2, _, _, rfl, rfl, z2 _ _ upd_same, upd_same, small (by show 3 + 3 ≤ _; omega), fun t3 n3 => ?_⟩
          have z3 := same_upd (o := .lst ((([0, 1, 2].map fun i => g (min (W - 1) (c + i - 1)) (min (n - 1) (r - 1))).map V.int) ++ (([0, 1, 2].map fun i => g (min (W - 1) (c + i - 1)) (min (n - 1) (r + 1 - 1))).map V.int))) n3
          have z123 := (z1.trans z2).trans z3
          refine ⟨_, rfl, _, rfl, _, _, rfl, rfl, R, _, _, _, rfl, rfl, SqL.of (z123 _ _ hR4), at_natE (i := r + 2) rfl r2, _, rfl, _, rfl, _, rfl, _, _, rfl, rfl, _, rfl, q2, _, rfl, SqL.of (z123 _ _ d2), fun t4 n4 => ?_⟩
          rw [cut3 hc]
          have z4 := same_upd (o := .lst (([0, 1, 2].map fun i => g (min (W - 1) (c + i - 1)) (min (n - 1) (r + 2 - 1))).map V.int)) n4
          refine ⟨t3, t4, _, _, rfl, rfl, z4 _ _ upd_same, upd_same, small (by show 6 + 3 ≤ _; omega), fun t5 n5 => ?_⟩
          have z5 := same_upd (o := .lst ((EvM.nineI W n g c r).map V.int)) n5
          have z := (z123.trans z4).trans z5
          have ho5 := z _ _ ho
          refine ⟨_, rfl, .inl ⟨rfl, _, SqL.of ho5⟩, _, rfl, t5, EvM.nineI W n g c r, rfl, SqL.of upd_same, fun s p pm so np => ?_⟩
          have h9 : (4 : Nat) < s.length := by
            rw [pm.length_eq]
            show 4 < 9
            decide
          have g4 : s[4]? = some s[4] := List.getElem?_eq_getElem h9
          have z6 := same_upd (o := .lst (s.map V.int)) np
          refine ⟨p, _, _, _, rfl, rfl, SqL.of upd_same, at_natE (i := 4) rfl (int_get g4), o, _, _, rfl, rfl, z6 _ _ ho5, smallS ?_, some (.int (c : Nat)), some (.ref t5), rfl, fun b y e => ?_, ?_⟩
          · rw [List.length_map, List.length_append, List.length_map, List.length_range, EvM.eachI_len]
            have : r * W ≤ 256 * 256 := Nat.mul_le_mul (by omega) (by omega)
            omega
          · rw [upd_ne (ne_of_none e no)]
            exact z6 _ _ (z _ _ (s5 _ _ e))
          · rw [upd_same, range_more _ c, ← List.append_assoc, List.map_append (l₂ := [_]), hmed c r s _ pm so g4]
            rfl
        · rintro σ H4 ⟨v6, v7, rfl, s5, ho⟩
          refine ⟨_, v6, v7, rfl, s5, ?_⟩
          rw [ho, EvM.eachI_succ]
      · rintro σ H3 ⟨v5, v6, v7, rfl, s4, ho⟩
        refine ⟨by decide, fun u nu => ?_⟩
        have s5 := same_upd (o := .lst [.int 0]) nu
        refine ⟨_, rfl, u, o, _, _, rfl, rfl, upd_same, s5 _ _ ho, small ?_, fun v nv => q _ v ?_⟩
        · rw [List.length_map, EvM.eachI_len]
          have : n * W ≤ 256 * 256 := Nat.mul_le_mul (by omega) (by omega)
          show 1 + _ ≤ _
          omega
        · rw [upd_same]
          rfl
end
theorem all_mk {P : Program} {w : World} {K : PySem.W.Frag} {h : Heap} {mg : Str → Option Value} {fa : Addr} (X : K.In h) (G : h.Ns mainGlobals mg) (hfa : mg "li_median" = some (.ref fa))
    {f0 : Addr} {od0 an0 : Option Addr} {sl0 : Array (Option Value)} {oc0 kV0 dc0 pm0 cd0 ct0 : Value}
    (a0 : PySem.W.nsIn K mainGlobals "with_rim" = some (some (.ref f0))) (l0 : K.lookup f0 = some ⟨oc0, od0, .func (PySem.W.fnOf "with_rim" "with_rim" (defArgs s_with_rim) (defBody s_with_rim) (defScope s_with_rim) .none kV0 dc0 pm0 an0 cd0 ct0), sl0⟩) (q0 : PySem.W.codeIn K cd0 "with_rim" = true) (k0 : PySem.W.keepIn K (.ref f0) = true)
    {f1 : Addr} {od1 an1 : Option Addr} {sl1 : Array (Option Value)} {oc1 kV1 dc1 pm1 cd1 ct1 : Value}
    (a1 : PySem.W.nsIn K mainGlobals "row_of" = some (some (.ref f1))) (l1 : K.lookup f1 = some ⟨oc1, od1, .func (PySem.W.fnOf "row_of" "row_of" (defArgs s_row_of) (defBody s_row_of) (defScope s_row_of) .none kV1 dc1 pm1 an1 cd1 ct1), sl1⟩) (q1 : PySem.W.codeIn K cd1 "row_of" = true) (k1 : PySem.W.keepIn K (.ref f1) = true)
    {f2 : Addr} {od2 an2 : Option Addr} {sl2 : Array (Option Value)} {oc2 kV2 dc2 pm2 cd2 ct2 : Value}
    (a2 : PySem.W.nsIn K mainGlobals "rows_with_rim" = some (some (.ref f2))) (l2 : K.lookup f2 = some ⟨oc2, od2, .func (PySem.W.fnOf "rows_with_rim" "rows_with_rim" (defArgs s_rows_with_rim) (defBody s_rows_with_rim) (defScope s_rows_with_rim) .none kV2 dc2 pm2 an2 cd2 ct2), sl2⟩) (q2 : PySem.W.codeIn K cd2 "rows_with_rim" = true) (k2 : PySem.W.keepIn K (.ref f2) = true)
    {f3 : Addr} {od3 an3 : Option Addr} {sl3 : Array (Option Value)} {oc3 kV3 dc3 pm3 cd3 ct3 : Value}
    (a3 : PySem.W.nsIn K mainGlobals "is_page" = some (some (.ref f3))) (l3 : K.lookup f3 = some ⟨oc3, od3, .func (PySem.W.fnOf "is_page" "is_page" (defArgs s_is_page) (defBody s_is_page) (defScope s_is_page) .none kV3 dc3 pm3 an3 cd3 ct3), sl3⟩) (q3 : PySem.W.codeIn K cd3 "is_page" = true) (k3 : PySem.W.keepIn K (.ref f3) = true)
    {f4 : Addr} {od4 an4 : Option Addr} {sl4 : Array (Option Value)} {oc4 kV4 dc4 pm4 cd4 ct4 : Value}
    (a4 : PySem.W.nsIn K mainGlobals "li_median" = some (some (.ref f4))) (l4 : K.lookup f4 = some ⟨oc4, od4, .func (PySem.W.fnOf "li_median" "li_median" (defArgs s_li_median) (defBody s_li_median) (defScope s_li_median) .none kV4 dc4 pm4 an4 cd4 ct4), sl4⟩) (q4 : PySem.W.codeIn K cd4 "li_median" = true) (k4 : PySem.W.keepIn K (.ref f4) = true)
    (z_len : PySem.W.nsIn K mainGlobals "len" = some none)
    (z_range : PySem.W.nsIn K mainGlobals "range" = some none)
    (z_sorted : PySem.W.nsIn K mainGlobals "sorted" = some none)
    {t_MOST_SIDE : Tok} (y_MOST_SIDE : PySem.W.nsIn K mainGlobals "MOST_SIDE" = some (some (.int (256) t_MOST_SIDE)))
    {t_OUT_OF_RANGE : Tok} (y_OUT_OF_RANGE : PySem.W.nsIn K mainGlobals "OUT_OF_RANGE" = some (some (.int (-2) t_OUT_OF_RANGE)))
    : ∃ fd : FuncData, (∀ (s : Shared) (us : List Value), us.length = (["w", "x"] : List Str).length → BindsTo s fd ⟨us, []⟩ ((["w", "x"] : List Str).zip us)) ∧ ∀ base : Heap, K.In base → base.Ns mainGlobals mg → FnOk P w K mg base CX0 3 fa fd ["w", "x"] (sp_li_median K) := by
  have e := hfa.symm.trans (PySem.W.mg_of X G a4)
  cases e
  have F0 := fun_mk (st := s_with_rim) l0 q0 k0
  have b0 := F0.binds (ps := ["line"]) fun _ _ _ _ _ _ us hl => match us, hl with | [_], _ => rfl
  have F1 := fun_mk (st := s_row_of) l1 q1 k1
  have b1 := F1.binds (ps := ["w", "x", "r"]) fun _ _ _ _ _ _ us hl => match us, hl with | [_, _, _], _ => rfl
  have F2 := fun_mk (st := s_rows_with_rim) l2 q2 k2
  have b2 := F2.binds (ps := ["w", "x"]) fun _ _ _ _ _ _ us hl => match us, hl with | [_, _], _ => rfl
  have F3 := fun_mk (st := s_is_page) l3 q3 k3
  have b3 := F3.binds (ps := ["w", "x"]) fun _ _ _ _ _ _ us hl => match us, hl with | [_, _], _ => rfl
  have F4 := fun_mk (st := s_li_median) l4 q4 k4
  have b4 := F4.binds (ps := ["w", "x"]) fun _ _ _ _ _ _ us hl => match us, hl with | [_, _], _ => rfl
  refine ⟨PySem.W.fnOf "li_median" "li_median" (defArgs s_li_median) (defBody s_li_median) (defScope s_li_median) .none kV4 dc4 pm4 an4 cd4 ct4, fun s us hu => match us, hu with | [_, _], _ => .of_eq rfl, fun base _ _ => ?_⟩
  have O0 : FnOk P w K mg base CX0 1 _ _ ["line"] (sp_with_rim K) := ok_with_rim F0 (PySem.W.mg_none_of X G z_len)
  have O1 : FnOk P w K mg base CX0 1 _ _ ["w", "x", "r"] (sp_row_of K) := ok_row_of F1 
  have O2 : FnOk P w K mg base CX0 2 _ _ ["w", "x"] (sp_rows_with_rim K) := ok_rows_with_rim F2 (PySem.W.mg_none_of X G z_range) (PySem.W.mg_none_of X G z_len) O0 (PySem.W.mg_of X G a0) k0 b0 O1 (PySem.W.mg_of X G a1) k1 b1
  have O3 : FnOk P w K mg base CX0 1 _ _ ["w", "x"] (sp_is_page K) := ok_is_page F3 (PySem.W.mg_none_of X G z_len) (PySem.W.mg_of X G y_MOST_SIDE)
  have O4 : FnOk P w K mg base CX0 3 _ _ ["w", "x"] (sp_li_median K) := ok_li_median F4 (PySem.W.mg_none_of X G z_range) (PySem.W.mg_none_of X G z_len) (PySem.W.mg_none_of X G z_sorted) (PySem.W.mg_of X G y_OUT_OF_RANGE) O2 (PySem.W.mg_of X G a2) k2 b2 O3 (PySem.W.mg_of X G a3) k3 b3
  exact O4
theorem end_li_median {K : PySem.W.Frag} {H : Hp} {w : Int} {a_x : Addr} {x : List Int} (h_x : SqL K H a_x (x.map V.int)) (hwi : (Codec.inInt (0) (4294967295) w && ((Codec.inLen 0 70000 x && x.all (Codec.inInt (0) (255))) && true)) = true) (hask : PySh55.li_median_asked w x = true) :
    sp_li_median K [.int w, .ref a_x] H (fun v H' => Dw K H' v (.list ((PySh55.li_median w x).map .int))) fun _ _ _ => False := by
  obtain ⟨w_w, hwi⟩ := Bool.and_eq_true_iff.mp hwi
  obtain ⟨w_x, hwi⟩ := Bool.and_eq_true_iff.mp hwi
  obtain ⟨l_x, _⟩ := Bool.and_eq_true_iff.mp w_x
  exact ⟨w, _, x, rfl, h_x, (Codec.inNat_iff.mp l_x).2, hask, fun H' p hp => .lst (L2.SqL.of hp) (L2.dw_ints _)⟩
end Ev
open PySem PySem.W PyProof.Rows
set_option maxRecDepth 100000 in
set_option maxHeartbeats 8000000 in
theorem PySem.Challenge.cw_evenlight_s07_li_median_holds : PySem.Challenge.rw_evenlight_s07_li_median.Holds := by
  w_on; k_headS; (case hw => exact ⟨[.int 0, .list []], by decide +kernel, by decide +kernel⟩)
  k_fillS
  refine L2.walk_specK (r := PySem.Challenge.rw_evenlight_s07_li_median) (k := 3) (CX := L2.CX0) (ps := ["w", "x"]) (sp := Ev.sp_li_median) (by decide +kernel) rfl rfl ⟨rfl, by decide, by decide⟩ (fun w h Y => PySem.W.kIn_of Y) ?F ?S (fun _ _ _ _ z => z)
  case F =>
    intro w mg fa h Y KX G hmg
    refine' Ev.all_mk KX G hmg ?a0 ?l0 ?q0 ?k0 ?a1 ?l1 ?q1 ?k1 ?a2 ?l2 ?q2 ?k2 ?a3 ?l3 ?q3 ?k3 ?a4 ?l4 ?q4 ?k4 ?z_len ?z_range ?z_sorted ?y_MOST_SIDE ?y_OUT_OF_RANGE
    (case a0 => k_is)
    (case l0 => k_is)
    (case q0 => k_is)
    (case k0 => k_is)
    (case a1 => k_is)
    (case l1 => k_is)
    (case q1 => k_is)
    (case k1 => k_is)
    (case a2 => k_is)
    (case l2 => k_is)
    (case q2 => k_is)
    (case k2 => k_is)
    (case a3 => k_is)
    (case l3 => k_is)
    (case q3 => k_is)
    (case k3 => k_is)
    (case a4 => k_is)
    (case l4 => k_is)
    (case q4 => k_is)
    (case k4 => k_is)
    (case z_len => k_is)
    (case z_range => k_is)
    (case z_sorted => k_is)
    (case y_MOST_SIDE => k_is)
    (case y_OUT_OF_RANGE => k_is)
  case S =>
    intro K H xs a hO hwi hask hx
    obtain ⟨a0, a1, u⟩ := a
    cases hx with
    | cons h0 hx =>
    cases hx with
    | cons h1 hx =>
    cases hx
    cases h0
    cases h1 with
    | lst hs1 ha1 =>
    have e1 := L2.ints_dw a1 _ ha1
    subst e1
    exact Ev.end_li_median hs1 hwi hask
#print axioms PySem.Challenge.cw_evenlight_s07_li_median_holds
