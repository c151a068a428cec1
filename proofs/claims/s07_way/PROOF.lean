import PyProof.Rows.All
import Wide.All
import OpenK.AllK
import Wide.FinOn
import Open.SpecLaws
import KE.OsGo
import HandS.ForSpec
import HandS.Evl
import HandS.Iter
import HandS.Zip
import HandS.Walk
import HandS.Dict
import KE.KDictKeyed
import PyKzs2
import PySem.Challenge.RW_threecolours_s07_way
set_option Elab.async false
set_option maxRecDepth 100000
set_option maxHeartbeats 2000000
/-! ### A. A list's extend by a tuple; tuples that stand at addresses -/
namespace Tri
open PySem PySem.Spec PyProof.Rows L2
section
open PySem.AutoSeq1
theorem ext_tup (l b : Addr) (us : Array Value) (n : Nat) (ws : Array Value) (k : Nat) (dd : Option Addr) (sl : Array (Option Value))
    (h0 : ¬ (!us.isEmpty && Builtin.List.listTooLong (us.size + ws.size)) = true) (h1 : us.size ≤ sizeLine) (h2 : us.size + ws.size ≤ sizeLine + 1) :
    Meets (Builtin.«list.extend» ⟨[.ref l, .ref b], []⟩) (fun _ R s =>
      s.heap.get? l = some { cls := .type "list", dict := none, data := .seq us n, slots := #[] } ∧
      s.heap.get? b = some { cls := .type "tuple", dict := dd, data := .seq ws k, slots := sl } ∧
      R (.ok (.ret Value.none)) { s with heap := s.heap.update l (Obj.mapSeq fun x => x ++ ws), toks := s.toks }) :=
  Meets.of_wp fun _ _ _ R S hS => by
    obtain ⟨S1, S2, S3, S4, S5⟩ := S
    obtain ⟨atl, atb, fin⟩ := hS
    have u1 := AutoSeq1.idx_int
    have u2 := AutoSeq1.sub_tuple_tuple
    have u3 := AutoSeq1.sub_list_list
    have u4 := AutoSeq1.sub_tuple_list
    have u5 := AutoSeq1.sub_list_tuple
    have room : (us ++ ws).size ≤ sizeLine + 1 := by
      rw [Array.size_append]
      exact h2
    wp_walk using (wpAny_updateSeq atl rfl (hz := h1) (_hz' := room)), wpAny_loadPart' atl, wpAny_loadPart' atb
    exact ⟨_, rfl, fin⟩
end
def rExtT (K : PySem.W.Frag) : V → List V → Hp → VK → Prop := fun x vs H Q => ∃ l b us ws, x = .ref l ∧ vs = [.ref b] ∧
  H l = some (.lst us) ∧ SqT K H b ws ∧ us.length + ws.length ≤ sizeLine ∧ Q .non (upd H l (.lst (us ++ ws)))
theorem mt_extT {X : Cx} : MtM X "list.extend" (rExtT X.K) := by
  intro ps S st Hp0 xv args xval vals Qk inv rel rels told
  obtain ⟨l, b, old, more, rfl, rfl, atL, atB, short, fin⟩ := told
  cases rel
  obtain ⟨arg, rfl, relA⟩ := rels.one
  cases relA
  obtain ⟨z, ia, n, rOld, hl, objL⟩ := inv.lstM atL
  obtain ⟨ib, rMore, ⟨⟨oc, od, oda, osl⟩, objB, ec, k, ed⟩, _⟩ := inv.tuple atB
  cases ec
  cases ed
  have lenB := rMore.length
  have both : ia.toArray.size + ib.toArray.size ≤ sizeLine := by
    simp only [List.size_toArray]
    omega
  have notLong : ¬ (!ia.toArray.isEmpty && Builtin.List.listTooLong (ia.toArray.size + ib.toArray.size)) = true := by
    intro bad
    rw [notLongL both, Bool.and_false] at bad
    cases bad
  have small : ia.toArray.size ≤ sizeLine := by omega
  refine call_meets F.slot_list_extend ⟨_, objL, rfl⟩ F.entry_list_extend (F.args_list_extend_2 ..)
    (ext_tup l b ia.toArray n ib.toArray k od osl notLong small (by omega)) ⟨objL, objB, .non, _, inv.lset (its' := ia ++ ib) atL objL (by simp) (rOld.append rMore) ?_, rfl, fin⟩
  simp only [List.length_append]
  omega
end Tri

/-! ### B. Short words: operations, a def that may be called, a module's number; lists of tuples -/
namespace Tri
open PySem PySem.Spec PyProof.Rows L2 Evl
abbrev rAddI : R2 := rI0 fun i j => .int (i + j)
abbrev rSubI : R2 := rI0 fun i j => .int (i - j)
abbrev rLtI : R2 := rI0 fun i j => .bl (decide (i < j))
abbrev rLeI : R2 := rI0 fun i j => .bl (decide (i ≤ j))
abbrev rGtI : R2 := rI0 fun i j => .bl (decide (j < i))
abbrev rGeI : R2 := rI0 fun i j => .bl (decide (j ≤ i))
/-- a def that stands under a name, keeps a promise, and takes its arguments by place -/
def Has (P : Program) (w : World) (K : PySem.W.Frag) (mg : Str → Option Value) (base : Heap) (k : Nat) (x : Str) (ps : List Str) (sp : Sp) : Prop :=
  ∃ f fd, mg x = some (.ref f) ∧ FnOk P w K mg base CX0 k f fd ps sp ∧ PySem.W.keepIn K (.ref f) = true ∧ Binds K fd ps []
section
variable {X : Cx}
theorem pe_g {x : Str} {v : V} {pos : Pos} (hg : Gl X x) (h : ∃ u, X.mg x = some u ∧ RelV v u) (hd : (x == ("__debug__" : Str)) = false := by decide) : PE X (.Name x pos) (tC v) :=
  let ⟨_, a, b⟩ := h
  pe_glob hg a b hd
theorem pe_own {k : Nat} {x : Str} {ps : List Str} {sp : Sp} {e : Expr} {es : List Expr} {t : TA} {p pos : Pos} (h : Has X.prog X.w X.K X.mg X.base k x ps sp) (hr : Room k X.A) (hg : Gl X x) (ha : PA X (e :: es) t)
    (hst : starEach (e :: es) X.env = (false, eval e X.env) :: starEach es X.env := by rfl) (hpl : (backTo pos (starEach es X.env)).any (·.1) = false := by rfl) (hdb : (x == ("__debug__" : Str)) = false := by decide) :
    PE X (.Call (.Name x p) (e :: es) [] pos) (tCall sp [] E0 t) := by
  obtain ⟨f, fd, g, F, kp, b⟩ := h
  exact pe_call F hr hg g kp b .nil pass0 ha (hdb := hdb) (he := hst) (hpl := hpl)
end
/-- tuples that stand at addresses -/
def Held (H : Hp) : List Addr → List (List V) → Prop
  | [], [] => True
  | a :: as, x :: xs => H a = some (.tup x) ∧ Held H as xs
  | _, _ => False
theorem Held.ex {H H' : Hp} (e : Ex H H') : ∀ {as : List Addr} {xs : List (List V)}, Held H as xs → Held H' as xs
  | [], [], _ => trivial
  | a :: _, _ :: _, h => ⟨e a _ h.1, Held.ex e h.2⟩
  | [], _ :: _, h => h.elim
  | _ :: _, [], h => h.elim
theorem Held.put {H : Hp} {l : Addr} {o n : List V} (hl : H l = some (.lst o)) : ∀ {as : List Addr} {xs : List (List V)}, Held H as xs → Held (upd H l (.lst n)) as xs
  | [], [], _ => trivial
  | a :: _, _ :: _, h => ⟨by
      have h1 := h.1
      rw [upd_ne (fun z => by
        rw [z, hl] at h1
        cases h1)]
      exact h1, Held.put hl h.2⟩
  | [], _ :: _, h => h.elim
  | _ :: _, [], h => h.elim
theorem Held.snoc {H : Hp} {a : Addr} {x : List V} (ha : H a = some (.tup x)) : ∀ {as : List Addr} {xs : List (List V)}, Held H as xs → Held H (as ++ [a]) (xs ++ [x])
  | [], [], _ => ⟨ha, trivial⟩
  | _ :: _, _ :: _, h => ⟨h.1, Held.snoc ha h.2⟩
  | [], _ :: _, h => h.elim
  | _ :: _, [], h => h.elim
theorem Held.len {H : Hp} : ∀ {as : List Addr} {xs : List (List V)}, Held H as xs → as.length = xs.length
  | [], [], _ => rfl
  | _ :: _, _ :: _, h => congrArg (· + 1) (Held.len h.2)
  | [], _ :: _, h => h.elim
  | _ :: _, [], h => h.elim
theorem Held.get {H : Hp} : ∀ {as : List Addr} {xs : List (List V)} {i : Nat} {v : V}, Held H as xs → (as.map V.ref)[i]? = some v → ∃ a x, v = .ref a ∧ xs[i]? = some x ∧ H a = some (.tup x)
  | [], [], _, _, _, h => by simp at h
  | a :: _, x :: _, 0, _, hd, h => ⟨a, x, (Option.some.inj h).symm, rfl, hd.1⟩
  | _ :: as, _ :: xs, i + 1, _, hd, h => Held.get (as := as) (xs := xs) (i := i) hd.2 h
  | [], _ :: _, _, _, h, _ => h.elim
  | _ :: _, [], _, _, h, _ => h.elim
/-- a new list of new tuples, over the heap H0 -/
def Grown (H0 H : Hp) (p : Addr) (xs : List (List V)) : Prop := H0 p = none ∧ Ex H0 H ∧ ∃ as : List Addr, H p = some (.lst (as.map V.ref)) ∧ Held H as xs
theorem Grown.ex {H0 H H' : Hp} {p : Addr} {xs : List (List V)} (g : Grown H0 H p xs) (e : Ex H H') : Grown H0 H' p xs :=
  let ⟨a, b, as, c, d⟩ := g
  ⟨a, b.trans e, as, e _ _ c, d.ex e⟩
theorem Grown.start {H0 H : Hp} {p : Addr} (h : H0 p = none) (e : Ex H0 H) (hp : H p = some (.lst [])) : Grown H0 H p [] := ⟨h, e, [], hp, trivial⟩
theorem Grown.is {H0 H : Hp} {p : Addr} {xs ys : List (List V)} (g : Grown H0 H p xs) (e : xs = ys) : Grown H0 H p ys := e ▸ g
def RetH (xs : List (List V)) (H : Hp) (Q : VK) : Prop := ∀ p H2, Grown H H2 p xs → Q (.ref p) H2
section
variable {K : PySem.W.Frag} {σ : L2.St} {H H0 : Hp} {ta te : TE} {D : Ends} {tz : TS} {v : V}
theorem s_push {p : Addr} {xs : List (List V)} {x : List V} (g : Grown H0 H p xs) (ha : Ev ta σ H (.ref p)) (h : EvU te σ H x) (hz : xs.length < 100000) (k : ∀ H1, Grown H0 H1 p (xs ++ [x]) → D.nx σ H1) :
    tDrop (tBM K "list" rAppend ta (tCons te tNil)) D σ H := by
  obtain ⟨g1, g2, as, g3, g4⟩ := g
  refine s_appU g3 ha h (by rw [List.length_map, g4.len]; exact hz) fun q H1 hq e1 h1 => k _ ⟨g1, Ex.mut (g2.trans e1) g1, as ++ [q], ?_, ?_⟩
  · rw [upd_same, List.map_append]
    rfl
  · exact ((g4.ex e1).snoc h1).put (e1 _ _ g3)
theorem q_push {p : Addr} {xs : List (List V)} {x : List V} (g : Grown H0 H p xs) (ha : Ev ta σ H (.ref p)) (h : EvU te σ H x) (hz : xs.length < 100000) (k : ∀ H1, Grown H0 H1 p (xs ++ [x]) → tz D σ H1) :
    tSeq (tDrop (tBM K "list" rAppend ta (tCons te tNil))) tz D σ H := s_push (D := { D with nx := tz D }) g ha h hz k
theorem s_extT {l b : Addr} {us ws : List V} (hl : H l = some (.lst us)) (ha : Ev ta σ H (.ref l)) (h : Ev te σ H (.ref b)) (hb : SqT K H b ws) (hz : us.length + ws.length ≤ 100000) (k : ∀ H1, Ex H H1 → D.nx σ (upd H1 l (.lst (us ++ ws)))) :
    tDrop (tBM K "list" (rExtT K) ta (tCons te tNil)) D σ H := ha H (Ex.refl H) _ fun H1 e1 =>
  ⟨Or.inl ⟨rfl, us, sq_of (e1 l _ hl)⟩, h H1 e1 _ fun H2 e2 => ⟨l, b, us, ws, rfl, rfl, e2 l _ (e1 l _ hl), ex_t (e1.trans e2) hb, sz_of hz, k H2 (e1.trans e2)⟩⟩
/-- x = f(..) by f's promise -/
theorem q_asgC {sp : Sp} {E : XK} {t : TA} {i : Nat} {vs : List V} (h : EvA t σ H vs) (hs : ∀ H1, Ex H H1 → sp (vs ++ []) H1 (fun v H2 => tz D (σ.set i (some v)) H2) E) :
    tSeq (tAsg (tCall sp [] E t) (gName i)) tz D σ H := h H (Ex.refl H) _ hs
end
end Tri

/-! ### C. Rooms: the specification's list, row by row -/
namespace Tri
theorem flat_succ {α : Type} (f : Nat → List α) (n : Nat) : (List.range (n + 1)).flatMap f = (List.range n).flatMap f ++ f n := by
  rw [List.range_succ, List.flatMap_append, List.flatMap_cons, List.flatMap_nil, List.append_nil]
theorem flat_len {α : Type} (f : Nat → List α) (c : Nat) (h : ∀ i, (f i).length ≤ c) : ∀ n, ((List.range n).flatMap f).length ≤ c * n
  | 0 => Nat.zero_le _
  | n + 1 => by
    have a := flat_len f c h n
    have b := h n
    rw [flat_succ, List.length_append, Nat.mul_succ]
    omega
def cell (m j i : Nat) : List Kzs2.Room := if i + j + 2 ≤ m then [⟨i, j, true⟩, ⟨i, j, false⟩] else [⟨i, j, true⟩]
def rowTo (m j n : Nat) : List Kzs2.Room := (List.range n).flatMap (cell m j)
def upTo (m n : Nat) : List Kzs2.Room := (List.range n).flatMap fun j => rowTo m j (m - j)
theorem rooms_upTo (m : Nat) : Kzs2.rooms m = upTo m m := rfl
theorem cell_len (m j i : Nat) : (cell m j i).length ≤ 2 := by
  unfold cell
  split <;> simp
theorem rowTo_len (m j n : Nat) : (rowTo m j n).length ≤ 2 * n := flat_len _ 2 (cell_len m j) n
theorem upTo_len (m n : Nat) : (upTo m n).length ≤ (2 * m) * n := flat_len _ (2 * m) (fun j => Nat.le_trans (rowTo_len m j _) (by omega)) n
theorem rowTo_succ (m j n : Nat) : rowTo m j (n + 1) = rowTo m j n ++ cell m j n := flat_succ _ n
theorem upTo_succ (m n : Nat) : upTo m (n + 1) = upTo m n ++ rowTo m n (m - n) := flat_succ _ n
theorem f_rooms_no (m : Int) (h : ¬ (1 ≤ m ∧ m ≤ 9)) : PyKzs2.rooms m = [-22] := by
  show (Kzs2.answer (.rooms m.toNat)).value :: (Kzs2.answer (.rooms m.toNat)).nums = [-22]
  have e : Kzs2.answer (.rooms m.toNat) = Kzs1.say (-22) := if_pos (by unfold Kzs2.most; omega)
  rw [e]
  rfl
theorem f_rooms (n : Nat) (h : 1 ≤ n ∧ n ≤ 9) : PyKzs2.rooms (n : Int) = ((Kzs2.rooms n).length : Int) :: (Kzs2.rooms n).flatMap fun r => [(r.i : Int), (r.j : Int), if r.u then 1 else 0] := by
  show (Kzs2.answer (.rooms n)).value :: (Kzs2.answer (.rooms n)).nums = _
  have e : Kzs2.answer (.rooms n) = ⟨((Kzs2.rooms n).length : Nat), (Kzs2.rooms n).flatMap fun r => [(r.i : Int), (r.j : Int), if r.u then 1 else 0]⟩ := if_neg (by unfold Kzs2.most; omega)
  rw [e]
end Tri

/-! ### E. A loop over zip of two lists, into two names -/
namespace Tri
open PySem PySem.Spec PyProof.Rows L2 Evl
section
variable {K : PySem.W.Frag} {σ : L2.St} {H : Hp} {D : Ends} {tu tz : TS}
theorem q_forZ {ta : TA} {a b : Addr} {xs ys : List V} {p q : Nat} (h : EvA ta σ H [.ref a, .ref b]) (hx : SqL K H a xs) (hy : SqL K H b ys) (hl : xs.length = ys.length) (Pv : Nat → L2.St → Hp → Prop) (h0 : ∀ H1, Ex H H1 → Pv 0 σ H1)
    (hq : ∀ i σ' H', Pv i σ' H' → SqL K H' a xs ∧ SqL K H' b ys)
    (hs : ∀ i x y σ' H', xs[i]? = some x → ys[i]? = some y → Pv i σ' H' → ∀ H2, Ex H' H2 → tu { D with nx := Pv (i + 1), ct := Pv (i + 1), bk := tz D } ((σ'.set p (some x)).set q (some y)) H2)
    (hd : ∀ σ' H', Pv xs.length σ' H' → tz D σ' H') : tSeq (tFor (iZip K ta) (gTup K 2 (gCons (gName p) (gCons (gName q) gNil))) tu) tz D σ H :=
  h H (Ex.refl H) _ fun H1 e => ⟨a, b, xs, ys, rfl, ex_l e hx, ex_l e hy, RZ.for_zipL hl Pv (h0 H1 e) hq
    (fun i x y T σ' H' hxi hyi pv hT => ⟨T, [x, y], rfl, st_of upd_same, rfl, x, [y], rfl, y, [], rfl, rfl, hs i x y σ' H' hxi hyi pv _ (Ex.new hT)⟩) hd⟩
end
end Tri

/-! ### F. Places and fair colours -/
namespace Tri
def prow (j n : Nat) : List Kzs2.Place := (List.range n).map fun i => ⟨i, j⟩
def pup (m n : Nat) : List Kzs2.Place := (List.range n).flatMap fun j => prow j (m + 1 - j)
theorem places_pup (m : Nat) : Kzs2.places m = pup m (m + 1) := rfl
theorem prow_succ (j n : Nat) : prow j (n + 1) = prow j n ++ [⟨n, j⟩] := by
  unfold prow
  rw [List.range_succ, List.map_append]
  rfl
theorem pup_succ (m n : Nat) : pup m (n + 1) = pup m n ++ prow n (m + 1 - n) := flat_succ _ n
theorem prow_len (j n : Nat) : (prow j n).length = n := by
  unfold prow
  rw [List.length_map, List.length_range]
theorem pup_len (m n : Nat) : (pup m n).length ≤ (m + 1) * n := flat_len _ (m + 1) (fun j => by rw [prow_len]; omega) n
theorem noOf_all : ∀ m : Nat, m < 10 → (Kzs2.places m).map (Kzs2.noOf m) = List.range (Kzs2.places m).length := by decide +kernel
theorem noOf_at {m i : Nat} {p : Kzs2.Place} (hm : m ≤ 9) (h : (Kzs2.places m)[i]? = some p) : Kzs2.noOf m p = i := by
  have e := congrArg (fun l => l[i]?) (noOf_all m (by omega))
  have hi : i < (Kzs2.places m).length := (List.getElem?_eq_some_iff.mp h).1
  simp only [List.getElem?_map, h, List.getElem?_range hi] at e
  exact Option.some.inj e
theorem within_all : ∀ m : Nat, m < 10 → (Kzs2.places m).all (fun p => decide (p.i + p.j ≤ m)) = true := by decide +kernel
theorem within_at {m i : Nat} {p : Kzs2.Place} (hm : m ≤ 9) (h : (Kzs2.places m)[i]? = some p) : p.i + p.j ≤ m :=
  of_decide_eq_true (List.all_eq_true.mp (within_all m (by omega)) p (List.mem_of_getElem? h))
theorem getD_at {l : List Nat} {i x d : Nat} (h : l[i]? = some x) : l.getD i d = x := by
  rw [List.getD_eq_getElem?_getD, h]
  rfl
theorem fair_iff {m : Nat} {c : List Nat} (hm : m ≤ 9) : Kzs2.fair m c = true ↔ c.length = (Kzs2.places m).length ∧ ∀ (i : Nat) (p : Kzs2.Place) (x : Nat), (Kzs2.places m)[i]? = some p → c[i]? = some x → x ≤ 2 ∧ Kzs2.number m p x ≠ 0 := by
  unfold Kzs2.fair
  rw [Bool.and_eq_true, beq_iff_eq, List.all_eq_true]
  refine and_congr_right fun hl => ⟨fun h i p x hp hx => ?_, fun h p hp => ?_⟩
  · have q := h p (List.mem_of_getElem? hp)
    rw [noOf_at hm hp, getD_at hx, getD_at hx, Bool.and_eq_true, decide_eq_true_eq, bne_iff_ne] at q
    exact q
  · obtain ⟨i, hi⟩ := List.mem_iff_getElem?.mp hp
    have hlt : i < c.length := by
      rw [hl]
      exact (List.getElem?_eq_some_iff.mp hi).1
    have hx : c[i]? = some c[i] := List.getElem?_eq_getElem hlt
    have q := h i p _ hi hx
    rw [noOf_at hm hi, getD_at hx, getD_at hx, Bool.and_eq_true, decide_eq_true_eq, bne_iff_ne]
    exact q
theorem f_fair_no (m : Int) (c : List Int) (h : ¬ (1 ≤ m ∧ m ≤ 9)) : PyKzs2.fair m c = [-22] := by
  show (Kzs2.answer (.fair m.toNat (Kzs2Neutral.natsOf c))).value :: (Kzs2.answer (.fair m.toNat (Kzs2Neutral.natsOf c))).nums = [-22]
  have e : Kzs2.answer (.fair m.toNat (Kzs2Neutral.natsOf c)) = Kzs1.say (-22) := if_pos (by unfold Kzs2.most; omega)
  rw [e]
  rfl
theorem f_fair (n : Nat) (c : List Int) (h : 1 ≤ n ∧ n ≤ 9) : PyKzs2.fair (n : Int) c = [if Kzs2.fair n (c.map Int.toNat) = true then 1 else 0] := by
  show (Kzs2.answer (.fair n (Kzs2Neutral.natsOf c))).value :: (Kzs2.answer (.fair n (Kzs2Neutral.natsOf c))).nums = _
  have e : Kzs2.answer (.fair n (Kzs2Neutral.natsOf c)) = Kzs1.say (if Kzs2.fair n (Kzs2Neutral.natsOf c) then 1 else 0) := if_neg (by unfold Kzs2.most; omega)
  rw [e]
  rfl
end Tri

/-! ### G. Loops over what a def gives back; lists of new tuples; dicts by pairs -/
namespace Tri
open PySem PySem.Spec PyProof.Rows L2 Evl
abbrev rModI : R2 := rI (fun _ j => 0 < j) fun i j => .int (i % j)
/-- a walk that is there already -/
def iJ (J : It) : TI := fun _ H R => R J H
section
variable {K : PySem.W.Frag} {σ : L2.St} {H : Hp} {D : Ends} {tu tz : TS} {g : TG} {te ta tb td ty tv : TE} {v x y z : V}
theorem enum_go {a : Addr} {xs : List V} {p q : Nat} (Pv : Nat → L2.St → Hp → Prop) (h0 : Pv 0 σ H) (hq : ∀ i σ' H', i ≤ xs.length → Pv i σ' H' → SqL K H' a xs)
    (hs : ∀ (i : Nat) x σ' H', xs[i]? = some x → Pv i σ' H' → ∀ H2, Ex H' H2 → tu { D with nx := Pv (i + 1), ct := Pv (i + 1), bk := D.nx } ((σ'.set p (some (.int (i : Nat)))).set q (some x)) H2)
    (hd : ∀ σ' H', Pv xs.length σ' H' → D.nx σ' H') : tFor (iJ (Ite K a)) (gTup K 2 (gCons (gName p) (gCons (gName q) gNil))) tu D σ H :=
  for_it (walk_enum (xs := xs)) Pv h0 hq (fun i x σ' H' H2 hi pv y => by
    obtain ⟨T, x1, x2, rfl, hT, rfl, e1, e2⟩ := y
    cases (Option.some.inj e1)
    exact ⟨T, [_, x2], rfl, st_of upd_same, rfl, _, [x2], rfl, x2, [], rfl, rfl, hs i x2 σ' H' e2 pv _ (Ex.new hT)⟩) hd
def EnumK (K : PySem.W.Frag) (g : TG) (tu : TS) (D : Ends) (σ : L2.St) : VK := fun v H2 => ∃ a xs, [v] = [V.ref a] ∧ SqL K H2 a xs ∧ tFor (iJ (Ite K a)) g tu D σ H2
theorem s_forEC {sp : Sp} {E : XK} {t : TA} {vs : List V} (h : EvA t σ H vs) (hs : ∀ H1, Ex H H1 → sp (vs ++ []) H1 (EnumK K g tu D σ) E) : tFor (iEnum K (tCons (tCall sp [] E t) tNil)) g tu D σ H := h H (Ex.refl H) _ hs
theorem q_forEC {sp : Sp} {E : XK} {t : TA} {vs : List V} (h : EvA t σ H vs) (hs : ∀ H1, Ex H H1 → sp (vs ++ []) H1 (EnumK K g tu { D with nx := tz D } σ) E) : tSeq (tFor (iEnum K (tCons (tCall sp [] E t) tNil)) g tu) tz D σ H := s_forEC (D := { D with nx := tz D }) h hs
theorem q_forE {t : TA} {a : Addr} {xs : List V} {p q : Nat} (h : EvA t σ H [.ref a]) (hx : SqL K H a xs) (Pv : Nat → L2.St → Hp → Prop) (h0 : ∀ H1, Ex H H1 → Pv 0 σ H1) (hq : ∀ i σ' H', i ≤ xs.length → Pv i σ' H' → SqL K H' a xs)
    (hs : ∀ (i : Nat) x σ' H', xs[i]? = some x → Pv i σ' H' → ∀ H2, Ex H' H2 → tu { D with nx := Pv (i + 1), ct := Pv (i + 1), bk := tz D } ((σ'.set p (some (.int (i : Nat)))).set q (some x)) H2)
    (hd : ∀ σ' H', Pv xs.length σ' H' → tz D σ' H') : tSeq (tFor (iEnum K t) (gTup K 2 (gCons (gName p) (gCons (gName q) gNil))) tu) tz D σ H :=
  h H (Ex.refl H) _ fun H1 e => ⟨a, xs, rfl, ex_l e hx, enum_go (D := { D with nx := tz D }) Pv (h0 H1 e) hq hs hd⟩
theorem list_go {a : Addr} {xs : List V} (Pv : Nat → L2.St → Hp → Prop) (h0 : Pv 0 σ H) (hq : ∀ i σ' H', i ≤ xs.length → Pv i σ' H' → SqL K H' a xs)
    (hs : ∀ i x σ' H', xs[i]? = some x → Pv i σ' H' → g x σ' H' fun σ2 H2 => tu { D with nx := Pv (i + 1), ct := Pv (i + 1), bk := D.nx } σ2 H2)
    (hd : ∀ σ' H', Pv xs.length σ' H' → D.nx σ' H') : tFor (iJ (Itl K a)) g tu D σ H := for_list Pv h0 hq hs hd
def ListK (K : PySem.W.Frag) (g : TG) (tu : TS) (D : Ends) (σ : L2.St) : VK := fun v H2 => ∃ a, v = V.ref a ∧ (∃ xs, SqL K H2 a xs) ∧ tFor (iJ (Itl K a)) g tu D σ H2
theorem q_forLC {sp : Sp} {E : XK} {t : TA} {vs : List V} (h : EvA t σ H vs) (hs : ∀ H1, Ex H H1 → sp (vs ++ []) H1 (ListK K g tu { D with nx := tz D } σ) E) : tSeq (tFor (iList K (tCall sp [] E t)) g tu) tz D σ H := h H (Ex.refl H) _ hs
theorem zip_go {a b : Addr} {xs ys : List V} {p q : Nat} (hl : xs.length = ys.length) (Pv : Nat → L2.St → Hp → Prop) (h0 : Pv 0 σ H)
    (hq : ∀ i σ' H', Pv i σ' H' → SqL K H' a xs ∧ SqL K H' b ys)
    (hs : ∀ i x y σ' H', xs[i]? = some x → ys[i]? = some y → Pv i σ' H' → ∀ H2, Ex H' H2 → tu { D with nx := Pv (i + 1), ct := Pv (i + 1), bk := D.nx } ((σ'.set p (some x)).set q (some y)) H2)
    (hd : ∀ σ' H', Pv xs.length σ' H' → D.nx σ' H') : tFor (iJ (Itz K a b)) (gTup K 2 (gCons (gName p) (gCons (gName q) gNil))) tu D σ H :=
  RZ.for_zipL hl Pv h0 hq (fun i x y T σ' H' hxi hyi pv hT => ⟨T, [x, y], rfl, st_of upd_same, rfl, x, [y], rfl, y, [], rfl, rfl, hs i x y σ' H' hxi hyi pv _ (Ex.new hT)⟩) hd
def ZipK (K : PySem.W.Frag) (tr : TA) (g : TG) (tu : TS) (D : Ends) (σ : L2.St) : VK := fun v H2 => tr σ H2 fun ws H3 => ∃ a b xs ys, v :: ws = [V.ref a, V.ref b] ∧ SqL K H3 a xs ∧ SqL K H3 b ys ∧ tFor (iJ (Itz K a b)) g tu D σ H3
theorem q_forZC {sp : Sp} {E : XK} {t tr : TA} {vs : List V} (h : EvA t σ H vs) (hs : ∀ H1, Ex H H1 → sp (vs ++ []) H1 (ZipK K tr g tu { D with nx := tz D } σ) E) : tSeq (tFor (iZip K (tCons (tCall sp [] E t) tr)) g tu) tz D σ H := h H (Ex.refl H) _ hs
/-- arguments that are new tuples -/
def EvH (t : TA) (σ : L2.St) (H : Hp) (rows : List (List V)) : Prop := ∀ H1, Ex H H1 → ∀ Q : List V → Hp → Prop, (∀ as H2, Ex H1 H2 → Held H2 as rows → Q (as.map V.ref) H2) → t σ H1 Q
theorem eh_nil : EvH tNil σ H [] := fun H1 _ _ q => q [] H1 (Ex.refl H1) trivial
theorem eh_cons {tr : TA} {xs : List V} {rows : List (List V)} (h : EvU te σ H xs) (hr : EvH tr σ H rows) : EvH (tCons te tr) σ H (xs :: rows) := fun H1 e _ q =>
  h H1 e _ fun p _ _ e2 h2 => hr _ (e.trans e2) _ fun as H3 e3 hd => q (p :: as) H3 (e2.trans e3) ⟨e3 _ _ h2, hd⟩
theorem s_retH {t : TA} {rows : List (List V)} (h : EvH t σ H rows) (hl : rows.length ≤ 100000) (k : RetH rows H D.rt) : tRet (tLst t) D σ H := h H (Ex.refl H) _ fun as H1 e hd =>
  ⟨by rw [List.length_map, hd.len]; exact sz_of hl, fun l hn => k l _ ⟨fresh_back e hn, e.trans (Ex.new hn), as, upd_same, hd.ex (Ex.new hn)⟩⟩
theorem ev_dgetT {a b : Addr} {kvs : List (List L2.Key × V)} {ks : List L2.Key} (h : Ev ta σ H (.ref a)) (hk : Ev tb σ H (.ref b)) (hd : H a = some (.dT kvs)) (hb : H b = some (.tup (ks.map kV))) (hv : valV kvs ks = some v) : Ev (tDGet ta tb) σ H v := fun H1 e Q q =>
  h H1 e _ fun H2 e2 => hk H2 (e.trans e2) _ fun H3 e3 => ⟨a, v, rfl, hv ▸ DGet.t (((e.trans e2).trans e3) _ _ hd) (((e.trans e2).trans e3) _ _ hb), q H3 (e2.trans e3)⟩
theorem s_dputT {a : Addr} {kvs : List (List L2.Key × V)} {ks : List L2.Key} (hd : H a = some (.dT kvs)) (hl : kvs.length < 100000) (ha : Ev td σ H (.ref a)) (hk : EvU ty σ H (ks.map kV)) (hv : Ev tv σ H v) (k : ∀ H1, Ex H H1 → D.nx σ (upd H1 a (.dT (putK kvs ks v)))) : sDPut td ty tv D σ H :=
  hv H (Ex.refl H) _ fun H1 e1 => ha H1 e1 _ fun H2 e2 => hk H2 (e1.trans e2) _ fun p H3 _ e3 h3 => ⟨a, _, rfl, DPut.t (((e1.trans e2).trans e3) _ _ hd) h3 (sz_lt hl), k H3 ((e1.trans e2).trans e3)⟩
theorem s_extL {l : Addr} {us ws : List V} (hl : H l = some (.lst us)) (ha : Ev ta σ H (.ref l)) (h : EvL te σ H ws) (hz : us.length + ws.length ≤ 100000) (k : ∀ H1, Ex H H1 → D.nx σ (upd H1 l (.lst (us ++ ws)))) :
    tDrop (tBM K "list" rExtend ta (tCons te tNil)) D σ H := ha H (Ex.refl H) _ fun H1 e1 =>
  ⟨Or.inl ⟨rfl, us, sq_of (e1 l _ hl)⟩, h H1 e1 _ fun b H2 _ e2 h2 => ⟨l, b, us, ws, rfl, rfl, e2 l _ (e1 l _ hl), h2, sz_of hz, k H2 (e1.trans e2)⟩⟩
theorem q_extL {l : Addr} {us ws : List V} (hl : H l = some (.lst us)) (ha : Ev ta σ H (.ref l)) (h : EvL te σ H ws) (hz : us.length + ws.length ≤ 100000) (k : ∀ H1, Ex H H1 → tz D σ (upd H1 l (.lst (us ++ ws)))) :
    tSeq (tDrop (tBM K "list" rExtend ta (tCons te tNil))) tz D σ H := s_extL (D := { D with nx := tz D }) hl ha h hz k
theorem el_cat {b : Addr} {xs ys : List V} (ha : EvL ta σ H xs) (hb : Ev tb σ H (.ref b)) (hy : H b = some (.lst ys)) (hz : xs.length + ys.length ≤ 100000) : EvL (tOp rCat ta tb) σ H (xs ++ ys) := fun H1 e Q q =>
  ha H1 e _ fun a H2 hn e2 h2 => hb H2 (e.trans e2) _ fun H3 e3 => ⟨a, b, xs, ys, rfl, rfl, e3 _ _ h2, ((e.trans e2).trans e3) _ _ hy, sz_of hz, fun p hp => q p _ (fresh_back (e2.trans e3) hp) ((e2.trans e3).trans (Ex.new hp)) upd_same⟩
/-- [e for b in f(..)], f giving a new list of new tuples -/
theorem el_lcC {sp : Sp} {E : XK} {t : TA} {vs : List V} {rows : List (List V)} {j : Nat} {ws : List Nat} (v : Nat → V) (h : EvA t σ H vs) (hs : ∀ H1, Ex H H1 → ∀ Q E, RetH rows H1 Q → sp (vs ++ []) H1 Q E) (hz : rows.length ≤ 40000)
    (hw : ∀ x, wipe ((wipe σ ws).set j (some x)) ws = wipe σ ws) (he : ∀ (i : Nat) (b : Addr) (row : List V) H1, Ex H H1 → rows[i]? = some row → H1 b = some (.tup row) → Ev te ((wipe σ ws).set j (some (.ref b))) H1 (v i)) :
    EvL (tLc (iList K (tCall sp [] E t)) (gName j) tYes te ws) σ H (given rows.length (fun _ => true) v) := fun H0 e Q q => h H0 e _ fun H1 e1 => hs H1 (e.trans e1) _ _ fun a H2 g => by
  obtain ⟨ha, e2, as, hl, hd⟩ := g
  refine ⟨a, rfl, ⟨as.map V.ref, sq_of hl⟩, fun Dl hD => ?_⟩
  have hE : Ex H H2 := (e.trans e1).trans e2
  refine lc_list (xs := as.map V.ref) (Cw H2 (fun _ => true) v Dl) ⟨hD, Ex.new hD, upd_same⟩ (fun i H' _ p => sq_of (p.2.1 a _ hl)) (fun i x H' hi p => ⟨hw x, ?_⟩)
    (fun H' p => q Dl H' (fresh_back (e1.trans e2) p.1) ((e1.trans e2).trans p.2.1) (by
      have := p.2.2
      rw [List.length_map, hd.len] at this
      exact this))
  have hlt := (List.getElem?_eq_some_iff.mp hi).1
  rw [List.length_map, hd.len] at hlt
  obtain ⟨b, row, rfl, hr, hb⟩ := hd.get hi
  exact cw_turn p (by omega) (fun H3 _ _ q => q H3 (Ex.refl H3)) fun _ => he i b row H2 hE hr hb
theorem q_asgDT {i : Nat} (k : ∀ p, H p = none → tz D (σ.set i (some (.ref p))) (upd H p (.dT []))) : tSeq (tAsg tDNewT (gName i)) tz D σ H := k
/-- x = f([..]) -/
theorem q_asgCL {sp : Sp} {E : XK} {i : Nat} {xs : List V} (h : EvL te σ H xs) (hs : ∀ p H1, Ex H H1 → H1 p = some (.lst xs) → sp [.ref p] H1 (fun v H2 => tz D (σ.set i (some v)) H2) E) :
    tSeq (tAsg (tCall sp [] E (tCons te tNil)) (gName i)) tz D σ H := h H (Ex.refl H) _ fun p H1 _ e h1 => hs p H1 e h1
end
theorem RetH.go {rows : List (List V)} {H H' : Hp} {Q : VK} (k : RetH rows H Q) (e : Ex H H') : RetH rows H' Q := fun p H2 g =>
  let ⟨a, b, as, c, d⟩ := g
  k p H2 ⟨fresh_back e a, e.trans b, as, c, d⟩
theorem RetH.is {rows rows' : List (List V)} {H : Hp} {Q : VK} (k : RetH rows H Q) (e : rows = rows') : RetH rows' H Q := e ▸ k
end Tri

/-! ### N. A dict whose keys are pairs of pairs of whole numbers -/
namespace Tri
open PySem PySem.Spec PyProof.Rows L2 Evl
/-- from a place to a place -/
abbrev Sd := (Int × Int) × (Int × Int)
def keyN (s : Sd) : NestedKey := .tup [.tup [.num s.1.1, .num s.1.2], .tup [.num s.2.1, .num s.2.2]]
theorem keyN_inj {s t : Sd} (h : keyN s = keyN t) : s = t := by
  obtain ⟨⟨a, b⟩, c, d⟩ := s
  obtain ⟨⟨a', b'⟩, c', d'⟩ := t
  unfold keyN at h
  simp only [NestedKey.tup.injEq, List.cons.injEq, NestedKey.num.injEq, and_true] at h
  obtain ⟨⟨h1, h2⟩, h3, h4⟩ := h
  rw [h1, h2, h3, h4]
def HP (H : Hp) (a : Addr) (p : Int × Int) : Prop := H a = some (.tup [.int p.1, .int p.2])
def HS (H : Hp) (b : Addr) (s : Sd) : Prop := ∃ q r, H b = some (.tup [.ref q, .ref r]) ∧ HP H q s.1 ∧ HP H r s.2
/-- the tuples of one heap stand in the other -/
def Tx (H H' : Hp) : Prop := ∀ a xs, H a = some (.tup xs) → H' a = some (.tup xs)
theorem Tx.of {H H' : Hp} (e : Ex H H') : Tx H H' := fun a _ h => e a _ h
theorem Tx.refl (H : Hp) : Tx H H := fun _ _ h => h
theorem Tx.trans {H H1 H2 : Hp} (a : Tx H H1) (b : Tx H1 H2) : Tx H H2 := fun x _ h => b x _ (a x _ h)
theorem Tx.mut {H : Hp} {p : Addr} {o n : HO} (h : H p = some o) (ho : ∀ xs, o ≠ .tup xs) : Tx H (upd H p n) := fun a xs e => by
  rw [upd_ne (fun z => by
    rw [z, h] at e
    exact ho xs (Option.some.inj e))]
  exact e
theorem Held.tx {H H' : Hp} (e : Tx H H') : ∀ {as : List Addr} {xs : List (List V)}, Held H as xs → Held H' as xs
  | [], [], _ => trivial
  | a :: _, _ :: _, h => ⟨e a _ h.1, Held.tx e h.2⟩
  | [], _ :: _, h => h.elim
  | _ :: _, [], h => h.elim
theorem HS.tx {H H' : Hp} {b : Addr} {s : Sd} (e : Tx H H') (h : HS H b s) : HS H' b s :=
  let ⟨q, r, h1, h2, h3⟩ := h
  ⟨q, r, e _ _ h1, e _ _ h2, e _ _ h3⟩
abbrev KN : List (Sd × V) → List (NestedKey × Addr × Value) → Prop := Paired fun p q => q.1 = keyN p.1 ∧ RelV p.2 q.2.2
def DN (P : Program) (w : World) (a : Addr) (as : List Addr) (kvs : List (Sd × V)) : HO := .ext fun h => kvs.length ≤ sizeLine ∧ (a == sysModules) = false ∧ ∃ xs : List (NestedKey × Addr × Value), xs.map (·.2.1) = as ∧ KN kvs xs ∧
  ∃ o es ep, h.get? a = some o ∧ o.ExactDict ∧ o.data = .dict es ep ∧ es.toList = xs.map (entryOfKey (nestedKind P w)) ∧ (xs.map (·.1)).Nodup
/-- at a stands a dict with such keys -/
def HasN (P : Program) (w : World) (H : Hp) (a : Addr) (kvs : List (Sd × V)) : Prop := ∃ as, H a = some (DN P w a as kvs) ∧ Paired (fun b (kv : Sd × V) => HS H b kv.1) as kvs
theorem HasN.ex {P : Program} {w : World} {H H' : Hp} {a : Addr} {kvs : List (Sd × V)} (e : Ex H H') (h : HasN P w H a kvs) : HasN P w H' a kvs :=
  let ⟨as, h1, h2⟩ := h
  ⟨as, e _ _ h1, Paired.mapP h2 fun _ _ z => z.tx (.of e)⟩
theorem dn_not {P : Program} {w : World} {a : Addr} {as : List Addr} {kvs : List (Sd × V)} (xs : List V) : DN P w a as kvs ≠ .tup xs := fun z => by
  have zz : HO.ext _ = HO.tup xs := z
  exact nomatch zz
theorem KN.val {kvs : List (Sd × V)} {xs : List (NestedKey × Addr × Value)} (r : KN kvs xs) (k : Sd) : RelO (valV kvs k) ((atKey xs (keyN k)).map (·.2)) := by
  induction r with
  | nil => exact True.intro
  | @cons p q ps qs h t ih =>
    obtain ⟨h1, h2⟩ := h
    by_cases e : p.1 = k
    · have e' : q.1 = keyN k := by rw [h1, e]
      have b : atKey (q :: qs) (keyN k) = some q.2 := by simp [atKey, List.find?_cons, e']
      rw [valV_pos e, b]; exact h2
    · have e' : ¬ q.1 = keyN k := fun z => e (keyN_inj (h1.symm.trans z))
      have b : atKey (q :: qs) (keyN k) = atKey qs (keyN k) := by simp [atKey, List.find?_cons, e']
      rw [valV_neg e, b]; exact ih
theorem KN.repl {kvs : List (Sd × V)} {xs : List (NestedKey × Addr × Value)} (r : KN kvs xs) (k : Sd) {y : V} {u : Value} (ry : RelV y u) :
    KN (kvs.map fun kv => if kv.1 = k then (kv.1, y) else kv) (xs.map (putAt (keyN k) u)) := by
  induction r with
  | nil => exact .nil
  | @cons p q ps qs h t ih =>
    simp only [List.map_cons]
    refine .cons ?_ ih
    obtain ⟨h1, h3⟩ := h
    unfold putAt
    by_cases e : p.1 = k
    · rw [if_pos e, if_pos (by rw [h1, e])]; exact ⟨h1, ry⟩
    · rw [if_neg e, if_neg (fun z => e (keyN_inj (h1.symm.trans z)))]; exact ⟨h1, h3⟩
theorem putAt_addr (k : NestedKey) (u : Value) (xs : List (NestedKey × Addr × Value)) : (xs.map (putAt k u)).map (·.2.1) = xs.map (·.2.1) := by
  rw [List.map_map]
  refine List.map_congr_left (fun x _ => ?_)
  show (putAt k u x).2.1 = x.2.1
  unfold putAt
  split <;> rfl
theorem paired_repl {H : Hp} {k : Sd} {y : V} {as : List Addr} {kvs : List (Sd × V)} (h : Paired (fun b (kv : Sd × V) => HS H b kv.1) as kvs) : Paired (fun b (kv : Sd × V) => HS H b kv.1) as (kvs.map fun kv => if kv.1 = k then (kv.1, y) else kv) := by
  induction h with
  | nil => exact .nil
  | @cons p q ps qs h t ih =>
    rw [List.map_cons]
    refine .cons ?_ ih
    by_cases e : q.1 = k
    · rw [if_pos e]; exact h
    · rw [if_neg e]; exact h
/-- what stands behind a store -/
theorem KN.put {H : Hp} {kvs : List (Sd × V)} {xs : List (NestedKey × Addr × Value)} (r : KN kvs xs) (hp : Paired (fun b (kv : Sd × V) => HS H b kv.1) (xs.map (·.2.1)) kvs) (k : Sd) {b : Addr} {y : V} {u : Value} (hb : HS H b k) (ry : RelV y u) :
    KN (putK kvs k y) (storedH xs (keyN k) b u) ∧ Paired (fun b (kv : Sd × V) => HS H b kv.1) ((storedH xs (keyN k) b u).map (·.2.1)) (putK kvs k y) := by
  have e : (kvs.any fun kv => decide (kv.1 = k)) = (atKey xs (keyN k)).isSome := by
    rw [valV_any k kvs, (KN.val r k).isSome_eq, Option.isSome_map]
  unfold putK storedH
  rw [e]
  by_cases q : (atKey xs (keyN k)).isSome = true
  · rw [if_pos q, if_pos q, putAt_addr]
    exact ⟨r.repl k ry, paired_repl hp⟩
  · rw [if_neg q, if_neg q, List.map_append]
    exact ⟨Paired.snoc r ⟨rfl, ry⟩, Paired.snoc hp hb⟩
section
variable {P : Program} {w : World} {H : Hp} {h : Heap} {a b : Addr}
theorem place_of {p : Int × Int} (ok : HOk P w H h) (e : HP H a p) : NestedIs h (.tup [.num p.1, .num p.2]) (.ref a) := by
  obtain ⟨_, its, r, o, h1, h2, n, h3⟩ := (show ObjOk P w H h a (.tup [.int p.1, .int p.2]) from ok a _ e)
  refine NestedIs.tup h1 h2 h3 ?_
  cases r with
  | cons r1 r2 =>
    cases r2 with
    | cons r2 r3 =>
      cases r3
      obtain ⟨t, rfl⟩ := r1
      obtain ⟨u, rfl⟩ := r2
      exact .cons (.int _ _) (.cons (.int _ _) .nil)
theorem keyN_of {k : Sd} (ok : HOk P w H h) (e : HS H b k) : (nestedKind P w).is h (keyN k) b := by
  obtain ⟨q, r, e1, e2, e3⟩ := e
  obtain ⟨_, its, rv, o, h1, h2, n, h3⟩ := (show ObjOk P w H h b (.tup [.ref q, .ref r]) from ok b _ e1)
  refine ⟨NestedIs.tup h1 h2 h3 ?_, ?_⟩
  · cases rv with
    | cons r1 r2 =>
      cases r2 with
      | cons r2 r3 =>
        cases r3
        cases r1
        cases r2
        exact .cons (place_of ok e2) (.cons (place_of ok e3) .nil)
  · simp [keyN, NestedKey.depth, NestedKey.depthAll]
theorem dn_of {kvs : List (Sd × V)} (ok : HOk P w H h) (e : HasN P w H a kvs) : kvs.length ≤ sizeLine ∧ (a == sysModules) = false ∧ ∃ xs, H a = some (DN P w a (xs.map (·.2.1)) kvs) ∧ KN kvs xs ∧ Paired (fun b (kv : Sd × V) => HS H b kv.1) (xs.map (·.2.1)) kvs ∧ h.DictOfH (nestedKind P w) a xs := by
  obtain ⟨as, e1, e2⟩ := e
  have x : ObjOk P w H h a (DN P w a as kvs) := ok a _ e1
  obtain ⟨⟨z, y, xs, rfl, r, o, es, ep, h1, h2, h3, h4, h5⟩, _⟩ := x
  refine ⟨z, y, xs, e1, r, e2, o, es, ep, h1, h2, h3, h4, ?_, h5⟩
  have all : ∀ {l : List (Sd × V)} {m : List (NestedKey × Addr × Value)}, KN l m → Paired (fun b (kv : Sd × V) => HS H b kv.1) (m.map (·.2.1)) l → ∀ x ∈ m, (nestedKind P w).is h x.1 x.2.1 := by
    intro l m q
    induction q with
    | nil => intro _ x hx; exact nomatch hx
    | @cons p q ps qs hq t ih =>
      intro pr x hx
      rw [List.map_cons] at pr
      cases pr with
      | cons p1 p2 =>
        rcases List.mem_cons.mp hx with e | hx2
        · subst e
          rw [hq.1]
          exact keyN_of ok p1
        · exact ih p2 x hx2
  exact all r e2
theorem dn_ok {H' : Hp} {h' : Heap} {kvs : List (Sd × V)} {xs : List (NestedKey × Addr × Value)} (z : kvs.length ≤ sizeLine) (y : (a == sysModules) = false) (r : KN kvs xs) {o : Obj} {es : Array DictEntry} {ep : Nat} (h1 : h'.get? a = some o) (h2 : o.ExactDict) (h3 : o.data = .dict es ep)
    (h4 : es.toList = xs.map (entryOfKey (nestedKind P w))) (h5 : (xs.map (·.1)).Nodup) : ObjOk P w H' h' a (DN P w a (xs.map (·.2.1)) kvs) :=
  ⟨⟨z, y, xs, rfl, r, o, es, ep, h1, h2, h3, h4, h5⟩, ⟨o, h1⟩, fun g1 g2 f k => by
    obtain ⟨z, y, xs, hx, r, o, es, ep, h1, h2, h3, h4, h5⟩ := f
    exact ⟨z, y, xs, hx, r, o, es, ep, k _ h1, h2, h3, h4, h5⟩⟩
end
section
variable {X : Cx} {pins : List (Addr × Obj)} {σ : L2.St} {H : Hp} {s : Shared} {a b : Addr} {k : Sd} {v : V} {r : Value} {A : Around} {E : Value → Shared → Prop} {kvs : List (Sd × V)}
theorem n_getItem {Q : Value → Shared → Prop} (hu : A.units + 64 < cLine) (I : Inv X pins σ H s) (g : HasN X.prog X.w H a kvs) (eb : HS H b k) (hv : valV kvs k = some v) (h : ∀ w' s', Inv X pins σ H s' → RelV v w' → Q w' s') :
    wpAny (model X.prog X.w) A (getItem (.ref a) (.ref b)) Q E s := by
  obtain ⟨z, hd, xs, _, rel, _, dd⟩ := dn_of I.hok g
  obtain ⟨w', hw, rw'⟩ := RelO.some_of (v := v) (o := (atKey xs (keyN k)).map (·.2)) (by rw [← hv]; exact rel.val k)
  obtain ⟨pe, hp, hp2⟩ := Option.map_eq_some_iff.mp hw
  refine wpAny_getItem_heap (knd := nestedKind X.prog X.w) (by show A.units + 1 + 8 < cLine; omega) (keyN_of I.hok eb) dd hp ?_
  rw [hp2]
  exact h w' _ (I.tok _) rw'
theorem n_setItem {Q : Unit → Shared → Prop} (hu : A.units + 64 < cLine) (I : Inv X pins σ H s) (g : HasN X.prog X.w H a kvs) (hl : kvs.length < sizeLine) (eb : HS H b k) (rv : RelV v r)
    (h : ∀ s' as, Inv X pins σ (upd H a (DN X.prog X.w a as (putK kvs k v))) s' → HasN X.prog X.w (upd H a (DN X.prog X.w a as (putK kvs k v))) a (putK kvs k v) → Q () s') :
    wpAny (model X.prog X.w) A (setItem (.ref a) (.ref b) r) Q E s := by
  obtain ⟨z, hd, xs, e, rel, pr, dd⟩ := dn_of I.hok g
  have hz : xs.length ≤ sizeLine := Paired.length rel ▸ z
  have hl2 : (putK kvs k v).length ≤ sizeLine := Nat.le_trans (length_putK kvs k v) hl
  obtain ⟨n1, n2⟩ := rel.put pr k eb rv
  refine wpAny_setItem_heap (hsz := hz) (knd := nestedKind X.prog X.w) (by show A.units + 1 + 8 < cLine; omega) (keyN_of I.hok eb) dd fun h' dd' hs => h _ ((storedH xs (keyN k) b r).map (·.2.1)) ?_ ⟨_, upd_same, ?_⟩
  · obtain ⟨q, es, ep, hq, h2, h3, h4, _, h5⟩ := dd'
    exact d_write I (by rw [e]; exact True.intro) hs ⟨q, hq⟩ (dn_ok hl2 hd n1 hq h2 h3 h4 h5)
  · exact Paired.mapP n2 fun _ _ z => z.tx (Tx.mut e dn_not)
end
def tNGet (P : Program) (w : World) (td ty : TE) : TE := fun σ H Q => td σ H fun x H1 => ty σ H1 fun y H2 => ∃ a b kvs k v, x = .ref a ∧ y = .ref b ∧ HasN P w H2 a kvs ∧ HS H2 b k ∧ valV kvs k = some v ∧ Q v H2
def sNPut (P : Program) (w : World) (td ty tv : TE) : TS := fun D σ H => tv σ H fun v H1 => td σ H1 fun x H2 => ty σ H2 fun y H3 => ∃ a b kvs k, x = .ref a ∧ y = .ref b ∧ HasN P w H3 a kvs ∧ kvs.length < sizeLine ∧ HS H3 b k ∧
  ∀ as, HasN P w (upd H3 a (DN P w a as (putK kvs k v))) a (putK kvs k v) → D.nx σ (upd H3 a (DN P w a as (putK kvs k v)))
def tNNew (P : Program) (w : World) : TE := fun _ H Q => ∀ p, H p = none → Q (.ref p) (upd H p (DN P w p [] []))
section
variable {X : Cx} {o i value : Expr} {pos pos' : Pos} {td ty tv : TE}
theorem pe_nget (hu : X.A.units + 64 < cLine) (ho : PE X o td) (hi : PE X i ty) (hs : NoSl i) : PE X (.Subscript o i pos) (tNGet X.prog X.w td ty) := by
  refine PE.mk fun pins s σ H Q I h => ?_
  refine subD_of PySem.F.slot_dict_getitem.lookup hs (thn (ho.run pins s σ H _ I h) fun u s1 ⟨x, H1, I1, rx, q1⟩ => thn (hi.run pins s1 σ H1 _ I1 q1) fun iv s2 ⟨y, H2, I2, ry, a, b, kvs, k, v, ex, ey, g, hb, hv, q2⟩ => ?_)
  subst ex ey
  obtain rfl : u = .ref a := rx
  obtain rfl : iv = .ref b := ry
  obtain ⟨_, _, _, _, _, _, dd⟩ := dn_of I2.hok g
  exact ⟨dd.typeIs, n_getItem hu I2 g hb hv fun w' s3 I3 rw' => ⟨v, H2, I3, rw', q2⟩⟩
theorem ps_nput (hu : X.A.units + 64 < cLine) (ho : PE X o td) (hi : PE X i ty) (hv : PE X value tv) (hs : swapsWith value (some (.Subscript o i pos')) pos.line X.env = pure false) :
    PS X (.Assign [.Subscript o i pos'] value pos) (sNPut X.prog X.w td ty tv) := by
  refine PS.mk fun pins s σ H D I h => ?_
  refine wpAny_Assign_Subscript (thn (hv.run pins s σ H _ I h) fun r s1 ⟨v, H1, I1, rv, q1⟩ => thn (ho.run pins s1 σ H1 _ I1 q1) fun u s2 ⟨x, H2, I2, rx, q2⟩ => thn (hi.run pins s2 σ H2 _ I2 q2) fun iv s3 ⟨y, H3, I3, ry, a, b, kvs, k, ex, ey, g, hl, hb, q3⟩ => ?_) hs
  subst ex ey
  obtain rfl : u = .ref a := rx
  obtain rfl : iv = .ref b := ry
  exact n_setItem hu I3 g hl hb rv fun s4 as I4 g4 => ⟨σ, _, I4, q3 as g4⟩
theorem pe_nnew : PE X (.Dict [] [] pos) (tNNew X.prog X.w) := ⟨fun pins s σ H Q I h =>
  wpAny_Dict_empty ⟨.ref s.heap.objs.size, _, I.laid (a := s.heap.objs.size) (o := DN X.prog X.w s.heap.objs.size [] []) (t' := s.toks) (fun _ _ q => Heap.get?_push_of_some _ q) (Nat.le_refl _)
    (dn_ok (xs := []) (Nat.zero_le _) (beq_eq_false_iff_ne.mpr (Ne.symm (Nat.ne_of_lt I.big))) .nil (es := #[]) (ep := 0) (Heap.get?_push_size _ rfl) ⟨rfl, rfl, rfl⟩ rfl rfl List.nodup_nil), rfl, h _ (I.hok.fresh (Nat.le_refl _))⟩⟩
end
end Tri

/-! ### J. Rooms, their corners, the colours there -/
namespace Tri
theorem mem_places {m : Nat} {p : Kzs2.Place} (h : p.i + p.j ≤ m) : p ∈ Kzs2.places m := by
  unfold Kzs2.places
  rw [List.mem_flatMap]
  refine ⟨p.j, List.mem_range.mpr (by omega), ?_⟩
  rw [List.mem_map]
  exact ⟨p.i, List.mem_range.mpr (by omega), rfl⟩
theorem rooms_all : ∀ m : Nat, m < 10 → (Kzs2.rooms m).all (fun r => decide (r.i + r.j + (if r.u then 1 else 2) ≤ m)) = true := by decide +kernel
theorem room_in {m : Nat} {r : Kzs2.Room} (hm : m ≤ 9) (h : r ∈ Kzs2.rooms m) : r.i + r.j + (if r.u then 1 else 2) ≤ m := of_decide_eq_true (List.all_eq_true.mp (rooms_all m (by omega)) r h)
theorem corner_in {m : Nat} {r : Kzs2.Room} {p : Kzs2.Place} (hm : m ≤ 9) (h : r ∈ Kzs2.rooms m) (hp : p ∈ Kzs2.corners r) : p ∈ Kzs2.places m := by
  have q := room_in hm h
  obtain ⟨i, j, u⟩ := r
  cases u with
  | true =>
    simp only [Kzs2.corners, if_true, List.mem_cons, List.not_mem_nil, or_false] at hp
    have q : i + j + 1 ≤ m := q
    rcases hp with rfl | rfl | rfl <;> refine mem_places ?_ <;> dsimp only <;> omega
  | false =>
    have e : Kzs2.corners ⟨i, j, false⟩ = [⟨i + 1, j + 1⟩, ⟨i, j + 1⟩, ⟨i + 1, j⟩] := rfl
    rw [e] at hp
    simp only [List.mem_cons, List.not_mem_nil, or_false] at hp
    have q : i + j + 2 ≤ m := q
    rcases hp with rfl | rfl | rfl <;> refine mem_places ?_ <;> dsimp only <;> omega
theorem fair_at {m : Nat} {c : List Nat} {p : Kzs2.Place} (hm : m ≤ 9) (hf : Kzs2.fair m c = true) (hp : p ∈ Kzs2.places m) : Kzs2.colour m c p ≤ 2 ∧ Kzs2.number m p (Kzs2.colour m c p) ≠ 0 := by
  obtain ⟨hl, h⟩ := (fair_iff hm).mp hf
  obtain ⟨i, hi⟩ := List.mem_iff_getElem?.mp hp
  have hlt : i < c.length := by
    rw [hl]
    exact (List.getElem?_eq_some_iff.mp hi).1
  have q := h i p c[i] hi (List.getElem?_eq_getElem hlt)
  have e : Kzs2.colour m c p = c[i] := by
    unfold Kzs2.colour
    rw [noOf_at hm hi]
    exact getD_at (List.getElem?_eq_getElem hlt)
  rw [e]
  exact q
theorem colour_at {m i : Nat} {c : List Nat} {p : Kzs2.Place} {x : Nat} (hm : m ≤ 9) (hi : (Kzs2.places m)[i]? = some p) (hx : c[i]? = some x) : Kzs2.colour m c p = x := by
  unfold Kzs2.colour
  rw [noOf_at hm hi]
  exact getD_at hx
def turnI (x y z : Int) : Int := if (z - y) % 3 = (y - x) % 3 then (y - x) % 3 else 0
theorem meets_turn {m : Nat} {c : List Nat} {r : Kzs2.Room} {x y z : Nat} (h : Kzs2.colours m c r = [x, y, z]) (hx : x ≤ 2) (hy : y ≤ 2) (hz : z ≤ 2) : (Kzs2.meets m c r : Int) = turnI x y z := by
  unfold Kzs2.meets
  rw [h]
  obtain rfl | rfl | rfl : x = 0 ∨ x = 1 ∨ x = 2 := by omega
  all_goals obtain rfl | rfl | rfl : y = 0 ∨ y = 1 ∨ y = 2 := by omega
  all_goals obtain rfl | rfl | rfl : z = 0 ∨ z = 1 ∨ z = 2 := by omega
  all_goals rfl
theorem corners_three (r : Kzs2.Room) : ∃ p q s, Kzs2.corners r = [p, q, s] := by
  obtain ⟨i, j, u⟩ := r
  cases u
  · exact ⟨_, _, _, rfl⟩
  · exact ⟨_, _, _, rfl⟩
/-- what meets in room k -/
def mt (m : Nat) (c : List Nat) (k : Nat) : Nat := Kzs2.meets m c ((Kzs2.rooms m).getD k ⟨0, 0, true⟩)
theorem mt_at {m : Nat} {c : List Nat} {k : Nat} {r : Kzs2.Room} (h : (Kzs2.rooms m)[k]? = some r) : mt m c k = Kzs2.meets m c r := by
  unfold mt
  rw [List.getD_eq_getElem?_getD, h]
  rfl
def foundTo (m : Nat) (c : List Nat) (i : Nat) : List Nat := (List.range i).filter fun k => mt m c k != 0
theorem foundTo_all (m : Nat) (c : List Nat) : Kzs2.found m c = foundTo m c (Kzs2.rooms m).length := rfl
theorem foundTo_yes {m : Nat} {c : List Nat} {i : Nat} (h : mt m c i ≠ 0) : foundTo m c (i + 1) = foundTo m c i ++ [i] := by
  unfold foundTo
  rw [List.range_succ, List.filter_append]
  have e : (mt m c i != 0) = true := bne_iff_ne.mpr h
  rw [List.filter_cons, e]
  rfl
theorem foundTo_no {m : Nat} {c : List Nat} {i : Nat} (h : mt m c i = 0) : foundTo m c (i + 1) = foundTo m c i := by
  unfold foundTo
  rw [List.range_succ, List.filter_append, List.filter_cons, h]
  exact List.append_nil _
theorem foundTo_len (m : Nat) (c : List Nat) (i : Nat) : (foundTo m c i).length ≤ i := by
  have h := List.length_filter_le (fun k => mt m c k != 0) (List.range i)
  rw [List.length_range] at h
  exact h
theorem rooms_few {m : Nat} (hm : m ≤ 9) : (Kzs2.rooms m).length ≤ 162 := by
  have a := upTo_len m m
  have c : 2 * m * m ≤ 18 * 9 := Nat.mul_le_mul (by omega) (by omega)
  rw [rooms_upTo]
  omega
theorem withFair_no {m : Int} {c : List Int} (h : ¬ ((1 ≤ m ∧ m ≤ 9) ∧ Kzs2.fair m.toNat (c.map Int.toNat) = true)) (k : Unit → Kzs1.Ans) : Kzs2.withFair m.toNat (Kzs2Neutral.natsOf c) k = Kzs1.say (-22) := by
  unfold Kzs2.withFair Kzs2.most
  refine if_pos ?_
  by_cases a : m.toNat = 0 ∨ 9 < m.toNat
  · exact a.elim Or.inl fun z => Or.inr (Or.inl z)
  · refine Or.inr (Or.inr ?_)
    cases q : Kzs2.fair m.toNat (Kzs2Neutral.natsOf c) with
    | false => rfl
    | true => exact absurd ⟨by omega, q⟩ h
theorem withFair_yes {n : Nat} {c : List Int} (h : 1 ≤ n ∧ n ≤ 9) (hf : Kzs2.fair n (c.map Int.toNat) = true) (k : Unit → Kzs1.Ans) : Kzs2.withFair n (Kzs2Neutral.natsOf c) k = k () := by
  unfold Kzs2.withFair Kzs2.most
  refine if_neg ?_
  rintro (a | a | a)
  · omega
  · omega
  · have q : Kzs2.fair n (Kzs2Neutral.natsOf c) = true := hf
    rw [q] at a
    cases a
theorem f_found_no (m : Int) (c : List Int) (h : ¬ ((1 ≤ m ∧ m ≤ 9) ∧ Kzs2.fair m.toNat (c.map Int.toNat) = true)) : PyKzs2.found m c = [-22] := by
  show (Kzs2.answer (.found m.toNat (Kzs2Neutral.natsOf c))).value :: (Kzs2.answer (.found m.toNat (Kzs2Neutral.natsOf c))).nums = [-22]
  have e : Kzs2.answer (.found m.toNat (Kzs2Neutral.natsOf c)) = Kzs1.say (-22) := by
    rw [Kzs2.answer]
    exact withFair_no h _
  rw [e]
  rfl
theorem f_found (n : Nat) (c : List Int) (h : 1 ≤ n ∧ n ≤ 9) (hf : Kzs2.fair n (c.map Int.toNat) = true) : PyKzs2.found (n : Int) c = ((foundTo n (c.map Int.toNat) (Kzs2.rooms n).length).length : Int) :: (foundTo n (c.map Int.toNat) (Kzs2.rooms n).length).flatMap fun (k : Nat) => [(k : Int), (mt n (c.map Int.toNat) k : Int)] := by
  show (Kzs2.answer (.found n (Kzs2Neutral.natsOf c))).value :: (Kzs2.answer (.found n (Kzs2Neutral.natsOf c))).nums = _
  have e : Kzs2.answer (.found n (Kzs2Neutral.natsOf c)) = ⟨((Kzs2.found n (Kzs2Neutral.natsOf c)).length : Nat), (Kzs2.found n (Kzs2Neutral.natsOf c)).flatMap fun (k : Nat) => [(k : Int), (mt n (Kzs2Neutral.natsOf c) k : Int)]⟩ := by
    rw [Kzs2.answer]
    exact withFair_yes h hf _
  rw [e]
  rfl
end Tri

/-! ### M. Sides, the points that have them, the row of the lines -/
namespace Tri
/-- a side, from a place to a place -/
abbrev Side := Kzs2.Place × Kzs2.Place
def rev (s : Side) : Side := (s.2, s.1)
def outerSide (m i : Nat) : Side := (⟨i, m - i⟩, ⟨i + 1, m - i - 1⟩)
/-- of each point its sides -/
def sidesOf (m : Nat) : List (List Side) := (Kzs2.rooms m).map Kzs2.sides ++ (List.range m).map fun i => [outerSide m i]
/-- the last point below n that has a side -/
def lastWith (L : List (List Side)) (s : Side) : Nat → Option Nat
  | 0 => none
  | n + 1 => if s ∈ L.getD n [] then some n else lastWith L s n
/-- the point beyond a room's side -/
def goal (m : Nat) (s : Side) : Nat := match Kzs2.beyond m s with
  | some k => k
  | none => Kzs2.outer m s
/-- the room of an outer side -/
def roomOf (m : Nat) (o : Side) : Nat := ((Kzs2.rooms m).findIdx? fun r => (Kzs2.sides r).contains (rev o)).getD (Kzs2.rooms m).length
def tableA (m : Nat) : Bool := (Kzs2.rooms m).all fun r => (Kzs2.sides r).all fun s => match lastWith (sidesOf m) (rev s) (sidesOf m).length with
  | some k => goal m s == k
  | none => (s.1.i == 0 && s.2.i == 0) || (s.1.j == 0 && s.2.j == 0)
def tableB (m : Nat) : Bool := (List.range m).all fun i => lastWith (sidesOf m) (rev (outerSide m i)) (sidesOf m).length == some (roomOf m (outerSide m i))
set_option maxRecDepth 100000 in
theorem tableA_all : ∀ m : Nat, m < 10 → tableA m = true := by decide +kernel
set_option maxRecDepth 100000 in
theorem tableB_all : ∀ m : Nat, m < 10 → tableB m = true := by decide +kernel
/-- a door from a colour to a colour -/
def isDoor (m : Nat) (c : List Nat) (x y : Nat) (s : Side) : Bool := Kzs2.colour m c s.1 == x && Kzs2.colour m c s.2 == y
/-- what's told of a point by its sides -/
def told1 (m : Nat) (c : List Nat) (x y : Nat) (g : Side → Nat) (ss : List Side) : Nat := match ss.find? (isDoor m c x y) with
  | none => 0
  | some s => g s + 1
theorem sides_in {m : Nat} {r : Kzs2.Room} {s : Side} (hm : m ≤ 9) (hr : r ∈ Kzs2.rooms m) (hs : s ∈ Kzs2.sides r) : s.1 ∈ Kzs2.places m ∧ s.2 ∈ Kzs2.places m := by
  obtain ⟨p, q, t, hc⟩ := corners_three r
  have h : Kzs2.sides r = [(p, q), (q, t), (t, p)] := by
    unfold Kzs2.sides
    rw [hc]
  rw [h] at hs
  have i0 := corner_in hm hr (p := p) (by rw [hc]; simp)
  have i1 := corner_in hm hr (p := q) (by rw [hc]; simp)
  have i2 := corner_in hm hr (p := t) (by rw [hc]; simp)
  simp only [List.mem_cons, List.not_mem_nil, or_false] at hs
  rcases hs with rfl | rfl | rfl
  · exact ⟨i0, i1⟩
  · exact ⟨i1, i2⟩
  · exact ⟨i2, i0⟩
theorem outer_in {m i : Nat} (h : i < m) : (outerSide m i).1 ∈ Kzs2.places m ∧ (outerSide m i).2 ∈ Kzs2.places m := by
  refine ⟨mem_places ?_, mem_places ?_⟩
  · show i + (m - i) ≤ m
    omega
  · show i + 1 + (m - i - 1) ≤ m
    omega
theorem door_both {m : Nat} {c : List Nat} {x y : Nat} {s : Side} (hxy : (x = 0 ∧ y = 1) ∨ (x = 1 ∧ y = 0)) (hm : m ≤ 9) (hf : Kzs2.fair m c = true) (h1 : s.1 ∈ Kzs2.places m) (h2 : s.2 ∈ Kzs2.places m) (hd : isDoor m c x y s = true) :
    ¬ ((s.1.i == 0 && s.2.i == 0) || (s.1.j == 0 && s.2.j == 0)) = true := by
  intro q
  unfold isDoor at hd
  rw [Bool.and_eq_true, beq_iff_eq, beq_iff_eq] at hd
  have f1 := (fair_at hm hf h1).2
  have f2 := (fair_at hm hf h2).2
  rw [hd.1] at f1
  rw [hd.2] at f2
  unfold Kzs2.number at f1 f2
  simp only [Bool.or_eq_true, Bool.and_eq_true, beq_iff_eq] at q
  rcases hxy with ⟨rfl, rfl⟩ | ⟨rfl, rfl⟩
  · rcases q with ⟨q1, _⟩ | ⟨_, q2⟩
    · exact f1 q1
    · exact f2 q2
  · rcases q with ⟨_, q2⟩ | ⟨q1, _⟩
    · exact f2 q2
    · exact f1 q1
/-- behind every door of a room there is a point -/
theorem room_goal {m : Nat} {c : List Nat} {x y : Nat} {r : Kzs2.Room} {s : Side} (hxy : (x = 0 ∧ y = 1) ∨ (x = 1 ∧ y = 0)) (hm : m ≤ 9) (hf : Kzs2.fair m c = true) (hr : r ∈ Kzs2.rooms m) (hs : s ∈ Kzs2.sides r) (hd : isDoor m c x y s = true) :
    lastWith (sidesOf m) (rev s) (sidesOf m).length = some (goal m s) := by
  have t := List.all_eq_true.mp (List.all_eq_true.mp (tableA_all m (by omega)) r hr) s hs
  have io := sides_in hm hr hs
  cases q : lastWith (sidesOf m) (rev s) (sidesOf m).length with
  | none =>
    rw [q] at t
    exact absurd t (door_both hxy hm hf io.1 io.2 hd)
  | some k =>
    rw [q] at t
    have t2 : (goal m s == k) = true := t
    rw [beq_iff_eq] at t2
    rw [t2]
theorem outer_room {m i : Nat} (hm : m ≤ 9) (hi : i < m) : lastWith (sidesOf m) (rev (outerSide m i)) (sidesOf m).length = some (roomOf m (outerSide m i)) := by
  have t := List.all_eq_true.mp (tableB_all m (by omega)) i (List.mem_range.mpr hi)
  exact beq_iff_eq.mp t
theorem sidesOf_len (m : Nat) : (sidesOf m).length = (Kzs2.rooms m).length + m := by
  unfold sidesOf
  rw [List.length_append, List.length_map, List.length_map, List.length_range]
/-- a point is a room, or an outer side -/
theorem point_cases {m k : Nat} {ss : List Side} (h : (sidesOf m)[k]? = some ss) : (∃ r, (Kzs2.rooms m)[k]? = some r ∧ ss = Kzs2.sides r) ∨ ∃ i, i < m ∧ k = (Kzs2.rooms m).length + i ∧ ss = [outerSide m i] := by
  unfold sidesOf at h
  by_cases hk : k < (Kzs2.rooms m).length
  · left
    rw [List.getElem?_append_left (by rw [List.length_map]; exact hk), List.getElem?_map] at h
    cases q : (Kzs2.rooms m)[k]? with
    | none =>
      rw [q] at h
      cases h
    | some r =>
      rw [q] at h
      exact ⟨r, rfl, (Option.some.inj h).symm⟩
  · right
    rw [List.getElem?_append_right (by rw [List.length_map]; omega), List.length_map, List.getElem?_map] at h
    by_cases hi : k - (Kzs2.rooms m).length < m
    · rw [List.getElem?_range hi] at h
      exact ⟨k - (Kzs2.rooms m).length, hi, by omega, (Option.some.inj h).symm⟩
    · rw [List.getElem?_eq_none (by rw [List.length_range]; omega)] at h
      cases h
theorem side_few {m : Nat} {ss : List Side} (h : ss ∈ sidesOf m) : ss.length ≤ 3 := by
  obtain ⟨k, hk⟩ := List.mem_iff_getElem?.mp h
  rcases point_cases hk with ⟨r, _, rfl⟩ | ⟨i, _, _, rfl⟩
  · obtain ⟨p, q, t, hc⟩ := corners_three r
    unfold Kzs2.sides
    rw [hc]
    exact Nat.le_refl 3
  · show 1 ≤ 3
    omega
theorem nx_len (m : Nat) (c : List Nat) : (Kzs2.toLines m c).nx.length = (sidesOf m).length := by
  unfold Kzs2.toLines
  rw [sidesOf_len, List.length_append, List.length_map, List.length_map, List.length_range]
theorem at_map {α : Type} {f : α → Nat} {l : List α} {k : Nat} {x : α} {t : List Nat} (h : l[k]? = some x) : (l.map f ++ t).getD k 0 = f x := by
  have hk := (List.getElem?_eq_some_iff.mp h).1
  rw [List.getD_eq_getElem?_getD, List.getElem?_append_left (by rw [List.length_map]; exact hk), List.getElem?_map, h]
  rfl
theorem at_range {α : Type} {f : α → Nat} {g : Nat → Nat} {l : List α} {m i : Nat} (h : i < m) : (l.map f ++ (List.range m).map g).getD (l.length + i) 0 = g i := by
  rw [List.getD_eq_getElem?_getD, List.getElem?_append_right (by rw [List.length_map]; omega), List.length_map, List.getElem?_map, show l.length + i - l.length = i by omega, List.getElem?_range h]
  rfl
theorem told_room (m : Nat) (c : List Nat) (x y : Nat) (ss : List Side) : told1 m c x y (goal m) ss = match ss.find? fun s => Kzs2.colour m c s.1 == x && Kzs2.colour m c s.2 == y with
    | none => 0
    | some s => (match Kzs2.beyond m s with
      | some k => k
      | none => Kzs2.outer m s) + 1 := rfl
theorem nx_room {m : Nat} {c : List Nat} {k : Nat} {r : Kzs2.Room} (h : (Kzs2.rooms m)[k]? = some r) : (Kzs2.toLines m c).nx.getD k 0 = told1 m c 1 0 (goal m) (Kzs2.sides r) := by
  unfold Kzs2.toLines
  exact at_map h
theorem bf_room {m : Nat} {c : List Nat} {k : Nat} {r : Kzs2.Room} (h : (Kzs2.rooms m)[k]? = some r) : (Kzs2.toLines m c).bf.getD k 0 = told1 m c 0 1 (goal m) (Kzs2.sides r) := by
  unfold Kzs2.toLines
  exact at_map h
theorem told_one (m : Nat) (c : List Nat) (x y : Nat) (g : Side → Nat) (s : Side) : told1 m c x y g [s] = if Kzs2.colour m c s.2 = y ∧ Kzs2.colour m c s.1 = x then g s + 1 else 0 := by
  unfold told1
  rw [List.find?_cons]
  by_cases h : isDoor m c x y s = true
  · rw [h]
    unfold isDoor at h
    rw [Bool.and_eq_true, beq_iff_eq, beq_iff_eq] at h
    rw [if_pos ⟨h.2, h.1⟩]
  · rw [Bool.not_eq_true] at h
    rw [h, if_neg]
    · rfl
    · rintro ⟨a, b⟩
      unfold isDoor at h
      rw [a, b, beq_self_eq_true, beq_self_eq_true] at h
      cases h
theorem nx_outer {m : Nat} {c : List Nat} {i : Nat} (h : i < m) : (Kzs2.toLines m c).nx.getD ((Kzs2.rooms m).length + i) 0 = told1 m c 1 0 (roomOf m) [outerSide m i] := by
  rw [told_one]
  unfold Kzs2.toLines
  exact at_range h
theorem bf_outer {m : Nat} {c : List Nat} {i : Nat} (h : i < m) : (Kzs2.toLines m c).bf.getD ((Kzs2.rooms m).length + i) 0 = told1 m c 0 1 (roomOf m) [outerSide m i] := by
  rw [told_one]
  unfold Kzs2.toLines
  exact at_range h
/-- the row of the lines, of the points below i -/
def rowUp (m : Nat) (c : List Nat) (i : Nat) : List Nat := (List.range i).flatMap fun v => [(Kzs2.toLines m c).nx.getD v 0, (Kzs2.toLines m c).bf.getD v 0]
theorem rowUp_succ (m : Nat) (c : List Nat) (i : Nat) : rowUp m c (i + 1) = rowUp m c i ++ [(Kzs2.toLines m c).nx.getD i 0, (Kzs2.toLines m c).bf.getD i 0] := flat_succ _ i
theorem rowUp_len (m : Nat) (c : List Nat) : ∀ i, (rowUp m c i).length = 2 * i
  | 0 => rfl
  | i + 1 => by
    rw [rowUp_succ, List.length_append, rowUp_len m c i]
    show _ + 2 = _
    omega
theorem written_row (m : Nat) (c : List Nat) : Kzs1.written (Kzs2.toLines m c) = rowUp m c (sidesOf m).length := by
  rw [← nx_len m c]
  rfl
theorem f_lines_no (m : Int) (c : List Int) (h : ¬ ((1 ≤ m ∧ m ≤ 9) ∧ Kzs2.fair m.toNat (c.map Int.toNat) = true)) : PyKzs2.lines m c = [-22] := by
  show (Kzs2.answer (.lines m.toNat (Kzs2Neutral.natsOf c))).value :: (Kzs2.answer (.lines m.toNat (Kzs2Neutral.natsOf c))).nums = [-22]
  have e : Kzs2.answer (.lines m.toNat (Kzs2Neutral.natsOf c)) = Kzs1.say (-22) := by
    rw [Kzs2.answer]
    exact withFair_no h _
  rw [e]
  rfl
theorem f_lines (n : Nat) (c : List Int) (h : 1 ≤ n ∧ n ≤ 9) (hf : Kzs2.fair n (c.map Int.toNat) = true) : PyKzs2.lines (n : Int) c = ((rowUp n (c.map Int.toNat) (sidesOf n).length).length : Int) :: (rowUp n (c.map Int.toNat) (sidesOf n).length).map fun (x : Nat) => (x : Int) := by
  show (Kzs2.answer (.lines n (Kzs2Neutral.natsOf c))).value :: (Kzs2.answer (.lines n (Kzs2Neutral.natsOf c))).nums = _
  have e : Kzs2.answer (.lines n (Kzs2Neutral.natsOf c)) = Kzs1.told (Kzs1.ints (Kzs1.written (Kzs2.toLines n (Kzs2Neutral.natsOf c)))) := by
    rw [Kzs2.answer]
    exact withFair_yes h hf _
  rw [e, written_row]
  unfold Kzs1.told Kzs1.ints
  rw [List.length_map]
  rfl
end Tri

/-! ### O. Sides as they stand: a list of lists of pairs of pairs; the words for them -/
namespace Tri
open PySem PySem.Spec PyProof.Rows L2 Evl
def sdOf (s : Side) : Sd := (((s.1.i : Int), (s.1.j : Int)), ((s.2.i : Int), (s.2.j : Int)))
theorem sdOf_inj {s t : Side} (h : sdOf s = sdOf t) : s = t := by
  obtain ⟨⟨a, b⟩, c, d⟩ := s
  obtain ⟨⟨a', b'⟩, c', d'⟩ := t
  simp only [sdOf, Prod.mk.injEq] at h
  obtain ⟨⟨h1, h2⟩, h3, h4⟩ := h
  rw [Int.ofNat_inj.mp h1, Int.ofNat_inj.mp h2, Int.ofNat_inj.mp h3, Int.ofNat_inj.mp h4]
/-- at a stands a list of sides -/
def SideL (H : Hp) (a : Addr) (ss : List Side) : Prop := ∃ bs : List Addr, H a = some (.lst (bs.map V.ref)) ∧ Paired (fun b s => HS H b (sdOf s)) bs ss
theorem SideL.ex {H H' : Hp} {a : Addr} {ss : List Side} (e : Ex H H') (h : SideL H a ss) : SideL H' a ss :=
  let ⟨bs, h1, h2⟩ := h
  ⟨bs, e _ _ h1, Paired.mapP h2 fun _ _ z => z.tx (.of e)⟩
theorem SideL.put {H : Hp} {a p : Addr} {ss : List Side} {o n : List V} (hp : H p = some (.lst o)) (ne : a ≠ p) (h : SideL H a ss) : SideL (upd H p (.lst n)) a ss :=
  let ⟨bs, h1, h2⟩ := h
  ⟨bs, by rw [upd_ne ne]; exact h1, Paired.mapP h2 fun _ _ z => z.tx (Tx.mut hp fun _ q => nomatch q)⟩
/-- at p stands a list of such lists -/
def SidesH (H : Hp) (p : Addr) (L : List (List Side)) : Prop := ∃ as : List Addr, H p = some (.lst (as.map V.ref)) ∧ Paired (fun a ss => SideL H a ss) as L
theorem SidesH.ex {H H' : Hp} {p : Addr} {L : List (List Side)} (e : Ex H H') (h : SidesH H p L) : SidesH H' p L :=
  let ⟨as, h1, h2⟩ := h
  ⟨as, e _ _ h1, Paired.mapP h2 fun _ _ z => z.ex e⟩
/-- such a list, new over H0, while it grows -/
def GrowS (H0 H : Hp) (p : Addr) (L : List (List Side)) : Prop := H0 p = none ∧ Ex H0 H ∧ ∃ as : List Addr, H p = some (.lst (as.map V.ref)) ∧ Paired (fun a ss => a ≠ p ∧ SideL H a ss) as L
theorem GrowS.ex {H0 H H' : Hp} {p : Addr} {L : List (List Side)} (g : GrowS H0 H p L) (e : Ex H H') : GrowS H0 H' p L :=
  let ⟨a, b, as, c, d⟩ := g
  ⟨a, b.trans e, as, e _ _ c, Paired.mapP d fun _ _ z => ⟨z.1, z.2.ex e⟩⟩
theorem GrowS.start {H0 H : Hp} {p : Addr} (h : H0 p = none) (e : Ex H0 H) (hp : H p = some (.lst [])) : GrowS H0 H p [] := ⟨h, e, [], hp, .nil⟩
theorem GrowS.is {H0 H : Hp} {p : Addr} {L M : List (List Side)} (g : GrowS H0 H p L) (e : L = M) : GrowS H0 H p M := e ▸ g
theorem GrowS.sides {H0 H : Hp} {p : Addr} {L : List (List Side)} (g : GrowS H0 H p L) : SidesH H p L :=
  let ⟨_, _, as, c, d⟩ := g
  ⟨as, c, Paired.mapP d fun _ _ z => z.2⟩
theorem paired_get {α β : Type} {F : α → β → Prop} {l : List α} {m : List β} (h : Paired F l m) : ∀ {i : Nat} {x : α}, l[i]? = some x → ∃ y, m[i]? = some y ∧ F x y := by
  induction h with
  | nil =>
    intro i x e
    simp at e
  | cons r t ih =>
    intro i x e
    cases i with
    | zero => exact ⟨_, rfl, Option.some.inj e ▸ r⟩
    | succ i => exact ih e
/-- all but p stays -/
def Apart (p : Addr) (H H' : Hp) : Prop := ∀ a o, a ≠ p → H a = some o → H' a = some o
theorem Apart.held {p : Addr} {H H' : Hp} {o : List V} (h : Apart p H H') (hp : H p = some (.lst o)) {as : List Addr} {xs : List (List V)} (d : Held H as xs) : Held H' as xs :=
  d.tx fun a _ e => h a _ (fun z => by rw [z, hp] at e; cases e) e
/-- an expression that gives a new list of sides -/
def EvS (te : TE) (σ : L2.St) (H : Hp) (ss : List Side) : Prop := ∀ H1, Ex H H1 → ∀ Q : VK, (∀ a H2, H1 a = none → Ex H1 H2 → SideL H2 a ss → Q (.ref a) H2) → te σ H1 Q
section
variable {K : PySem.W.Frag} {σ : L2.St} {H H0 : Hp} {D : Ends} {tu tz : TS} {te ta tb td ty : TE} {P : Program} {w : World} {v : V}
theorem s_pushS {p : Addr} {L : List (List Side)} {ss : List Side} (g : GrowS H0 H p L) (ha : Ev ta σ H (.ref p)) (h : EvS te σ H ss) (hz : L.length < 100000) (k : ∀ H1, Apart p H H1 → GrowS H0 H1 p (L ++ [ss]) → D.nx σ H1) :
    tDrop (tBM K "list" rAppend ta (tCons te tNil)) D σ H := by
  obtain ⟨g1, g2, as, g3, g4⟩ := g
  refine ha H (Ex.refl H) _ fun H1 e1 => ⟨Or.inl ⟨rfl, _, sq_of (e1 p _ g3)⟩, h H1 e1 _ fun a H2 hn e2 hs => ?_⟩
  have e12 := e1.trans e2
  have ne : a ≠ p := fun z => by
    have q := e1 p _ g3
    rw [← z, hn] at q
    cases q
  refine ⟨p, as.map V.ref, .ref a, rfl, rfl, e12 _ _ g3, sz_lt (by rw [List.length_map, Paired.length g4]; exact hz), k _ (fun b o hb q => by rw [upd_ne hb]; exact e12 _ _ q) ⟨g1, Ex.mut (g2.trans e12) g1, as ++ [a], ?_, ?_⟩⟩
  · rw [upd_same, List.map_append]
    rfl
  · exact Paired.snoc (Paired.mapP g4 fun _ _ z => ⟨z.1, (z.2.ex e12).put (e12 _ _ g3) z.1⟩) ⟨ne, hs.put (e12 _ _ g3) ne⟩
theorem es_lst {t : TA} {rows : List (List V)} {ss : List Side} (h : EvH t σ H rows) (hz : rows.length ≤ 100000) (hr : ∀ H1, Ex H H1 → ∀ as, Held H1 as rows → Paired (fun b s => HS H1 b (sdOf s)) as ss) : EvS (tLst t) σ H ss := fun H1 e _ q =>
  h H1 e _ fun as H2 e2 hd => ⟨by rw [List.length_map, hd.len]; exact sz_of hz, fun l hl => q l _ (fresh_back e2 hl) (e2.trans (Ex.new hl)) ⟨as, upd_same, hr _ ((e.trans e2).trans (Ex.new hl)) as (hd.ex (Ex.new hl))⟩⟩
theorem es_one {s : Side} (hA : EvU ta σ H [.int s.1.i, .int s.1.j]) (hB : EvU tb σ H [.int s.2.i, .int s.2.j]) : EvS (tLst (tCons (tTup (tCons ta (tCons tb tNil))) tNil)) σ H [s] := fun H1 e Q q =>
  hA H1 e _ fun x H2 hx e2 h2 => hB H2 (e.trans e2) _ fun y H3 hy e3 h3 => ⟨sz_of (by show 2 ≤ 100000; omega), fun t ht => ⟨sz_of (by show 1 ≤ 100000; omega), fun l hl => by
    have e4 : Ex H3 (upd (upd H3 t (.tup [.ref x, .ref y])) l (.lst [.ref t])) := (Ex.new ht).trans (Ex.new hl)
    refine q l _ (fresh_back ((e2.trans e3).trans (Ex.new ht)) hl) ((e2.trans e3).trans e4) ⟨[t], upd_same, .cons ⟨x, y, Ex.new hl _ _ upd_same, e4 _ _ (e3 _ _ h2), e4 _ _ h3⟩ .nil⟩⟩⟩
theorem ev_eqU {dr : Addr} {x y u v : Int} (ha : EvU ta σ H [.int x, .int y]) (hb : Ev tb σ H (.ref dr)) (hd : SqT K H dr [.int u, .int v]) : Ev (tOp (rEqD K) ta tb) σ H (.bl (x == u && (y == v && true))) := fun H1 e Q q =>
  ha H1 e _ fun p H2 hp e2 h2 => hb H2 (e.trans e2) _ fun H3 e3 => ⟨.tuple [.int x, .int y], .tuple [.int u, .int v], .tup (st_of (e3 _ _ h2)) (.cons (.int x) (.cons (.int y) .nil)), .tup (ex_t ((e.trans e2).trans e3) hd) (.cons (.int u) (.cons (.int v) .nil)), rfl, rfl, by
    have z : PyData.eqv (.tuple [.int x, .int y]) (.tuple [.int u, .int v]) = (x == u && (y == v && true)) := by
      simp [PyData.eqv, PyData.eqvAll]
    rw [z]
    exact q H3 (e2.trans e3)⟩
theorem ev_nget {a q r : Addr} {kvs : List (Sd × V)} {k : Sd} (ha : Ev ta σ H (.ref a)) (hk : EvU tb σ H [.ref q, .ref r]) (hN : HasN P w H a kvs) (hq : HP H q k.1) (hr : HP H r k.2) (hv : valV kvs k = some v) : Ev (tNGet P w ta tb) σ H v := fun H1 e Q z =>
  ha H1 e _ fun H2 e2 => hk H2 (e.trans e2) _ fun b H3 hb e3 h3 => by
    have eA := (e.trans e2).trans e3
    exact ⟨a, b, kvs, k, v, rfl, rfl, hN.ex eA, ⟨q, r, h3, eA _ _ hq, eA _ _ hr⟩, hv, z H3 (e2.trans e3)⟩
theorem s_nput {a b : Addr} {kvs : List (Sd × V)} {k : Sd} {tv : TE} (hN : HasN P w H a kvs) (hz : kvs.length < 100000) (hb : HS H b k) (ha : Ev ta σ H (.ref a)) (hk : Ev tb σ H (.ref b)) (hv : Ev tv σ H v)
    (kk : ∀ H1 as, Ex H H1 → HasN P w (upd H1 a (DN P w a as (putK kvs k v))) a (putK kvs k v) → D.nx σ (upd H1 a (DN P w a as (putK kvs k v)))) : sNPut P w ta tb tv D σ H :=
  hv H (Ex.refl H) _ fun H1 e1 => ha H1 e1 _ fun H2 e2 => hk H2 (e1.trans e2) _ fun H3 e3 => by
    have eA := (e1.trans e2).trans e3
    exact ⟨a, b, kvs, k, rfl, rfl, hN.ex eA, sz_lt hz, hb.tx (.of eA), fun as g => kk H3 as eA g⟩
theorem q_asgN {i : Nat} (k : ∀ p, H p = none → HasN P w (upd H p (DN P w p [] [])) p [] → tz D (σ.set i (some (.ref p))) (upd H p (DN P w p [] []))) : tSeq (tAsg (tNNew P w) (gName i)) tz D σ H := fun p hp => k p hp ⟨[], upd_same, .nil⟩
end
end Tri

/-! ### L. Lines: steps are one to one, so a line from an end comes to its other end before its points run out -/
namespace Tri
open Kzs1 (Lines next before onward backward size)
theorem next_iff {g : Lines} {v w : Nat} : next g v = some w ↔ g.nx.getD v 0 = w + 1 ∧ g.bf.getD w 0 = v + 1 := by
  show (if g.nx.getD v 0 = 0 then none else if g.bf.getD (g.nx.getD v 0 - 1) 0 = v + 1 then some (g.nx.getD v 0 - 1) else none) = some w ↔ _
  generalize g.nx.getD v 0 = u
  cases u with
  | zero => simp
  | succ u =>
    rw [if_neg (Nat.succ_ne_zero u), Nat.add_sub_cancel]
    by_cases c : g.bf.getD u 0 = v + 1
    · rw [if_pos c]
      constructor
      · intro e
        obtain rfl := Option.some.inj e
        exact ⟨rfl, c⟩
      · rintro ⟨e, _⟩
        rw [Nat.succ.inj e]
    · rw [if_neg c]
      constructor
      · intro e
        cases e
      · rintro ⟨e, d⟩
        rw [Nat.succ.inj e] at c
        exact absurd d c
def swap (g : Lines) : Lines := ⟨g.bf, g.nx⟩
theorem before_swap (g : Lines) (v : Nat) : before g v = next (swap g) v := rfl
theorem before_iff {g : Lines} {v w : Nat} : before g v = some w ↔ g.bf.getD v 0 = w + 1 ∧ g.nx.getD w 0 = v + 1 := next_iff (g := swap g)
theorem next_before {g : Lines} {v w : Nat} : next g v = some w ↔ before g w = some v := by
  rw [next_iff, before_iff]
  exact And.comm
theorem backward_swap (g : Lines) : ∀ k v, backward g k v = onward (swap g) k v
  | 0, _ => rfl
  | k + 1, v => by
    show (match before g v with | some w => v :: backward g k w | none => [v]) = (match next (swap g) v with | some w => v :: onward (swap g) k w | none => [v])
    rw [before_swap]
    cases next (swap g) v with
    | none => rfl
    | some w =>
      show v :: backward g k w = v :: onward (swap g) k w
      rw [backward_swap g k w]
/-- the point n steps on -/
def its (g : Lines) : Nat → Nat → Option Nat
  | 0, v => some v
  | n + 1, v => (its g n v).bind (next g)
theorem its_prev {g : Lines} {n v a : Nat} (h : its g (n + 1) v = some a) : ∃ b, its g n v = some b ∧ next g b = some a := by
  have h' : (its g n v).bind (next g) = some a := h
  cases q : its g n v with
  | none =>
    rw [q] at h'
    cases h'
  | some b =>
    rw [q] at h'
    exact ⟨b, rfl, h'⟩
theorem its_step {g : Lines} {n v a b : Nat} (h : its g n v = some a) (s : next g a = some b) : its g (n + 1) v = some b := by
  show (its g n v).bind (next g) = some b
  rw [h]
  exact s
theorem next_inj {g : Lines} {a b w : Nat} (h : next g a = some w) (k : next g b = some w) : a = b := by
  have := (next_iff.mp h).2
  have := (next_iff.mp k).2
  omega
/-- no point comes twice -/
theorem its_inj {g : Lines} {v : Nat} (hv : before g v = none) : ∀ n d a, its g n v = some a → its g (n + d + 1) v ≠ some a
  | 0, d, a, h, k => by
    obtain ⟨b, _, s⟩ := its_prev (n := 0 + d) k
    obtain rfl : v = a := Option.some.inj h
    rw [next_before] at s
    rw [hv] at s
    cases s
  | n + 1, d, a, h, k => by
    obtain ⟨b, hb, s⟩ := its_prev h
    have k' : its g ((n + d + 1) + 1) v = some a := by
      rw [show (n + d + 1) + 1 = n + 1 + d + 1 by omega]
      exact k
    obtain ⟨c, hc, s'⟩ := its_prev k'
    rw [next_inj s' s] at hc
    exact its_inj hv n d b hb hc
theorem few : ∀ (n : Nat) (l : List Nat), l.Nodup → (∀ x ∈ l, x < n) → l.length ≤ n
  | 0, [], _, _ => Nat.le_refl _
  | 0, x :: _, _, h => absurd (h x (List.mem_cons_self ..)) (Nat.not_lt_zero x)
  | n + 1, l, d, h => by
    have e := few n (l.erase n) (d.erase n) fun x hx => by
      rw [d.mem_erase_iff] at hx
      have := h x hx.2
      have := hx.1
      omega
    by_cases m : n ∈ l
    · rw [List.length_erase_of_mem m] at e
      omega
    · rw [List.erase_of_not_mem m] at e
      omega
theorem next_lt {g : Lines} (hl : g.bf.length = g.nx.length) {a b : Nat} (h : next g a = some b) : a < size g ∧ b < size g := by
  obtain ⟨h1, h2⟩ := next_iff.mp h
  unfold size
  constructor
  · refine Nat.lt_of_not_le fun c => ?_
    rw [List.getD_eq_getElem?_getD, List.getElem?_eq_none c] at h1
    cases h1
  · refine Nat.lt_of_not_le fun c => ?_
    rw [List.getD_eq_getElem?_getD, List.getElem?_eq_none (by omega)] at h2
    cases h2
theorem its_defined {g : Lines} {v : Nat} : ∀ {n : Nat} {a : Nat}, its g n v = some a → ∀ m, m ≤ n → ∃ b, its g m v = some b
  | 0, a, h, m, hm => by
    obtain rfl : m = 0 := by omega
    exact ⟨a, h⟩
  | n + 1, a, h, m, hm => by
    by_cases e : m = n + 1
    · rw [e]
      exact ⟨a, h⟩
    · obtain ⟨b, hb, _⟩ := its_prev h
      exact its_defined hb m (by omega)
/-- the points met in n steps -/
def met (g : Lines) (v n : Nat) : List Nat := (List.range n).filterMap fun i => its g i v
theorem met_len {g : Lines} {v : Nat} : ∀ {n : Nat}, (∀ m, m < n → ∃ b, its g m v = some b) → (met g v n).length = n
  | 0, _ => rfl
  | n + 1, h => by
    obtain ⟨b, hb⟩ := h n (Nat.lt_succ_self n)
    have e : met g v (n + 1) = met g v n ++ [b] := by
      unfold met
      rw [List.range_succ, List.filterMap_append]
      congr 1
      show List.filterMap (fun i => its g i v) [n] = [b]
      rw [List.filterMap_cons_some (f := fun i => its g i v) hb, List.filterMap_nil]
    rw [e, List.length_append, met_len fun m hm => h m (by omega)]
    rfl
theorem met_nodup {g : Lines} {v : Nat} (hv : before g v = none) : ∀ n, (met g v n).Nodup
  | 0 => List.nodup_nil
  | n + 1 => by
    have ih := met_nodup hv (g := g) n
    cases hb : its g n v with
    | none =>
      have e : met g v (n + 1) = met g v n := by
        unfold met
        rw [List.range_succ, List.filterMap_append]
        show _ ++ List.filterMap (fun i => its g i v) [n] = _
        rw [List.filterMap_cons_none (f := fun i => its g i v) hb, List.filterMap_nil, List.append_nil]
      rw [e]
      exact ih
    | some b =>
      have e : met g v (n + 1) = met g v n ++ [b] := by
        unfold met
        rw [List.range_succ, List.filterMap_append]
        congr 1
        show List.filterMap (fun i => its g i v) [n] = [b]
        rw [List.filterMap_cons_some (f := fun i => its g i v) hb, List.filterMap_nil]
      rw [e, List.nodup_append]
      refine ⟨ih, List.nodup_cons.mpr ⟨by simp, List.nodup_nil⟩, fun x hx y hy => ?_⟩
      obtain rfl : y = b := by simpa using hy
      rintro rfl
      unfold met at hx
      rw [List.mem_filterMap] at hx
      obtain ⟨i, hi, hix⟩ := hx
      have hlt := List.mem_range.mp hi
      refine its_inj hv i (n - i - 1) x hix ?_
      rw [show i + (n - i - 1) + 1 = n by omega]
      exact hb
theorem its_lt {g : Lines} {v : Nat} (hl : g.bf.length = g.nx.length) (hs : v < size g) (hv : before g v = none) {n a : Nat} (h : its g n v = some a) : n < size g := by
  have hd := its_defined h
  have e := met_len (g := g) (v := v) (n := n + 1) fun m hm => hd m (by omega)
  have f := few (size g) (met g v (n + 1)) (met_nodup hv _) fun x hx => by
    unfold met at hx
    rw [List.mem_filterMap] at hx
    obtain ⟨i, _, hix⟩ := hx
    cases i with
    | zero =>
      obtain rfl : v = x := Option.some.inj hix
      exact hs
    | succ i =>
      obtain ⟨b, _, s⟩ := its_prev hix
      exact (next_lt hl s).2
  omega
theorem onward_none {g : Lines} {v : Nat} (h : next g v = none) : ∀ k, onward g k v = [v]
  | 0 => rfl
  | k + 1 => by
    show (match next g v with | some w => v :: onward g k w | none => [v]) = [v]
    rw [h]
theorem onward_some {g : Lines} {v w : Nat} (h : next g v = some w) (k : Nat) : onward g (k + 1) v = v :: onward g k w := by
  show (match next g v with | some w => v :: onward g k w | none => [v]) = v :: onward g k w
  rw [h]
/-- one step more of a line that is gone so far: the rest of it is known -/
structure Gone (g : Lines) (v : Nat) (pre : List Nat) (cur : Nat) : Prop where
  at' : its g pre.length v = some cur
  rest : onward g (size g) v = pre ++ onward g (size g - pre.length) cur
theorem Gone.start (g : Lines) (v : Nat) : Gone g v [] v := ⟨rfl, rfl⟩
theorem Gone.short {g : Lines} {v cur : Nat} {pre : List Nat} (G : Gone g v pre cur) (hl : g.bf.length = g.nx.length) (hs : v < size g) (hv : before g v = none) : pre.length < size g := its_lt hl hs hv G.at'
theorem Gone.more {g : Lines} {v cur w : Nat} {pre : List Nat} (G : Gone g v pre cur) (hl : g.bf.length = g.nx.length) (hs : v < size g) (hv : before g v = none) (s : next g cur = some w) : Gone g v (pre ++ [cur]) w := by
  have h1 : its g (pre.length + 1) v = some w := its_step G.at' s
  have lt := its_lt hl hs hv h1
  refine ⟨?_, ?_⟩
  · rw [List.length_append]
    exact h1
  · have e : size g - pre.length = (size g - (pre ++ [cur]).length) + 1 := by
      rw [List.length_append, List.length_singleton]
      omega
    rw [G.rest, e, onward_some s, List.append_assoc]
    rfl
theorem Gone.done {g : Lines} {v cur : Nat} {pre : List Nat} (G : Gone g v pre cur) (s : next g cur = none) : onward g (size g) v = pre ++ [cur] := by
  rw [G.rest, onward_none s]
end Tri

/-! ### W. For fair colours what's next and what's before agree -/
namespace Tri
open Kzs1 (Lines next before size)
def tableC (m : Nat) : Bool := (List.range (sidesOf m).length).all fun k => ((sidesOf m).getD k []).all fun s => lastWith (sidesOf m) s (sidesOf m).length == some k
set_option maxRecDepth 100000 in
theorem tableC_all : ∀ m : Nat, m < 10 → tableC m = true := by decide +kernel
theorem owner {m k : Nat} {ss : List Side} {s : Side} (hm : m ≤ 9) (h : (sidesOf m)[k]? = some ss) (hs : s ∈ ss) : lastWith (sidesOf m) s (sidesOf m).length = some k := by
  have hk := (List.getElem?_eq_some_iff.mp h).1
  have t := List.all_eq_true.mp (List.all_eq_true.mp (tableC_all m (by omega)) k (List.mem_range.mpr hk)) s (by
    rw [List.getD_eq_getElem?_getD, h]
    exact hs)
  exact beq_iff_eq.mp t
theorem lastWith_in {L : List (List Side)} {s : Side} : ∀ {n k : Nat}, lastWith L s n = some k → k < n ∧ s ∈ L.getD k []
  | 0, _, h => by cases h
  | n + 1, k, h => by
    unfold lastWith at h
    by_cases c : s ∈ L.getD n []
    · rw [if_pos c] at h
      obtain rfl := Option.some.inj h
      exact ⟨Nat.lt_succ_self _, c⟩
    · rw [if_neg c] at h
      have q := lastWith_in h
      exact ⟨Nat.lt_succ_of_lt q.1, q.2⟩
theorem isDoor_rev {m : Nat} {c : List Nat} {x y : Nat} {s : Side} (h : isDoor m c x y s = true) : isDoor m c y x (rev s) = true := by
  unfold isDoor at *
  rw [Bool.and_eq_true] at *
  exact ⟨h.2, h.1⟩
theorem one_door {m k : Nat} {c : List Nat} {x y : Nat} {ss : List Side} {s t : Side} (hxy : x ≠ y) (h : (sidesOf m)[k]? = some ss) (hs : s ∈ ss) (ht : t ∈ ss) (ds : isDoor m c x y s = true) (dt : isDoor m c x y t = true) : s = t := by
  rcases point_cases h with ⟨r, _, rfl⟩ | ⟨i, _, _, rfl⟩
  · obtain ⟨p, q, u, hc⟩ := corners_three r
    have e : Kzs2.sides r = [(p, q), (q, u), (u, p)] := by
      unfold Kzs2.sides
      rw [hc]
    rw [e] at hs ht
    unfold isDoor at ds dt
    simp only [List.mem_cons, List.not_mem_nil, or_false] at hs ht
    rw [Bool.and_eq_true, beq_iff_eq, beq_iff_eq] at ds dt
    rcases hs with rfl | rfl | rfl <;> rcases ht with rfl | rfl | rfl
    all_goals first
      | rfl
      | exact absurd (ds.1.symm.trans dt.2) hxy
      | exact absurd (dt.1.symm.trans ds.2) hxy
  · rw [List.mem_singleton.mp hs, List.mem_singleton.mp ht]
/-- what the row tells of a point, by its sides -/
theorem point_row {m k : Nat} {c : List Nat} {ss : List Side} (hm : m ≤ 9) (hf : Kzs2.fair m c = true) (hss : (sidesOf m)[k]? = some ss) : ∃ g : Side → Nat, (∀ s ∈ ss, s.1 ∈ Kzs2.places m ∧ s.2 ∈ Kzs2.places m) ∧
    (∀ s ∈ ss, isDoor m c 1 0 s = true → lastWith (sidesOf m) (rev s) (sidesOf m).length = some (g s)) ∧ (∀ s ∈ ss, isDoor m c 0 1 s = true → lastWith (sidesOf m) (rev s) (sidesOf m).length = some (g s)) ∧
    (Kzs2.toLines m c).nx.getD k 0 = told1 m c 1 0 g ss ∧ (Kzs2.toLines m c).bf.getD k 0 = told1 m c 0 1 g ss := by
  rcases point_cases hss with ⟨r, hr, rfl⟩ | ⟨j, hj, rfl, rfl⟩
  · have hr' := List.mem_of_getElem? hr
    exact ⟨goal m, fun s hs => sides_in hm hr' hs, fun s hs hd => room_goal (.inr ⟨rfl, rfl⟩) hm hf hr' hs hd, fun s hs hd => room_goal (.inl ⟨rfl, rfl⟩) hm hf hr' hs hd, nx_room hr, bf_room hr⟩
  · refine ⟨roomOf m, fun s hs => ?_, fun s hs _ => ?_, fun s hs _ => ?_, nx_outer hj, bf_outer hj⟩
    · obtain rfl := List.mem_singleton.mp hs
      exact outer_in hj
    · obtain rfl := List.mem_singleton.mp hs
      exact outer_room hm hj
    · obtain rfl := List.mem_singleton.mp hs
      exact outer_room hm hj
theorem told1_some {m : Nat} {c : List Nat} {x y w : Nat} {g : Side → Nat} {ss : List Side} (h : told1 m c x y g ss = w + 1) : ∃ s, s ∈ ss ∧ isDoor m c x y s = true ∧ g s = w := by
  unfold told1 at h
  cases q : ss.find? (isDoor m c x y) with
  | none =>
    rw [q] at h
    cases h
  | some s =>
    rw [q] at h
    exact ⟨s, List.mem_of_find?_eq_some q, List.find?_some q, Nat.succ.inj h⟩
theorem told1_of {m k : Nat} {c : List Nat} {x y : Nat} {g : Side → Nat} {ss : List Side} {s : Side} (hxy : x ≠ y) (h : (sidesOf m)[k]? = some ss) (hs : s ∈ ss) (hd : isDoor m c x y s = true) : told1 m c x y g ss = g s + 1 := by
  unfold told1
  cases q : ss.find? (isDoor m c x y) with
  | none => exact absurd hd (by rw [List.find?_eq_none] at q; exact q s hs)
  | some t => rw [one_door hxy h hs (List.mem_of_find?_eq_some q) hd (List.find?_some q)]
theorem lines_lt {m v : Nat} {c : List Nat} {w : Nat} (h : (Kzs2.toLines m c).nx.getD v 0 = w + 1) : v < (sidesOf m).length := by
  rw [← nx_len m c]
  refine Nat.lt_of_not_le fun k => ?_
  rw [List.getD_eq_getElem?_getD, List.getElem?_eq_none k] at h
  cases h
theorem bf_len (m : Nat) (c : List Nat) : (Kzs2.toLines m c).bf.length = (sidesOf m).length := by
  unfold Kzs2.toLines
  rw [sidesOf_len, List.length_append, List.length_map, List.length_map, List.length_range]
theorem lines_lt' {m v : Nat} {c : List Nat} {w : Nat} (h : (Kzs2.toLines m c).bf.getD v 0 = w + 1) : v < (sidesOf m).length := by
  rw [← bf_len m c]
  refine Nat.lt_of_not_le fun k => ?_
  rw [List.getD_eq_getElem?_getD, List.getElem?_eq_none k] at h
  cases h
theorem agree {m : Nat} {c : List Nat} (hm : m ≤ 9) (hf : Kzs2.fair m c = true) (v w : Nat) : (Kzs2.toLines m c).nx.getD v 0 = w + 1 ↔ (Kzs2.toLines m c).bf.getD w 0 = v + 1 := by
  constructor
  · intro h
    have hv := lines_lt h
    have hss := List.getElem?_eq_getElem hv
    obtain ⟨g, _, g1, _, g3, _⟩ := point_row hm hf hss
    rw [g3] at h
    obtain ⟨s, hs, hd, rfl⟩ := told1_some h
    have q := lastWith_in (g1 s hs hd)
    have hss' := List.getElem?_eq_getElem q.1
    obtain ⟨g', _, _, k2, _, k4⟩ := point_row hm hf hss'
    have hr : rev s ∈ (sidesOf m)[g s] := by
      have := q.2
      rw [List.getD_eq_getElem?_getD, hss'] at this
      exact this
    rw [k4, told1_of (by decide) hss' hr (isDoor_rev hd)]
    have e1 := k2 _ hr (isDoor_rev hd)
    have e2 := owner hm hss hs
    rw [show rev (rev s) = s from rfl, e2] at e1
    rw [← Option.some.inj e1]
  · intro h
    have hv := lines_lt' h
    have hss := List.getElem?_eq_getElem hv
    obtain ⟨g, _, _, g2, _, g4⟩ := point_row hm hf hss
    rw [g4] at h
    obtain ⟨s, hs, hd, rfl⟩ := told1_some h
    have q := lastWith_in (g2 s hs hd)
    have hss' := List.getElem?_eq_getElem q.1
    obtain ⟨g', _, k1, _, k3, _⟩ := point_row hm hf hss'
    have hr : rev s ∈ (sidesOf m)[g s] := by
      have := q.2
      rw [List.getD_eq_getElem?_getD, hss'] at this
      exact this
    rw [k3, told1_of (by decide) hss' hr (isDoor_rev hd)]
    have e1 := k1 _ hr (isDoor_rev hd)
    have e2 := owner hm hss hs
    rw [show rev (rev s) = s from rfl, e2] at e1
    rw [← Option.some.inj e1]
/-- so one side of a step tells it -/
theorem next_nx {m : Nat} {c : List Nat} (hm : m ≤ 9) (hf : Kzs2.fair m c = true) {v w : Nat} : next (Kzs2.toLines m c) v = some w ↔ (Kzs2.toLines m c).nx.getD v 0 = w + 1 := by
  rw [next_iff]
  exact ⟨fun h => h.1, fun h => ⟨h, (agree hm hf v w).mp h⟩⟩
theorem before_bf {m : Nat} {c : List Nat} (hm : m ≤ 9) (hf : Kzs2.fair m c = true) {v w : Nat} : before (Kzs2.toLines m c) v = some w ↔ (Kzs2.toLines m c).bf.getD v 0 = w + 1 := by
  rw [before_iff]
  exact ⟨fun h => h.1, fun h => ⟨h, (agree hm hf w v).mpr h⟩⟩
theorem next_val {m : Nat} {c : List Nat} (hm : m ≤ 9) (hf : Kzs2.fair m c = true) (v : Nat) : next (Kzs2.toLines m c) v = if (Kzs2.toLines m c).nx.getD v 0 = 0 then none else some ((Kzs2.toLines m c).nx.getD v 0 - 1) := by
  by_cases h : (Kzs2.toLines m c).nx.getD v 0 = 0
  · rw [if_pos h]
    cases q : next (Kzs2.toLines m c) v with
    | none => rfl
    | some w =>
      have := (next_nx hm hf).mp q
      omega
  · rw [if_neg h]
    exact (next_nx hm hf).mpr (by omega)
theorem before_val {m : Nat} {c : List Nat} (hm : m ≤ 9) (hf : Kzs2.fair m c = true) (v : Nat) : before (Kzs2.toLines m c) v = if (Kzs2.toLines m c).bf.getD v 0 = 0 then none else some ((Kzs2.toLines m c).bf.getD v 0 - 1) := by
  by_cases h : (Kzs2.toLines m c).bf.getD v 0 = 0
  · rw [if_pos h]
    cases q : before (Kzs2.toLines m c) v with
    | none => rfl
    | some w =>
      have := (before_bf hm hf).mp q
      omega
  · rw [if_neg h]
    exact (before_bf hm hf).mpr (by omega)
end Tri

/-! ### Y. What is due of first, other, way, corners, by cases -/
namespace Tri
open Kzs1 (Lines next before size)
abbrev Refused (m : Int) (c : List Int) : Prop := ¬ ((1 ≤ m ∧ m ≤ 9) ∧ Kzs2.fair m.toNat (c.map Int.toNat) = true)
theorem f_first_no (m : Int) (c : List Int) (h : Refused m c) : PyKzs2.first m c = [-22] := by
  show (Kzs2.answer (.first m.toNat (Kzs2Neutral.natsOf c))).value :: (Kzs2.answer (.first m.toNat (Kzs2Neutral.natsOf c))).nums = [-22]
  have e : Kzs2.answer (.first m.toNat (Kzs2Neutral.natsOf c)) = Kzs1.say (-22) := by
    rw [Kzs2.answer]
    exact withFair_no h _
  rw [e]
  rfl
theorem f_other_no (m k : Int) (c : List Int) (h : Refused m c) : PyKzs2.other m k c = [-22] := by
  show (Kzs2.answer (.other m.toNat k.toNat (Kzs2Neutral.natsOf c))).value :: (Kzs2.answer (.other m.toNat k.toNat (Kzs2Neutral.natsOf c))).nums = [-22]
  have e : Kzs2.answer (.other m.toNat k.toNat (Kzs2Neutral.natsOf c)) = Kzs1.say (-22) := by
    rw [Kzs2.answer]
    exact withFair_no h _
  rw [e]
  rfl
theorem f_way_no (m k : Int) (c : List Int) (h : Refused m c) : PyKzs2.way m k c = [-22] := by
  show (Kzs2.answer (.way m.toNat k.toNat (Kzs2Neutral.natsOf c))).value :: (Kzs2.answer (.way m.toNat k.toNat (Kzs2Neutral.natsOf c))).nums = [-22]
  have e : Kzs2.answer (.way m.toNat k.toNat (Kzs2Neutral.natsOf c)) = Kzs1.say (-22) := by
    rw [Kzs2.answer]
    exact withFair_no h _
  rw [e]
  rfl
section
variable {n : Nat} {c : List Int} (h : 1 ≤ n ∧ n ≤ 9) (hf : Kzs2.fair n (c.map Int.toNat) = true)
include h hf
theorem f_first : PyKzs2.first (n : Int) c = [match Kzs2.first n (c.map Int.toNat) with
    | some k => (k : Int)
    | none => -33] := by
  show (Kzs2.answer (.first n (Kzs2Neutral.natsOf c))).value :: (Kzs2.answer (.first n (Kzs2Neutral.natsOf c))).nums = _
  have e : Kzs2.answer (.first n (Kzs2Neutral.natsOf c)) = (match Kzs2.first n (Kzs2Neutral.natsOf c) with
    | some k => Kzs1.say (k : Nat)
    | none => Kzs1.say (-33)) := by
    rw [Kzs2.answer]
    exact withFair_yes h hf _
  rw [e]
  show _ = [match Kzs2.first n (Kzs2Neutral.natsOf c) with
    | some k => (k : Int)
    | none => -33]
  cases Kzs2.first n (Kzs2Neutral.natsOf c) with
  | none => rfl
  | some k => rfl
theorem f_other (k : Nat) : PyKzs2.other (n : Int) (k : Int) c = if (sidesOf n).length ≤ k then [-2] else if Kzs1.isEnd (Kzs2.toLines n (c.map Int.toNat)) k = false then [-33] else [(Kzs1.other (Kzs2.toLines n (c.map Int.toNat)) k : Int), (((Kzs1.line (Kzs2.toLines n (c.map Int.toNat)) k).length - 1 : Nat) : Int)] := by
  show (Kzs2.answer (.other n k (Kzs2Neutral.natsOf c))).value :: (Kzs2.answer (.other n k (Kzs2Neutral.natsOf c))).nums = _
  have e : Kzs2.answer (.other n k (Kzs2Neutral.natsOf c)) = if Kzs1.size (Kzs2.toLines n (Kzs2Neutral.natsOf c)) ≤ k then Kzs1.say (-2) else if Kzs1.isEnd (Kzs2.toLines n (Kzs2Neutral.natsOf c)) k = false then Kzs1.say (-33) else ⟨(Kzs1.other (Kzs2.toLines n (Kzs2Neutral.natsOf c)) k : Nat), [(((Kzs1.line (Kzs2.toLines n (Kzs2Neutral.natsOf c)) k).length - 1 : Nat) : Int)]⟩ := by
    rw [Kzs2.answer]
    exact withFair_yes h hf _
  have es : Kzs1.size (Kzs2.toLines n (Kzs2Neutral.natsOf c)) = (sidesOf n).length := nx_len _ _
  rw [e, es]
  show _ = if (sidesOf n).length ≤ k then [-2] else if Kzs1.isEnd (Kzs2.toLines n (Kzs2Neutral.natsOf c)) k = false then [-33] else [(Kzs1.other (Kzs2.toLines n (Kzs2Neutral.natsOf c)) k : Int), (((Kzs1.line (Kzs2.toLines n (Kzs2Neutral.natsOf c)) k).length - 1 : Nat) : Int)]
  split
  · rfl
  · split
    · rfl
    · rfl
theorem f_way (k : Nat) : PyKzs2.way (n : Int) (k : Int) c = if (sidesOf n).length ≤ k then [-2] else if Kzs1.isEnd (Kzs2.toLines n (c.map Int.toNat)) k = false then [-33] else ((Kzs1.line (Kzs2.toLines n (c.map Int.toNat)) k).length : Int) :: (Kzs1.line (Kzs2.toLines n (c.map Int.toNat)) k).map fun (x : Nat) => (x : Int) := by
  show (Kzs2.answer (.way n k (Kzs2Neutral.natsOf c))).value :: (Kzs2.answer (.way n k (Kzs2Neutral.natsOf c))).nums = _
  have e : Kzs2.answer (.way n k (Kzs2Neutral.natsOf c)) = if Kzs1.size (Kzs2.toLines n (Kzs2Neutral.natsOf c)) ≤ k then Kzs1.say (-2) else if Kzs1.isEnd (Kzs2.toLines n (Kzs2Neutral.natsOf c)) k = false then Kzs1.say (-33) else Kzs1.told (Kzs1.ints (Kzs1.line (Kzs2.toLines n (Kzs2Neutral.natsOf c)) k)) := by
    rw [Kzs2.answer]
    exact withFair_yes h hf _
  have es : Kzs1.size (Kzs2.toLines n (Kzs2Neutral.natsOf c)) = (sidesOf n).length := nx_len _ _
  rw [e, es]
  show _ = if (sidesOf n).length ≤ k then [-2] else if Kzs1.isEnd (Kzs2.toLines n (Kzs2Neutral.natsOf c)) k = false then [-33] else ((Kzs1.line (Kzs2.toLines n (Kzs2Neutral.natsOf c)) k).length : Int) :: (Kzs1.line (Kzs2.toLines n (Kzs2Neutral.natsOf c)) k).map fun (x : Nat) => (x : Int)
  split
  · rfl
  · split
    · rfl
    · unfold Kzs1.told Kzs1.ints
      rw [List.length_map]
end
theorem f_corners_no (m k : Int) (h : ¬ (1 ≤ m ∧ m ≤ 9)) : PyKzs2.corners m k = [-22] := by
  show (Kzs2.answer (.corners m.toNat k.toNat)).value :: (Kzs2.answer (.corners m.toNat k.toNat)).nums = [-22]
  have e : Kzs2.answer (.corners m.toNat k.toNat) = Kzs1.say (-22) := if_pos (by unfold Kzs2.most; omega)
  rw [e]
  rfl
theorem f_corners (n k : Nat) (h : 1 ≤ n ∧ n ≤ 9) : PyKzs2.corners (n : Int) (k : Int) = match (Kzs2.rooms n)[k]? with
    | none => [-2]
    | some r => 9 :: (Kzs2.corners r).flatMap fun p => [(p.i : Int), (p.j : Int), ((n - p.i - p.j : Nat) : Int)] := by
  show (Kzs2.answer (.corners n k)).value :: (Kzs2.answer (.corners n k)).nums = _
  have e : Kzs2.answer (.corners n k) = match (Kzs2.rooms n)[k]? with
    | none => Kzs1.say (-2)
    | some r => Kzs1.told ((Kzs2.corners r).flatMap fun p => [(p.i : Int), (p.j : Int), ((n - p.i - p.j : Nat) : Int)]) := if_neg (by unfold Kzs2.most; omega)
  rw [e]
  cases q : (Kzs2.rooms n)[k]? with
  | none => rfl
  | some r =>
    obtain ⟨a, b, d, hc⟩ := corners_three r
    show ((Kzs1.told ((Kzs2.corners r).flatMap _)).value :: (Kzs1.told ((Kzs2.corners r).flatMap _)).nums) = 9 :: (Kzs2.corners r).flatMap _
    rw [hc]
    rfl
end Tri

/-! ### U. The row read by steps; a line's last point; the first room found -/
namespace Tri
open Kzs1 (Lines next before onward backward size)
/-- lines whose row has what it tells of -/
structure Good (g : Lines) : Prop where
  len : g.bf.length = g.nx.length
  nx : ∀ v, g.nx.getD v 0 ≤ size g
  bf : ∀ v, g.bf.getD v 0 ≤ size g
  few : size g ≤ 1000
theorem Good.swap {g : Lines} (h : Good g) : Good (swap g) := by
  have e : size (Tri.swap g) = size g := h.len
  refine ⟨h.len.symm, fun v => ?_, fun v => ?_, ?_⟩
  · rw [e]
    exact h.bf v
  · rw [e]
    exact h.nx v
  · rw [e]
    exact h.few
theorem good_lines {m : Nat} {c : List Nat} (hm : m ≤ 9) (hf : Kzs2.fair m c = true) : Good (Kzs2.toLines m c) := by
  have hn : size (Kzs2.toLines m c) = (sidesOf m).length := nx_len m c
  have hr := rooms_few hm
  have hs := sidesOf_len m
  refine ⟨(bf_len m c).trans (nx_len m c).symm, fun v => ?_, fun v => ?_, by omega⟩
  · cases q : (Kzs2.toLines m c).nx.getD v 0 with
    | zero => exact Nat.zero_le _
    | succ w =>
      have := lines_lt' ((agree hm hf v w).mp q)
      omega
  · cases q : (Kzs2.toLines m c).bf.getD v 0 with
    | zero => exact Nat.zero_le _
    | succ w =>
      have := lines_lt ((agree hm hf w v).mpr q)
      omega
/-- the lines as they are followed: on (0), or back (1) -/
def gd (g : Lines) : Nat → Lines
  | 0 => g
  | _ + 1 => swap g
theorem Good.gd {g : Lines} (h : Good g) : ∀ d, Good (gd g d)
  | 0 => h
  | _ + 1 => h.swap
theorem gd_size {g : Lines} (h : Good g) : ∀ d, size (gd g d) = size g
  | 0 => rfl
  | _ + 1 => h.len
/-- one more than a point, 0 for none -/
def oneM : Option Nat → Nat
  | some w => w + 1
  | none => 0
theorem two_at {f h : Nat → Nat} : ∀ {n v : Nat}, v < n → ((List.range n).flatMap fun v => [f v, h v])[2 * v]? = some (f v) ∧ ((List.range n).flatMap fun v => [f v, h v])[2 * v + 1]? = some (h v)
  | 0, v, hv => absurd hv (Nat.not_lt_zero v)
  | n + 1, v, hv => by
    have hl : ∀ n, ((List.range n).flatMap fun v => [f v, h v]).length = 2 * n := by
      intro n
      induction n with
      | zero => rfl
      | succ n ih =>
        rw [flat_succ, List.length_append, ih]
        show _ + 2 = _
        omega
    rw [flat_succ]
    by_cases c : v < n
    · rw [List.getElem?_append_left (by rw [hl]; omega), List.getElem?_append_left (by rw [hl]; omega)]
      exact two_at c
    · obtain rfl : v = n := by omega
      rw [List.getElem?_append_right (by rw [hl]; omega), List.getElem?_append_right (by rw [hl]; omega), hl, Nat.sub_self, show 2 * v + 1 - 2 * v = 1 by omega]
      exact ⟨rfl, rfl⟩
theorem row_len (g : Lines) : (Kzs1.written g).length = 2 * size g := by
  unfold Kzs1.written Kzs1.points
  generalize size g = n
  induction n with
  | zero => rfl
  | succ n ih =>
    rw [flat_succ, List.length_append, ih]
    show _ + 2 = _
    omega
theorem row_nx {g : Lines} {v d : Nat} (hv : v < size g) (hd : d ≤ 1) : (Kzs1.written g)[2 * v + d]? = some ((gd g d).nx.getD v 0) := by
  obtain rfl | rfl : d = 0 ∨ d = 1 := by omega
  · exact (two_at (f := fun v => g.nx.getD v 0) (h := fun v => g.bf.getD v 0) hv).1
  · exact (two_at (f := fun v => g.nx.getD v 0) (h := fun v => g.bf.getD v 0) hv).2
theorem row_bf {g : Lines} {v d : Nat} (hv : v < size g) (hd : d ≤ 1) : (Kzs1.written g)[2 * v + (1 - d)]? = some ((gd g d).bf.getD v 0) := by
  obtain rfl | rfl : d = 0 ∨ d = 1 := by omega
  · exact (two_at (f := fun v => g.nx.getD v 0) (h := fun v => g.bf.getD v 0) hv).2
  · exact (two_at (f := fun v => g.nx.getD v 0) (h := fun v => g.bf.getD v 0) hv).1
theorem next_yes {g : Lines} {v : Nat} (h : g.nx.getD v 0 ≠ 0) (k : g.bf.getD (g.nx.getD v 0 - 1) 0 = v + 1) : oneM (next g v) = g.nx.getD v 0 := by
  have e : next g v = some (g.nx.getD v 0 - 1) := by
    show (if g.nx.getD v 0 = 0 then none else if g.bf.getD (g.nx.getD v 0 - 1) 0 = v + 1 then some (g.nx.getD v 0 - 1) else none) = _
    rw [if_neg h, if_pos k]
  rw [e]
  show g.nx.getD v 0 - 1 + 1 = _
  omega
theorem next_no {g : Lines} {v : Nat} (h : ¬ (g.nx.getD v 0 ≠ 0 ∧ g.bf.getD (g.nx.getD v 0 - 1) 0 = v + 1)) : oneM (next g v) = 0 := by
  have e : next g v = none := by
    show (if g.nx.getD v 0 = 0 then none else if g.bf.getD (g.nx.getD v 0 - 1) 0 = v + 1 then some (g.nx.getD v 0 - 1) else none) = _
    by_cases c : g.nx.getD v 0 = 0
    · rw [if_pos c]
    · rw [if_neg c, if_neg fun k => h ⟨c, k⟩]
  rw [e]
  rfl
/-- which way a line is followed from a point -/
def dirOf (g : Lines) (v : Nat) : Nat := if Kzs1.begins g v = true then 0 else 1
theorem dirOf_le (g : Lines) (v : Nat) : dirOf g v ≤ 1 := by
  unfold dirOf
  split <;> omega
theorem dir_before {g : Lines} {v : Nat} (h : Kzs1.isEnd g v = true) : before (gd g (dirOf g v)) v = none := by
  unfold dirOf
  by_cases c : Kzs1.begins g v = true
  · rw [if_pos c]
    unfold Kzs1.begins at c
    rw [Bool.and_eq_true] at c
    exact Option.isNone_iff_eq_none.mp c.2
  · rw [if_neg c]
    unfold Kzs1.isEnd at h
    rw [Bool.not_eq_true] at c
    rw [c, Bool.false_or] at h
    unfold Kzs1.stops at h
    rw [Bool.and_eq_true] at h
    exact Option.isNone_iff_eq_none.mp h.2
theorem dir_line {g : Lines} (hg : Good g) (v : Nat) : Kzs1.line g v = onward (gd g (dirOf g v)) (size (gd g (dirOf g v))) v := by
  rw [gd_size hg]
  unfold Kzs1.line dirOf
  by_cases c : Kzs1.begins g v = true
  · rw [if_pos c, if_pos c]
    rfl
  · rw [if_neg c, if_neg c, backward_swap]
    rfl
theorem onward_ne (g : Lines) : ∀ k v, onward g k v ≠ []
  | 0, _ => by
    show [_] ≠ []
    simp
  | k + 1, v => by
    show (match next g v with | some w => v :: onward g k w | none => [v]) ≠ []
    cases next g v <;> simp
theorem line_snoc {g : Lines} (hg : Good g) (v : Nat) : ∃ pre, Kzs1.line g v = pre ++ [Kzs1.other g v] := by
  have hne : Kzs1.line g v ≠ [] := by
    rw [dir_line hg]
    exact onward_ne _ _ _
  refine ⟨(Kzs1.line g v).dropLast, ?_⟩
  unfold Kzs1.other
  generalize Kzs1.line g v = l at hne
  cases l with
  | nil => exact absurd rfl hne
  | cons x l =>
    rw [List.getLastD_eq_getLast?, List.getLast?_eq_some_getLast hne]
    exact (List.dropLast_concat_getLast hne).symm
theorem onward_len (g : Lines) : ∀ k v, (onward g k v).length ≤ k + 1
  | 0, _ => Nat.le_refl _
  | k + 1, v => by
    show (match next g v with | some w => v :: onward g k w | none => [v]).length ≤ _
    cases next g v with
    | none =>
      show 1 ≤ _
      omega
    | some w =>
      have := onward_len g k w
      show (onward g k w).length + 1 ≤ _
      omega
theorem line_few {g : Lines} (hg : Good g) (v : Nat) : (Kzs1.line g v).length ≤ 1001 := by
  rw [dir_line hg]
  have a := onward_len (gd g (dirOf g v)) (size (gd g (dirOf g v))) v
  have b := (hg.gd (dirOf g v)).few
  omega
/-- of the outer sides below i none leads to a room -/
def fRoom (m : Nat) (c : List Nat) (i : Nat) : Option Nat := if Kzs1.begins (Kzs2.toLines m c) ((Kzs2.rooms m).length + i) then some (Kzs1.other (Kzs2.toLines m c) ((Kzs2.rooms m).length + i)) else none
def NoneTo (m : Nat) (c : List Nat) (i : Nat) : Prop := ((List.range i).filterMap (fRoom m c)).find? (fun v => decide (v < (Kzs2.rooms m).length)) = none
theorem first_def (m : Nat) (c : List Nat) : Kzs2.first m c = ((List.range m).filterMap (fRoom m c)).find? (fun v => decide (v < (Kzs2.rooms m).length)) := rfl
theorem none_zero (m : Nat) (c : List Nat) : NoneTo m c 0 := rfl
theorem none_succ {m i : Nat} {c : List Nat} (h : NoneTo m c i) (k : ∀ v, fRoom m c i = some v → ¬ v < (Kzs2.rooms m).length) : NoneTo m c (i + 1) := by
  unfold NoneTo at *
  rw [List.range_succ, List.filterMap_append, List.find?_append, h, Option.none_or]
  cases q : fRoom m c i with
  | none =>
    rw [List.filterMap_cons_none q]
    rfl
  | some v =>
    rw [List.filterMap_cons_some q, List.filterMap_nil, List.find?_cons, decide_eq_false (k v q)]
    rfl
theorem first_none {m : Nat} {c : List Nat} (h : NoneTo m c m) : Kzs2.first m c = none := h
theorem first_some {m i v : Nat} {c : List Nat} (h : NoneTo m c i) (hi : i < m) (k : fRoom m c i = some v) (hv : v < (Kzs2.rooms m).length) : Kzs2.first m c = some v := by
  have e : ∀ d, ((List.range (i + 1 + d)).filterMap (fRoom m c)).find? (fun v => decide (v < (Kzs2.rooms m).length)) = some v := by
    intro d
    induction d with
    | zero =>
      unfold NoneTo at h
      rw [Nat.add_zero, List.range_succ, List.filterMap_append, List.find?_append, h, Option.none_or, List.filterMap_cons_some k, List.find?_cons, decide_eq_true hv]
    | succ d ih =>
      rw [← Nat.add_assoc, List.range_succ, List.filterMap_append, List.find?_append, ih]
      rfl
  rw [first_def]
  have q := e (m - (i + 1))
  rw [show i + 1 + (m - (i + 1)) = m by omega] at q
  exact q
end Tri

/-! ### V. Words for steps: products, signs, the row as values, len of a new list of new tuples, a call by a new list -/
namespace Tri
open PySem PySem.Spec PyProof.Rows L2 Evl
abbrev rMulI : R2 := rI CMul fun i j => .int (i * j)
abbrev rNegI : V → Hp → VK → Prop := rU fun i => .int (-i)
theorem two_mul_ok {j : Int} : CMul 2 j := Or.inl ⟨by decide, by decide⟩
/-- numbers as values -/
def natV (l : List Nat) : List V := l.map fun (x : Nat) => V.int x
abbrev rowW (g : Kzs1.Lines) : List V := natV (Kzs1.written g)
theorem natV_ints (l : List Nat) : natV l = (l.map fun (x : Nat) => (x : Int)).map V.int := by
  unfold natV
  rw [List.map_map]
  rfl
theorem natV_len (l : List Nat) : (natV l).length = l.length := List.length_map ..
theorem natV_at {l : List Nat} {i x : Nat} (h : l[i]? = some x) : atI (natV l) (i : Int) = some (.int x) := atI_nat (by
  unfold natV
  rw [List.getElem?_map, h]
  rfl)
theorem natV_snoc (l : List Nat) (x : Nat) : natV (l ++ [x]) = natV l ++ [.int x] := by
  unfold natV
  rw [List.map_append]
  rfl
theorem one_some (o : Option Nat) : (!decide (V.int (oneM o : Nat) = V.int 0)) = o.isSome := by
  rw [dec_int]
  cases o with
  | none => rfl
  | some w =>
    show (!(((w + 1 : Nat) : Int) == 0)) = true
    rw [beq_eq_false_iff_ne.mpr (by omega)]
    rfl
theorem one_none (o : Option Nat) : decide (V.int (oneM o : Nat) = V.int 0) = o.isNone := by
  rw [dec_int]
  cases o with
  | none => rfl
  | some w =>
    show (((w + 1 : Nat) : Int) == 0) = false
    exact beq_eq_false_iff_ne.mpr (by omega)
section
variable {K : PySem.W.Frag} {σ : L2.St} {H : Hp} {te ta : TE} {z : V}
/-- len(f(..)), f giving a new list of new tuples -/
theorem ev_lenH {sp : Sp} {E : XK} {t : TA} {vs : List V} {rows : List (List V)} (h : EvA t σ H vs) (hs : ∀ H1, Ex H H1 → ∀ Q E, RetH rows H1 Q → sp (vs ++ []) H1 Q E) :
    Ev (tCB (rLenS K) (tCons (tCall sp [] E t) tNil)) σ H (.int (rows.length : Nat)) := fun H0 e _ q => h H0 e _ fun H1 e1 => hs H1 (e.trans e1) _ _ fun a H2 g => by
  obtain ⟨_, e2, as, hl, hd⟩ := g
  have k := q H2 (e1.trans e2)
  rw [← hd.len, ← List.length_map (f := V.ref)] at k
  exact ⟨a, as.map V.ref, rfl, Or.inl (sq_of hl), k⟩
/-- f(x, g(..)), g giving a new list -/
theorem ev_call2L {sp : Sp} {E : XK} {x : V} {xs : List V} (h : Ev te σ H x) (hl : EvL ta σ H xs) (hs : ∀ p H1, Ex H H1 → H1 p = some (.lst xs) → ∀ Q : VK, (∀ H2, Ex H1 H2 → Q z H2) → ∀ E : XK, sp [x, .ref p] H1 Q E) :
    Ev (tCall sp [] E (tCons te (tCons ta tNil))) σ H z := fun H1 e Q q => h H1 e _ fun H2 e2 => hl H2 (e.trans e2) _ fun p H3 _ e3 h3 => hs p H3 ((e.trans e2).trans e3) h3 Q (fun H4 e4 => q H4 ((e2.trans e3).trans e4)) E
end
end Tri

/-! ### The text: places, scopes, readings (printed by tools/gen.py) -/
namespace Tri
open PySem PySem.Spec PyProof.Rows L2 Evl
def top (i : Nat) : Stmt := PySem.Challenge.pw_threecolours_s07_way.main.body.getD i (.Pass ⟨0, 0, 0, 0⟩)
abbrev st_is_size : Stmt := top 13
theorem sc_is_size : FnScope ["m"] ["m"] (defScope st_is_size) := ⟨rfl, rfl, rfl, by decide +kernel, rfl, by decide +kernel, by decide +kernel⟩
abbrev st_places : Stmt := top 14
theorem sc_places : FnScope ["m", "listed", "j", "i"] ["m"] (defScope st_places) := ⟨rfl, rfl, rfl, by decide +kernel, rfl, by decide +kernel, by decide +kernel⟩
abbrev st_are_fair : Stmt := top 15
theorem sc_are_fair : FnScope ["m", "c", "listed", "numbers", "colour"] ["m", "c"] (defScope st_are_fair) := ⟨rfl, rfl, rfl, by decide +kernel, rfl, by decide +kernel, by decide +kernel⟩
abbrev st_small_triangles : Stmt := top 16
theorem sc_small_triangles : FnScope ["m", "listed", "j", "i"] ["m"] (defScope st_small_triangles) := ⟨rfl, rfl, rfl, by decide +kernel, rfl, by decide +kernel, by decide +kernel⟩
abbrev st_corners_of : Stmt := top 17
theorem sc_corners_of : FnScope ["room", "i", "j"] ["room"] (defScope st_corners_of) := ⟨rfl, rfl, rfl, by decide +kernel, rfl, by decide +kernel, by decide +kernel⟩
abbrev st_colours_by_place : Stmt := top 18
theorem sc_colours_by_place : FnScope ["m", "c", "by_place", "numbers", "colour"] ["m", "c"] (defScope st_colours_by_place) := ⟨rfl, rfl, rfl, by decide +kernel, rfl, by decide +kernel, by decide +kernel⟩
abbrev st_sides_of_points : Stmt := top 19
theorem sc_sides_of_points : FnScope ["m", "listed", "room", "told", "i"] ["m"] (defScope st_sides_of_points) := ⟨rfl, rfl, rfl, by decide +kernel, rfl, by decide +kernel, by decide +kernel⟩
abbrev st_points_by_side : Stmt := top 20
theorem sc_points_by_side : FnScope ["sides_listed", "by_side", "point", "sides", "side"] ["sides_listed"] (defScope st_points_by_side) := ⟨rfl, rfl, rfl, by decide +kernel, rfl, by decide +kernel, by decide +kernel⟩
abbrev st_beyond : Stmt := top 21
theorem sc_beyond : FnScope ["sides", "door", "by_place", "by_side", "start", "stop"] ["sides", "door", "by_place", "by_side"] (defScope st_beyond) := ⟨rfl, rfl, rfl, by decide +kernel, rfl, by decide +kernel, by decide +kernel⟩
abbrev st_row_of_lines : Stmt := top 22
theorem sc_row_of_lines : FnScope ["m", "c", "by_place", "sides_listed", "by_side", "row", "sides"] ["m", "c"] (defScope st_row_of_lines) := ⟨rfl, rfl, rfl, by decide +kernel, rfl, by decide +kernel, by decide +kernel⟩
abbrev st_step_from : Stmt := top 23
theorem sc_step_from : FnScope ["row", "point", "direction", "told"] ["row", "point", "direction"] (defScope st_step_from) := ⟨rfl, rfl, rfl, by decide +kernel, rfl, by decide +kernel, by decide +kernel⟩
abbrev st_begins : Stmt := top 24
theorem sc_begins : FnScope ["row", "point"] ["row", "point"] (defScope st_begins) := ⟨rfl, rfl, rfl, by decide +kernel, rfl, by decide +kernel, by decide +kernel⟩
abbrev st_stops : Stmt := top 25
theorem sc_stops : FnScope ["row", "point"] ["row", "point"] (defScope st_stops) := ⟨rfl, rfl, rfl, by decide +kernel, rfl, by decide +kernel, by decide +kernel⟩
abbrev st_is_end : Stmt := top 26
theorem sc_is_end : FnScope ["row", "point"] ["row", "point"] (defScope st_is_end) := ⟨rfl, rfl, rfl, by decide +kernel, rfl, by decide +kernel, by decide +kernel⟩
abbrev st_line_from : Stmt := top 27
theorem sc_line_from : FnScope ["row", "end", "direction", "points", "told"] ["row", "end"] (defScope st_line_from) := ⟨rfl, rfl, rfl, by decide +kernel, rfl, by decide +kernel, by decide +kernel⟩
abbrev st_line_or_refusal : Stmt := top 28
theorem sc_line_or_refusal : FnScope ["m", "k", "c", "row"] ["m", "k", "c"] (defScope st_line_or_refusal) := ⟨rfl, rfl, rfl, by decide +kernel, rfl, by decide +kernel, by decide +kernel⟩
abbrev st_way : Stmt := top 29
theorem sc_way : FnScope ["m", "k", "c", "line"] ["m", "k", "c"] (defScope st_way) := ⟨rfl, rfl, rfl, by decide +kernel, rfl, by decide +kernel, by decide +kernel⟩
structure Txt (K : PySem.W.Frag) (mg : Str → Option Value) (a_DOOR_IN : Addr) (a_DOOR_OUT : Addr) : Prop where
  g_BACK : ∃ u, mg "BACK" = some u ∧ RelV (.int (1)) u
  g_COLOURS : ∃ u, mg "COLOURS" = some u ∧ RelV (.int (3)) u
  g_DOOR_IN : ∃ u, mg "DOOR_IN" = some u ∧ RelV (.ref a_DOOR_IN) u
  q_DOOR_IN : ∀ H, SqT K H a_DOOR_IN [.int 0, .int 1]
  g_DOOR_OUT : ∃ u, mg "DOOR_OUT" = some u ∧ RelV (.ref a_DOOR_OUT) u
  q_DOOR_OUT : ∀ H, SqT K H a_DOOR_OUT [.int 1, .int 0]
  g_DOWN : ∃ u, mg "DOWN" = some u ∧ RelV (.int (0)) u
  g_LARGEST_SIZE : ∃ u, mg "LARGEST_SIZE" = some u ∧ RelV (.int (9)) u
  g_NOTHING : ∃ u, mg "NOTHING" = some u ∧ RelV (.int (0)) u
  g_ON : ∃ u, mg "ON" = some u ∧ RelV (.int (0)) u
  g_REFUSED_END : ∃ u, mg "REFUSED_END" = some u ∧ RelV (.int (-33)) u
  g_REFUSED_INPUT : ∃ u, mg "REFUSED_INPUT" = some u ∧ RelV (.int (-22)) u
  g_REFUSED_POINT : ∃ u, mg "REFUSED_POINT" = some u ∧ RelV (.int (-2)) u
  g_UP : ∃ u, mg "UP" = some u ∧ RelV (.int (1)) u
  n_enumerate : mg "enumerate" = none
  n_len : mg "len" = none
  n_range : mg "range" = none
  n_zip : mg "zip" = none
def t_is_size (K : PySem.W.Frag) : TS :=
  (tRet (tAndV (tOp rGeI (tVar 0) (tC (.int 1))) (tOp rLeI (tVar 0) (tC (.int (9))))))
def t_places (K : PySem.W.Frag) : TS :=
  (tSeq (tAsg (tLst tNil) (gName 1))
  (tSeq (tFor (iRng1 (tCons (tOp rAddI (tVar 0) (tC (.int 1))) tNil)) (gName 2)
  (tFor (iRng1 (tCons (tOp rSubI (tOp rAddI (tVar 0) (tC (.int 1))) (tVar 2)) tNil)) (gName 3)
  (tDrop (tBM K "list" rAppend (tVar 1) (tCons (tTup (tCons (tVar 3) (tCons (tVar 2) (tCons (tOp rSubI (tOp rSubI (tVar 0) (tVar 3)) (tVar 2)) tNil)))) tNil)))))
  (tRet (tVar 1))))
def t_are_fair (K : PySem.W.Frag) (sp_places : Sp) : TS :=
  (tSeq (tAsg (tCall sp_places [] E0 (tCons (tVar 0) tNil)) (gName 2))
  (tSeq (tIfS (tTest (tOp rNe (tCB (rLenS K) (tCons (tVar 1) tNil)) (tCB (rLenS K) (tCons (tVar 2) tNil))))
  (tRet (tC (.bl false)))
  tNext)
  (tSeq (tFor (iZip K (tCons (tVar 2) (tCons (tVar 1) tNil))) (gTup K 2 (gCons (gName 3) (gCons (gName 4) gNil)))
  (tIfS (tOr (tTest (tOp rGeI (tVar 4) (tC (.int (3))))) (tTest (tOp rEq (tOp (rIxT K) (tVar 3) (tVar 4)) (tC (.int 0)))))
  (tRet (tC (.bl false)))
  tNext))
  (tRet (tC (.bl true))))))
def t_small_triangles (K : PySem.W.Frag) : TS :=
  (tSeq (tAsg (tLst tNil) (gName 1))
  (tSeq (tFor (iRng1 (tCons (tVar 0) tNil)) (gName 2)
  (tFor (iRng1 (tCons (tOp rSubI (tVar 0) (tVar 2)) tNil)) (gName 3)
  (tSeq (tDrop (tBM K "list" rAppend (tVar 1) (tCons (tTup (tCons (tVar 3) (tCons (tVar 2) (tCons (tC (.int (1))) tNil)))) tNil)))
  (tIfS (tTest (tOp rLtI (tOp rAddI (tVar 3) (tVar 2)) (tOp rSubI (tVar 0) (tC (.int 1)))))
  (tDrop (tBM K "list" rAppend (tVar 1) (tCons (tTup (tCons (tVar 3) (tCons (tVar 2) (tCons (tC (.int (0))) tNil)))) tNil)))
  tNext))))
  (tRet (tVar 1))))
def t_corners_of (K : PySem.W.Frag) : TS :=
  (tSeq (tAsg (tOp (rIxT K) (tVar 0) (tC (.int 0))) (gName 1))
  (tSeq (tAsg (tOp (rIxT K) (tVar 0) (tC (.int 1))) (gName 2))
  (tSeq (tIfS (tTest (tOp rEq (tOp (rIxT K) (tVar 0) (tC (.int 2))) (tC (.int (1)))))
  (tRet (tLst (tCons (tTup (tCons (tVar 1) (tCons (tVar 2) tNil))) (tCons (tTup (tCons (tOp rAddI (tVar 1) (tC (.int 1))) (tCons (tVar 2) tNil))) (tCons (tTup (tCons (tVar 1) (tCons (tOp rAddI (tVar 2) (tC (.int 1))) tNil))) tNil)))))
  tNext)
  (tRet (tLst (tCons (tTup (tCons (tOp rAddI (tVar 1) (tC (.int 1))) (tCons (tOp rAddI (tVar 2) (tC (.int 1))) tNil))) (tCons (tTup (tCons (tVar 1) (tCons (tOp rAddI (tVar 2) (tC (.int 1))) tNil))) (tCons (tTup (tCons (tOp rAddI (tVar 1) (tC (.int 1))) (tCons (tVar 2) tNil))) tNil))))))))
def t_colours_by_place (K : PySem.W.Frag) (sp_places : Sp) : TS :=
  (tSeq (tAsg tDNewT (gName 2))
  (tSeq (tFor (iZip K (tCons (tCall sp_places [] E0 (tCons (tVar 0) tNil)) (tCons (tVar 1) tNil))) (gTup K 2 (gCons (gName 3) (gCons (gName 4) gNil)))
  (sDPut (tVar 2) (tTup (tCons (tOp (rIxT K) (tVar 3) (tC (.int 0))) (tCons (tOp (rIxT K) (tVar 3) (tC (.int 1))) tNil))) (tVar 4)))
  (tRet (tVar 2))))
def t_sides_of_points (K : PySem.W.Frag) (sp_small_triangles : Sp) (sp_corners_of : Sp) : TS :=
  (tSeq (tAsg (tLst tNil) (gName 1))
  (tSeq (tFor (iList K (tCall sp_small_triangles [] E0 (tCons (tVar 0) tNil))) (gName 2)
  (tSeq (tAsg (tCall sp_corners_of [] E0 (tCons (tVar 2) tNil)) (gName 3))
  (tDrop (tBM K "list" rAppend (tVar 1) (tCons (tLst (tCons (tTup (tCons (tOp (rIxL K) (tVar 3) (tC (.int 0))) (tCons (tOp (rIxL K) (tVar 3) (tC (.int 1))) tNil))) (tCons (tTup (tCons (tOp (rIxL K) (tVar 3) (tC (.int 1))) (tCons (tOp (rIxL K) (tVar 3) (tC (.int 2))) tNil))) (tCons (tTup (tCons (tOp (rIxL K) (tVar 3) (tC (.int 2))) (tCons (tOp (rIxL K) (tVar 3) (tC (.int 0))) tNil))) tNil)))) tNil)))))
  (tSeq (tFor (iRng1 (tCons (tVar 0) tNil)) (gName 4)
  (tDrop (tBM K "list" rAppend (tVar 1) (tCons (tLst (tCons (tTup (tCons (tTup (tCons (tVar 4) (tCons (tOp rSubI (tVar 0) (tVar 4)) tNil))) (tCons (tTup (tCons (tOp rAddI (tVar 4) (tC (.int 1))) (tCons (tOp rSubI (tOp rSubI (tVar 0) (tVar 4)) (tC (.int 1))) tNil))) tNil))) tNil)) tNil))))
  (tRet (tVar 1)))))
def t_points_by_side (P : Program) (w : World) (K : PySem.W.Frag) : TS :=
  (tSeq (tAsg (tNNew P w) (gName 1))
  (tSeq (tFor (iEnum K (tCons (tVar 0) tNil)) (gTup K 2 (gCons (gName 2) (gCons (gName 3) gNil)))
  (tFor (iList K (tVar 3)) (gName 4)
  (sNPut P w (tVar 1) (tVar 4) (tVar 2))))
  (tRet (tVar 1))))
def t_beyond (P : Program) (w : World) (K : PySem.W.Frag) : TS :=
  (tSeq (tFor (iList K (tVar 0)) (gTup K 2 (gCons (gName 4) (gCons (gName 5) gNil)))
  (tIfS (tTest (tOp (rEqD K) (tTup (tCons (tDGet (tVar 2) (tVar 4)) (tCons (tDGet (tVar 2) (tVar 5)) tNil))) (tVar 1)))
  (tRet (tOp rAddI (tNGet P w (tVar 3) (tTup (tCons (tVar 5) (tCons (tVar 4) tNil)))) (tC (.int 1))))
  tNext))
  (tRet (tC (.int (0)))))
def t_row_of_lines (K : PySem.W.Frag) (sp_colours_by_place : Sp) (sp_sides_of_points : Sp) (sp_points_by_side : Sp) (sp_beyond : Sp) (a_DOOR_IN : Addr) (a_DOOR_OUT : Addr) : TS :=
  (tSeq (tAsg (tCall sp_colours_by_place [] E0 (tCons (tVar 0) (tCons (tVar 1) tNil))) (gName 2))
  (tSeq (tAsg (tCall sp_sides_of_points [] E0 (tCons (tVar 0) tNil)) (gName 3))
  (tSeq (tAsg (tCall sp_points_by_side [] E0 (tCons (tVar 3) tNil)) (gName 4))
  (tSeq (tAsg (tLst tNil) (gName 5))
  (tSeq (tFor (iList K (tVar 3)) (gName 6)
  (tSeq (tDrop (tBM K "list" rAppend (tVar 5) (tCons (tCall sp_beyond [] E0 (tCons (tVar 6) (tCons (tC (.ref a_DOOR_OUT)) (tCons (tVar 2) (tCons (tVar 4) tNil))))) tNil)))
  (tDrop (tBM K "list" rAppend (tVar 5) (tCons (tCall sp_beyond [] E0 (tCons (tVar 6) (tCons (tC (.ref a_DOOR_IN)) (tCons (tVar 2) (tCons (tVar 4) tNil))))) tNil)))))
  (tRet (tVar 5)))))))
def t_step_from (K : PySem.W.Frag) : TS :=
  (tSeq (tAsg (tOp (rIxL K) (tVar 0) (tOp rAddI (tOp rMulI (tC (.int 2)) (tVar 1)) (tVar 2))) (gName 3))
  (tSeq (tIfS (tAnd (tTest (tOp rNe (tVar 3) (tC (.int (0))))) (tTest (tOp rEq (tOp (rIxL K) (tVar 0) (tOp rSubI (tOp rAddI (tOp rMulI (tC (.int 2)) (tOp rSubI (tVar 3) (tC (.int 1)))) (tC (.int 1))) (tVar 2))) (tOp rAddI (tVar 1) (tC (.int 1))))))
  (tRet (tVar 3))
  tNext)
  (tRet (tC (.int (0))))))
def t_begins (K : PySem.W.Frag) (sp_step_from : Sp) : TS :=
  (tRet (tAndV (tOp rNe (tCall sp_step_from [] E0 (tCons (tVar 0) (tCons (tVar 1) (tCons (tC (.int (0))) tNil)))) (tC (.int (0)))) (tOp rEq (tCall sp_step_from [] E0 (tCons (tVar 0) (tCons (tVar 1) (tCons (tC (.int (1))) tNil)))) (tC (.int (0))))))
def t_stops (K : PySem.W.Frag) (sp_step_from : Sp) : TS :=
  (tRet (tAndV (tOp rNe (tCall sp_step_from [] E0 (tCons (tVar 0) (tCons (tVar 1) (tCons (tC (.int (1))) tNil)))) (tC (.int (0)))) (tOp rEq (tCall sp_step_from [] E0 (tCons (tVar 0) (tCons (tVar 1) (tCons (tC (.int (0))) tNil)))) (tC (.int (0))))))
def t_is_end (K : PySem.W.Frag) (sp_begins : Sp) (sp_stops : Sp) : TS :=
  (tRet (tOrV (tCall sp_begins [] E0 (tCons (tVar 0) (tCons (tVar 1) tNil))) (tCall sp_stops [] E0 (tCons (tVar 0) (tCons (tVar 1) tNil)))))
def t_line_from (K : PySem.W.Frag) (sp_begins : Sp) (sp_step_from : Sp) : TS :=
  (tSeq (tAsg (tIf (tB (tCall sp_begins [] E0 (tCons (tVar 0) (tCons (tVar 1) tNil)))) (tC (.int (0))) (tC (.int (1)))) (gName 2))
  (tSeq (tAsg (tLst (tCons (tVar 1) tNil)) (gName 3))
  (tSeq (tAsg (tCall sp_step_from [] E0 (tCons (tVar 0) (tCons (tVar 1) (tCons (tVar 2) tNil)))) (gName 4))
  (tSeq (tWhile (tTest (tOp rNe (tVar 4) (tC (.int (0)))))
  (tSeq (tDrop (tBM K "list" rAppend (tVar 3) (tCons (tOp rSubI (tVar 4) (tC (.int 1))) tNil)))
  (tAsg (tCall sp_step_from [] E0 (tCons (tVar 0) (tCons (tOp rSubI (tVar 4) (tC (.int 1))) (tCons (tVar 2) tNil)))) (gName 4))))
  (tRet (tVar 3))))))
def t_line_or_refusal (K : PySem.W.Frag) (sp_is_size : Sp) (sp_are_fair : Sp) (sp_row_of_lines : Sp) (sp_is_end : Sp) (sp_line_from : Sp) : TS :=
  (tSeq (tIfS (tOr (tNot (tB (tCall sp_is_size [] E0 (tCons (tVar 0) tNil)))) (tNot (tB (tCall sp_are_fair [] E0 (tCons (tVar 0) (tCons (tVar 2) tNil))))))
  (tRet (tLst (tCons (tC (.int (-22))) tNil)))
  tNext)
  (tSeq (tAsg (tCall sp_row_of_lines [] E0 (tCons (tVar 0) (tCons (tVar 2) tNil))) (gName 3))
  (tSeq (tIfS (tTest (tOp rGeI (tOp rMulI (tC (.int 2)) (tVar 1)) (tCB (rLenS K) (tCons (tVar 3) tNil))))
  (tRet (tLst (tCons (tC (.int (-2))) tNil)))
  tNext)
  (tSeq (tIfS (tNot (tB (tCall sp_is_end [] E0 (tCons (tVar 3) (tCons (tVar 1) tNil)))))
  (tRet (tLst (tCons (tC (.int (-33))) tNil)))
  tNext)
  (tRet (tCall sp_line_from [] E0 (tCons (tVar 3) (tCons (tVar 1) tNil))))))))
def t_way (K : PySem.W.Frag) (sp_line_or_refusal : Sp) : TS :=
  (tSeq (tAsg (tCall sp_line_or_refusal [] E0 (tCons (tVar 0) (tCons (tVar 1) (tCons (tVar 2) tNil)))) (gName 3))
  (tSeq (tIfS (tTest (tOp rLtI (tOp (rIxL K) (tVar 3) (tC (.int 0))) (tC (.int 0))))
  (tRet (tVar 3))
  tNext)
  (tRet (tOp rCat (tLst (tCons (tCB (rLenS K) (tCons (tVar 3) tNil)) tNil)) (tVar 3)))))
end Tri

/-! ### is_size -/
namespace Tri
open PySem PySem.Spec PyProof.Rows L2 Evl
def isSize (m : Int) : Bool := decide (1 ≤ m) && decide (m ≤ 9)
def sp_is_size (_ : PySem.W.Frag) : Sp := fun vs H Q _ => ∃ m : Int, vs = [.int m] ∧ RetV (.bl (isSize m)) H Q
section
variable {K : PySem.W.Frag} {vs : List V} {H : Hp} {Q : VK} {E : XK}
theorem len_is_size (h : sp_is_size K vs H Q E) : vs.length = 1 := by
  obtain ⟨m, rfl, _⟩ := h
  rfl
end
section
variable {K : PySem.W.Frag}
theorem read_is_size (vs : List V) (H : Hp) (Q : VK) (E : XK) (h : sp_is_size K vs H Q E) : t_is_size K { nx := fun _ H' => Q .non H', rt := Q } (start ["m"] vs) H := by
  obtain ⟨m, rfl, k⟩ := h
  exact s_ret (ev_andV (ev_op (ev_var rfl) ev_c rv_I0) fun _ => ev_op (ev_var rfl) ev_c rv_I0) k
end
end Tri

/-! ### places -/
namespace Tri
open PySem PySem.Spec PyProof.Rows L2 Evl
def placeV (m : Nat) (p : Kzs2.Place) : List V := [.int p.i, .int p.j, .int ((m : Int) - p.i - p.j)]
def sp_places (_ : PySem.W.Frag) : Sp := fun vs H Q _ => ∃ m : Nat, vs = [.int m] ∧ m ≤ 9 ∧ RetH ((Kzs2.places m).map (placeV m)) H Q
section
variable {K : PySem.W.Frag} {vs : List V} {H : Hp} {Q : VK} {E : XK}
theorem len_places (h : sp_places K vs H Q E) : vs.length = 1 := by
  obtain ⟨m, rfl, _⟩ := h
  rfl
end
section
variable {K : PySem.W.Frag}
theorem read_places (vs : List V) (H : Hp) (Q : VK) (E : XK) (h : sp_places K vs H Q E) : t_places K { nx := fun _ H' => Q .non H', rt := Q } (start ["m", "listed", "j", "i"] vs) H := by
  obtain ⟨m, rfl, hm, k⟩ := h
  refine q_asgL (el_lst ea_nil (by decide)) fun p H1 hp e1 h1 => ?_
  refine q_forR1 (n := (m : Int) + 1) (ea_cons (ev_op (ev_var rfl) ev_c rv_I0) ea_nil) ⟨by omega, by omega⟩ (fun j σ' H' => ∃ v2 v3, σ' = [some (.int m), some (.ref p), v2, v3] ∧ Grown H H' p ((pup m j).map (placeV m))) ?_ ?_ ?_
  · exact fun H2 e2 => ⟨none, none, rfl, (Grown.start hp e1 h1).ex e2⟩
  · rintro j σ' H' hj ⟨v2, v3, rfl, g⟩
    refine s_forR1 (n := (m : Int) + 1 - (j : Int)) (ea_cons (ev_op (ev_op (ev_var rfl) ev_c rv_I0) (ev_var rfl) rv_I0) ea_nil) ⟨by omega, by omega⟩ (fun i σ'' H'' => ∃ v3, σ'' = [some (.int m), some (.ref p), some (.int j), v3] ∧ Grown H H'' p ((pup m j ++ prow j i).map (placeV m))) ?_ ?_ ?_
    · exact fun H2 e2 => ⟨v3, rfl, (g.ex e2).is (by show _ = (pup m j ++ []).map (placeV m); rw [List.append_nil])⟩
    · rintro i σ'' H'' hi ⟨v3, rfl, g⟩
      have hl : ((pup m j ++ prow j i).map (placeV m)).length ≤ 1000 := by
        rw [List.length_map, List.length_append, prow_len]
        have a := pup_len m j
        have c : (m + 1) * j ≤ 10 * 10 := Nat.mul_le_mul (by omega) (by omega)
        omega
      refine s_push g (ev_var rfl) (eu_tup (ea_cons (ev_var rfl) (ea_cons (ev_var rfl) (ea_cons (ev_op (ev_op (ev_var rfl) (ev_var rfl) rv_I0) (ev_var rfl) rv_I0) ea_nil))) (by show 3 ≤ 100000; omega)) (by omega) fun H2 g2 => ⟨_, rfl, g2.is ?_⟩
      rw [prow_succ, ← List.append_assoc, List.map_append (l₁ := pup m j ++ prow j i)]
      rfl
    · rintro σ'' H'' ⟨v3, rfl, g⟩
      refine ⟨_, v3, rfl, g.is ?_⟩
      rw [pup_succ, show ((m : Int) + 1 - (j : Int)).toNat = m + 1 - j by omega]
  · rintro σ' H' ⟨v2, v3, rfl, g⟩
    refine s_ret (ev_var rfl) fun H2 e2 => k p H2 ((g.ex e2).is ?_)
    rw [places_pup]
    rfl
end
end Tri

/-! ### are_fair -/
namespace Tri
open PySem PySem.Spec PyProof.Rows L2 Evl
def sp_are_fair (K : PySem.W.Frag) : Sp := fun vs H Q _ => ∃ (m : Nat) (a : Addr) (cs : List Int), vs = [.int m, .ref a] ∧ m ≤ 9 ∧ SqL K H a (cs.map V.int) ∧ (∀ x ∈ cs, 0 ≤ x) ∧ RetV (.bl (Kzs2.fair m (cs.map Int.toNat))) H Q
section
variable {K : PySem.W.Frag} {vs : List V} {H : Hp} {Q : VK} {E : XK}
theorem len_are_fair (h : sp_are_fair K vs H Q E) : vs.length = 2 := by
  obtain ⟨m, a, cs, rfl, _⟩ := h
  rfl
end
section
variable {K : PySem.W.Frag}
theorem number_at {m x : Nat} {p : Kzs2.Place} (hp : p.i + p.j ≤ m) (hx : x ≤ 2) : (placeV m p)[x]? = some (.int (Kzs2.number m p x)) := by
  obtain rfl | rfl | rfl : x = 0 ∨ x = 1 ∨ x = 2 := by omega
  · rfl
  · rfl
  · show some (V.int ((m : Int) - p.i - p.j)) = some (V.int ((m - p.i - p.j : Nat) : Int))
    rw [show (m : Int) - p.i - p.j = ((m - p.i - p.j : Nat) : Int) by omega]
theorem read_are_fair (vs : List V) (H : Hp) (Q : VK) (E : XK) (h : sp_are_fair K vs H Q E) : t_are_fair K (sp_places K) { nx := fun _ H' => Q .non H', rt := Q } (start ["m", "c", "listed", "numbers", "colour"] vs) H := by
  obtain ⟨m, a, cs, rfl, hm, hS, hnn, k⟩ := h
  refine q_asgC (ea_cons (ev_var rfl) ea_nil) fun H1 e1 => ⟨m, rfl, hm, fun p H2 g => ?_⟩
  obtain ⟨hp, e2, as, h2, hd⟩ := g
  have hE : Ex H H2 := e1.trans e2
  have hal : as.length = (Kzs2.places m).length := by
    rw [hd.len, List.length_map]
  refine q_when (et_test (ev_op (ev_len (xs := cs.map V.int) (ev_var rfl) (ex_l hE hS)) (ev_len (xs := as.map V.ref) (ev_var rfl) (sq_of h2)) (rv_ne rfl))) (fun hb H3 e3 => ?_) (fun hb H3 e3 => ?_)
  · refine s_ret ev_c fun H4 e4 => ?_
    have hf : Kzs2.fair m (cs.map Int.toNat) = false := by
      cases q : Kzs2.fair m (cs.map Int.toNat) with
      | false => rfl
      | true =>
        have ql := ((fair_iff hm).mp q).1
        rw [List.length_map] at ql
        rw [List.length_map, List.length_map, hal, ql, decide_eq_true rfl] at hb
        cases hb
    have k' := k H4 ((hE.trans e3).trans e4)
    rw [hf] at k'
    exact k'
  · have hcl : cs.length = (Kzs2.places m).length := by
      rw [List.length_map, List.length_map, hal] at hb
      have q : decide (V.int (cs.length : Int) = V.int ((Kzs2.places m).length : Int)) = true := by simpa using hb
      have q2 := V.int.inj (of_decide_eq_true q)
      omega
    refine q_forZ (K := K) (a := p) (b := a) (xs := as.map V.ref) (ys := cs.map V.int) (ea_cons (ev_var rfl) (ea_cons (ev_var rfl) ea_nil)) (sq_of (e3 _ _ h2)) (ex_l (hE.trans e3) hS) (by rw [List.length_map, List.length_map, hal, hcl])
      (fun i σ' H' => ∃ v3 v4, σ' = [some (.int m), some (.ref a), some (.ref p), v3, v4] ∧ Ex H2 H' ∧ ∀ (t : Nat) (q : Kzs2.Place) (x : Nat), t < i → (Kzs2.places m)[t]? = some q → (cs.map Int.toNat)[t]? = some x → x ≤ 2 ∧ Kzs2.number m q x ≠ 0) ?_ ?_ ?_ ?_
    · exact fun H4 e4 => ⟨none, none, rfl, e3.trans e4, fun t _ _ ht => absurd ht (Nat.not_lt_zero t)⟩
    · rintro i σ' H' ⟨v3, v4, rfl, e, _⟩
      exact ⟨sq_of (e _ _ h2), ex_l (hE.trans e) hS⟩
    · rintro i x y σ' H' hx hy ⟨v3, v4, rfl, e, good⟩ H5 e5
      obtain ⟨b, z, rfl, hz, hb2⟩ := (hd.ex e).get hx
      rw [List.getElem?_map] at hz hy
      cases hq : (Kzs2.places m)[i]? with
      | none =>
        rw [hq] at hz
        cases hz
      | some q =>
        cases hc : cs[i]? with
        | none =>
          rw [hc] at hy
          cases hy
        | some ci =>
          rw [hq] at hz
          rw [hc] at hy
          obtain rfl : placeV m q = z := Option.some.inj hz
          obtain rfl : V.int ci = y := Option.some.inj hy
          have h0 : 0 ≤ ci := hnn ci (List.mem_of_getElem? hc)
          have hct : (cs.map Int.toNat)[i]? = some ci.toNat := by
            rw [List.getElem?_map, hc]
            rfl
          have hin := within_at hm hq
          refine s_when (et_or (b := decide (V.int (Kzs2.number m q ci.toNat) = V.int 0)) (et_test (ev_op (ev_var rfl) ev_c rv_I0)) (fun hle => et_test (ev_op (ev_op (ev_var rfl) (ev_var rfl) (rv_ixT (K := K) (st_of (e5 _ _ hb2)) (v := .int (Kzs2.number m q ci.toNat)) ?_)) ev_c (rv_eq rfl)))) (fun hb6 H6 e6 => ?_) (fun hb6 H6 e6 => ?_)
          · have hle2 := of_decide_eq_false hle
            exact at_of (j := ci.toNat) (by omega) (number_at hin (by omega))
          · refine s_ret ev_c fun H7 e7 => ?_
            have hf : Kzs2.fair m (cs.map Int.toNat) = false := by
              cases r : Kzs2.fair m (cs.map Int.toNat) with
              | false => rfl
              | true =>
                have ok := ((fair_iff hm).mp r).2 i q ci.toNat hq hct
                rw [Bool.or_eq_true, decide_eq_true_eq, decide_eq_true_eq] at hb6
                rcases hb6 with c | c
                · omega
                · have c2 := V.int.inj c
                  omega
            have k' := k H7 ((((hE.trans e).trans e5).trans e6).trans e7)
            rw [hf] at k'
            exact k'
          · refine ⟨_, _, rfl, (e.trans e5).trans e6, fun t q' x' ht hq' hx' => ?_⟩
            by_cases hti : t < i
            · exact good t q' x' hti hq' hx'
            · obtain rfl : t = i := by omega
              rw [hq] at hq'
              rw [hct] at hx'
              obtain rfl := Option.some.inj hq'
              obtain rfl := Option.some.inj hx'
              rw [Bool.or_eq_false_iff, decide_eq_false_iff_not, decide_eq_false_iff_not] at hb6
              refine ⟨by omega, fun z => hb6.2 ?_⟩
              rw [z]
              rfl
    · rintro σ' H' ⟨v3, v4, rfl, e, good⟩
      refine s_ret ev_c fun H7 e7 => ?_
      have hf : Kzs2.fair m (cs.map Int.toNat) = true := (fair_iff hm).mpr ⟨by rw [List.length_map]; exact hcl, fun t q x hq hx => good t q x (by
        rw [List.length_map, hal]
        exact (List.getElem?_eq_some_iff.mp hq).1) hq hx⟩
      have k' := k H7 ((hE.trans e).trans e7)
      rw [hf] at k'
      exact k'
end
end Tri

/-! ### small_triangles -/
namespace Tri
open PySem PySem.Spec PyProof.Rows L2 Evl
def roomV (r : Kzs2.Room) : List V := [.int r.i, .int r.j, .int (if r.u then 1 else 0)]
def sp_small_triangles (_ : PySem.W.Frag) : Sp := fun vs H Q _ => ∃ m : Nat, vs = [.int m] ∧ m ≤ 9 ∧ RetH ((Kzs2.rooms m).map roomV) H Q
section
variable {K : PySem.W.Frag} {vs : List V} {H : Hp} {Q : VK} {E : XK}
theorem len_small_triangles (h : sp_small_triangles K vs H Q E) : vs.length = 1 := by
  obtain ⟨m, rfl, _⟩ := h
  rfl
end
section
variable {K : PySem.W.Frag}
theorem room_up (i j : Nat) : roomV ⟨i, j, true⟩ = [.int i, .int j, .int 1] := rfl
theorem room_down (i j : Nat) : roomV ⟨i, j, false⟩ = [.int i, .int j, .int 0] := rfl
theorem read_small_triangles (vs : List V) (H : Hp) (Q : VK) (E : XK) (h : sp_small_triangles K vs H Q E) : t_small_triangles K { nx := fun _ H' => Q .non H', rt := Q } (start ["m", "listed", "j", "i"] vs) H := by
  obtain ⟨m, rfl, hm, k⟩ := h
  refine q_asgL (el_lst ea_nil (by decide)) fun p H1 hp e1 h1 => ?_
  refine q_forR1 (n := (m : Int)) (ea_cons (ev_var rfl) ea_nil) ⟨by omega, by omega⟩ (fun j σ' H' => ∃ v2 v3, σ' = [some (.int m), some (.ref p), v2, v3] ∧ Grown H H' p ((upTo m j).map roomV)) ?_ ?_ ?_
  · exact fun H2 e2 => ⟨none, none, rfl, (Grown.start hp e1 h1).ex e2⟩
  · rintro j σ' H' hj ⟨v2, v3, rfl, g⟩
    refine s_forR1 (n := (m : Int) - (j : Int)) (ea_cons (ev_op (ev_var rfl) (ev_var rfl) rv_I0) ea_nil) ⟨by omega, by omega⟩ (fun i σ'' H'' => ∃ v3, σ'' = [some (.int m), some (.ref p), some (.int j), v3] ∧ Grown H H'' p ((upTo m j ++ rowTo m j i).map roomV)) ?_ ?_ ?_
    · exact fun H2 e2 => ⟨v3, rfl, (g.ex e2).is (by show _ = (upTo m j ++ []).map roomV; rw [List.append_nil])⟩
    · rintro i σ'' H'' hi ⟨v3, rfl, g⟩
      have hl : ((upTo m j ++ rowTo m j i).map roomV).length ≤ 1000 := by
        rw [List.length_map, List.length_append]
        have a := upTo_len m j
        have b := rowTo_len m j i
        have c : 2 * m * j ≤ 18 * 9 := Nat.mul_le_mul (by omega) (by omega)
        omega
      refine q_push g (ev_var rfl) (eu_tup (ea_cons (ev_var rfl) (ea_cons (ev_var rfl) (ea_cons ev_c ea_nil))) (by show 3 ≤ 100000; omega)) (by omega) fun H2 g2 => ?_
      refine s_when (et_test (ev_op (ev_op (ev_var rfl) (ev_var rfl) rv_I0) (ev_op (ev_var rfl) ev_c rv_I0) rv_I0)) (fun hb H3 e3 => ?_) (fun hb H3 e3 => ?_)
      · have c : i + j + 2 ≤ m := by
          have := of_decide_eq_true hb
          omega
        refine s_push (g2.ex e3) (ev_var rfl) (eu_tup (ea_cons (ev_var rfl) (ea_cons (ev_var rfl) (ea_cons ev_c ea_nil))) (by show 3 ≤ 100000; omega)) (by rw [List.length_append]; show _ + 1 < 100000; omega) fun H4 g4 => ⟨_, rfl, g4.is ?_⟩
        rw [rowTo_succ, ← List.append_assoc, List.map_append (l₁ := upTo m j ++ rowTo m j i), List.append_assoc]
        have ec : cell m j i = [⟨i, j, true⟩, ⟨i, j, false⟩] := if_pos c
        rw [ec]
        rfl
      · have c : ¬ i + j + 2 ≤ m := by
          have := of_decide_eq_false hb
          omega
        refine ⟨_, rfl, (g2.ex e3).is ?_⟩
        rw [rowTo_succ, ← List.append_assoc, List.map_append (l₁ := upTo m j ++ rowTo m j i)]
        have ec : cell m j i = [⟨i, j, true⟩] := if_neg c
        rw [ec]
        rfl
    · rintro σ'' H'' ⟨v3, rfl, g⟩
      refine ⟨_, v3, rfl, g.is ?_⟩
      rw [upTo_succ, show ((m : Int) - (j : Int)).toNat = m - j by omega]
  · rintro σ' H' ⟨v2, v3, rfl, g⟩
    refine s_ret (ev_var rfl) fun H2 e2 => k p H2 ((g.ex e2).is ?_)
    rw [rooms_upTo]
    rfl
end
end Tri

/-! ### corners_of -/
namespace Tri
open PySem PySem.Spec PyProof.Rows L2 Evl
def pV (p : Kzs2.Place) : List V := [.int p.i, .int p.j]
def sp_corners_of (K : PySem.W.Frag) : Sp := fun vs H Q _ => ∃ (a : Addr) (r : Kzs2.Room), vs = [.ref a] ∧ SqT K H a (roomV r) ∧ RetH ((Kzs2.corners r).map pV) H Q
section
variable {K : PySem.W.Frag} {vs : List V} {H : Hp} {Q : VK} {E : XK}
theorem len_corners_of (h : sp_corners_of K vs H Q E) : vs.length = 1 := by
  obtain ⟨a, r, rfl, _⟩ := h
  rfl
end
section
variable {K : PySem.W.Frag}
theorem read_corners_of (vs : List V) (H : Hp) (Q : VK) (E : XK) (h : sp_corners_of K vs H Q E) : t_corners_of K { nx := fun _ H' => Q .non H', rt := Q } (start ["room", "i", "j"] vs) H := by
  obtain ⟨a, ⟨i, j, u⟩, rfl, hS, k⟩ := h
  refine q_asg (v := .int i) (ev_op (ev_var rfl) ev_c (rv_ixT (K := K) hS rfl)) fun H1 e1 => ?_
  refine q_asg (v := .int j) (ev_op (ev_var rfl) ev_c (rv_ixT (K := K) (ex_t e1 hS) rfl)) fun H2 e2 => ?_
  refine q_when (et_test (ev_op (ev_op (ev_var rfl) ev_c (rv_ixT (K := K) (ex_t (e1.trans e2) hS) rfl)) ev_c (rv_eq rfl))) (fun hb H3 e3 => ?_) (fun hb H3 e3 => ?_)
  · cases u with
    | false => cases hb
    | true => exact s_retH (eh_cons (eu_tup (ea_cons (ev_var rfl) (ea_cons (ev_var rfl) ea_nil)) (by show 2 ≤ 100000; omega)) (eh_cons (eu_tup (ea_cons (ev_op (ev_var rfl) ev_c rv_I0) (ea_cons (ev_var rfl) ea_nil)) (by show 2 ≤ 100000; omega))
        (eh_cons (eu_tup (ea_cons (ev_var rfl) (ea_cons (ev_op (ev_var rfl) ev_c rv_I0) ea_nil)) (by show 2 ≤ 100000; omega)) eh_nil))) (by show 3 ≤ 100000; omega) (k.go ((e1.trans e2).trans e3))
  · cases u with
    | true => cases hb
    | false => exact s_retH (eh_cons (eu_tup (ea_cons (ev_op (ev_var rfl) ev_c rv_I0) (ea_cons (ev_op (ev_var rfl) ev_c rv_I0) ea_nil)) (by show 2 ≤ 100000; omega)) (eh_cons (eu_tup (ea_cons (ev_var rfl) (ea_cons (ev_op (ev_var rfl) ev_c rv_I0) ea_nil)) (by show 2 ≤ 100000; omega))
        (eh_cons (eu_tup (ea_cons (ev_op (ev_var rfl) ev_c rv_I0) (ea_cons (ev_var rfl) ea_nil)) (by show 2 ≤ 100000; omega)) eh_nil))) (by show 3 ≤ 100000; omega) (k.go ((e1.trans e2).trans e3))
end
end Tri

/-! ### colours_by_place -/
namespace Tri
open PySem PySem.Spec PyProof.Rows L2 Evl
abbrev kP (q : Kzs2.Place) : List L2.Key := [.inl (q.i : Int), .inl (q.j : Int)]
/-- at p stands the dict of the colours by place -/
def ColD (H : Hp) (p : Addr) (m : Nat) (c : List Nat) : Prop := ∃ kvs : List (List L2.Key × V), H p = some (.dT kvs) ∧ ∀ q ∈ Kzs2.places m, valV kvs (kP q) = some (.int (Kzs2.colour m c q : Nat))
theorem ColD.ex {H H' : Hp} {p : Addr} {m : Nat} {c : List Nat} (e : Ex H H') (h : ColD H p m c) : ColD H' p m c :=
  let ⟨kvs, a, b⟩ := h
  ⟨kvs, e _ _ a, b⟩
def sp_colours_by_place (K : PySem.W.Frag) : Sp := fun vs H Q _ => ∃ (m : Nat) (a : Addr) (cs : List Int), vs = [.int m, .ref a] ∧ m ≤ 9 ∧ SqL K H a (cs.map V.int) ∧ (∀ x ∈ cs, 0 ≤ x) ∧ cs.length = (Kzs2.places m).length ∧
  ∀ p H2, H p = none → Ex H H2 → ColD H2 p m (cs.map Int.toNat) → Q (.ref p) H2
section
variable {K : PySem.W.Frag} {vs : List V} {H : Hp} {Q : VK} {E : XK}
theorem len_colours_by_place (h : sp_colours_by_place K vs H Q E) : vs.length = 2 := by
  obtain ⟨m, a, cs, rfl, _⟩ := h
  rfl
end
theorem kP_inj {p q : Kzs2.Place} (h : kP p = kP q) : p = q := by
  obtain ⟨i, j⟩ := p
  obtain ⟨i', j'⟩ := q
  simp only [kP, List.cons.injEq, Sum.inl.injEq, and_true] at h
  obtain ⟨h1, h2⟩ := h
  rw [Int.ofNat_inj.mp h1, Int.ofNat_inj.mp h2]
section
variable {K : PySem.W.Frag}
theorem read_colours_by_place (vs : List V) (H : Hp) (Q : VK) (E : XK) (h : sp_colours_by_place K vs H Q E) : t_colours_by_place K (sp_places K) { nx := fun _ H' => Q .non H', rt := Q } (start ["m", "c", "by_place", "numbers", "colour"] vs) H := by
  obtain ⟨m, a, cs, rfl, hm, hS, hnn, hcl, k⟩ := h
  refine q_asgDT fun d hd => ?_
  refine q_forZC (K := K) (ea_cons (ev_var rfl) ea_nil) fun H1 e1 => ⟨m, rfl, hm, fun p H2 g => ?_⟩
  obtain ⟨hp, e2, as, h2, hh⟩ := g
  have hal : as.length = (Kzs2.places m).length := by
    rw [hh.len, List.length_map]
  have hE : Ex H H2 := (Ex.new hd).trans (e1.trans e2)
  have hd2 : H2 d = some (.dT []) := e2 _ _ (e1 _ _ upd_same)
  refine (ea_cons (ev_var rfl) ea_nil : EvA (tCons (tVar 1) tNil) _ H2 [.ref a]) H2 (Ex.refl H2) _ fun H3 e3 => ⟨p, a, as.map V.ref, cs.map V.int, rfl, sq_of (e3 _ _ h2), ex_l (hE.trans e3) hS, ?_⟩
  refine zip_go (xs := as.map V.ref) (ys := cs.map V.int) (by rw [List.length_map, List.length_map, hal, hcl]) (fun i σ' H' => ∃ v3 v4 kvs, σ' = [some (.int m), some (.ref a), some (.ref d), v3, v4] ∧ Ex H H' ∧ H' p = some (.lst (as.map V.ref)) ∧ Held H' as ((Kzs2.places m).map (placeV m)) ∧ H' d = some (.dT kvs) ∧ kvs.length ≤ i ∧
    ∀ (t : Nat) (q : Kzs2.Place), t < i → (Kzs2.places m)[t]? = some q → valV kvs (kP q) = some (.int (Kzs2.colour m (cs.map Int.toNat) q : Nat))) ?_ ?_ ?_ ?_
  · exact ⟨none, none, [], rfl, hE.trans e3, e3 _ _ h2, hh.ex e3, e3 _ _ hd2, Nat.le_refl 0, fun t _ ht => absurd ht (Nat.not_lt_zero t)⟩
  · rintro i σ' H' ⟨v3, v4, kvs, rfl, b1, b2, _⟩
    exact ⟨sq_of b2, ex_l b1 hS⟩
  · rintro i x y σ' H' hx hy ⟨v3, v4, kvs, rfl, b1, b2, b3, b4, b5, good⟩ H5 e5
    obtain ⟨b, z, rfl, hz, hb⟩ := b3.get hx
    have hi : i < (Kzs2.places m).length := by
      have := (List.getElem?_eq_some_iff.mp hx).1
      rw [List.length_map, hal] at this
      exact this
    have hpl : (Kzs2.places m).length ≤ 1000 := by
      have a := pup_len m (m + 1)
      have c : (m + 1) * (m + 1) ≤ 10 * 10 := Nat.mul_le_mul (by omega) (by omega)
      rw [places_pup]
      omega
    rw [List.getElem?_map] at hz hy
    cases hq : (Kzs2.places m)[i]? with
    | none =>
      rw [hq] at hz
      cases hz
    | some q =>
      cases hc : cs[i]? with
      | none =>
        rw [hc] at hy
        cases hy
      | some ci =>
        rw [hq] at hz
        rw [hc] at hy
        obtain rfl : placeV m q = z := Option.some.inj hz
        obtain rfl : V.int ci = y := Option.some.inj hy
        have h0 : 0 ≤ ci := hnn ci (List.mem_of_getElem? hc)
        have hct : (cs.map Int.toNat)[i]? = some ci.toNat := by
          rw [List.getElem?_map, hc]
          rfl
        have hcol : ((Kzs2.colour m (cs.map Int.toNat) q : Nat) : Int) = ci := by
          rw [colour_at hm hq hct]
          omega
        refine s_dputT (kvs := kvs) (ks := kP q) (v := .int ci) (e5 _ _ b4) (by omega) (ev_var rfl) (eu_tup (ea_cons (ev_op (ev_var rfl) ev_c (rv_ixT (K := K) (st_of (e5 _ _ hb)) rfl)) (ea_cons (ev_op (ev_var rfl) ev_c (rv_ixT (K := K) (st_of (e5 _ _ hb)) rfl)) ea_nil)) (by show 2 ≤ 100000; omega)) (ev_var rfl) fun H6 e6 => ?_
        have e56 := e5.trans e6
        have hdp : p ≠ d := ne_of (e56 _ _ b2) (e56 _ _ b4) (fun z => by cases z)
        refine ⟨_, _, putK kvs (kP q) (.int ci), rfl, Ex.mut (b1.trans e56) hd, ?_, (b3.ex e56).tx (Tx.mut (e56 _ _ b4) (fun _ z => by cases z)), upd_same, ?_, fun t q' ht hq' => ?_⟩
        · rw [upd_ne hdp]
          exact e56 _ _ b2
        · have := length_putK kvs (kP q) (.int ci)
          omega
        · rw [valV_put]
          by_cases c : kP q' = kP q
          · rw [if_pos c]
            obtain rfl := kP_inj c
            rw [hcol]
          · rw [if_neg c]
            refine good t q' ?_ hq'
            by_cases hti : t < i
            · exact hti
            · obtain rfl : t = i := by omega
              rw [hq] at hq'
              obtain rfl := Option.some.inj hq'
              exact absurd rfl c
  · rintro σ' H' ⟨v3, v4, kvs, rfl, b1, b2, b3, b4, b5, good⟩
    refine s_ret (ev_var rfl) fun H7 e7 => k d H7 hd (b1.trans e7) ⟨kvs, e7 _ _ b4, fun q hq => ?_⟩
    obtain ⟨t, ht⟩ := List.mem_iff_getElem?.mp hq
    exact good t q (by
      rw [List.length_map, hal]
      exact (List.getElem?_eq_some_iff.mp ht).1) ht
end
end Tri

/-! ### sides_of_points -/
namespace Tri
open PySem PySem.Spec PyProof.Rows L2 Evl
def sp_sides_of_points (_ : PySem.W.Frag) : Sp := fun vs H Q _ => ∃ m : Nat, vs = [.int m] ∧ m ≤ 9 ∧ ∀ p H2, H p = none → Ex H H2 → SidesH H2 p (sidesOf m) → Q (.ref p) H2
section
variable {K : PySem.W.Frag} {vs : List V} {H : Hp} {Q : VK} {E : XK}
theorem len_sides_of_points (h : sp_sides_of_points K vs H Q E) : vs.length = 1 := by
  obtain ⟨m, rfl, _⟩ := h
  rfl
end
theorem take_snoc {α : Type} {l : List α} {i : Nat} {x : α} (h : l[i]? = some x) : l.take (i + 1) = l.take i ++ [x] := by
  rw [List.take_add_one, h]
  rfl
section
variable {K : PySem.W.Frag}
theorem read_sides_of_points (vs : List V) (H : Hp) (Q : VK) (E : XK) (h : sp_sides_of_points K vs H Q E) : t_sides_of_points K (sp_small_triangles K) (sp_corners_of K) { nx := fun _ H' => Q .non H', rt := Q } (start ["m", "listed", "room", "told", "i"] vs) H := by
  obtain ⟨m, rfl, hm, k⟩ := h
  have hrl := rooms_few hm
  refine q_asgL (el_lst ea_nil (by decide)) fun p H1 hp e1 h1 => ?_
  refine q_forLC (K := K) (ea_cons (ev_var rfl) ea_nil) fun H2 e2 => ⟨m, rfl, hm, fun l H3 g => ?_⟩
  obtain ⟨hl, e3, as, h3, hh⟩ := g
  have hal : as.length = (Kzs2.rooms m).length := by
    rw [hh.len, List.length_map]
  have hlp : l ≠ p := fun z => by
    have q := e2 _ _ h1
    rw [← z, hl] at q
    cases q
  refine ⟨l, rfl, ⟨_, sq_of h3⟩, list_go (xs := as.map V.ref) (fun i σ' H' => ∃ v2 v3, σ' = [some (.int m), some (.ref p), v2, v3, none] ∧ H' l = some (.lst (as.map V.ref)) ∧ Held H' as ((Kzs2.rooms m).map roomV) ∧ GrowS H H' p (((Kzs2.rooms m).take i).map Kzs2.sides)) ?_ ?_ ?_ ?_⟩
  · exact ⟨none, none, rfl, h3, hh, (GrowS.start hp e1 h1).ex (e2.trans e3)⟩
  · rintro i σ' H' _ ⟨v2, v3, rfl, b1, _⟩
    exact sq_of b1
  · rintro i x σ' H' hx ⟨v2, v3, rfl, b1, b2, b3⟩
    obtain ⟨b, z, rfl, hz, hb⟩ := b2.get hx
    have hi : i < (Kzs2.rooms m).length := by
      have := (List.getElem?_eq_some_iff.mp hx).1
      rw [List.length_map, hal] at this
      exact this
    rw [List.getElem?_map] at hz
    cases hq : (Kzs2.rooms m)[i]? with
    | none =>
      rw [hq] at hz
      cases hz
    | some r =>
      rw [hq] at hz
      obtain rfl : roomV r = z := Option.some.inj hz
      obtain ⟨p0, p1, p2, hc⟩ := corners_three r
      have hsd : Kzs2.sides r = [(p0, p1), (p1, p2), (p2, p0)] := by
        unfold Kzs2.sides
        rw [hc]
      refine q_asgC (D := { nx := _, rt := _, bk := _, ct := _ }) (ea_cons (ev_var rfl) ea_nil) fun H4 e4 => ⟨b, r, rfl, st_of (e4 _ _ hb), fun t H5 g5 => ?_⟩
      rw [hc] at g5
      obtain ⟨ht, e5, ts, h5, hd5⟩ := g5
      obtain ⟨t0, t1, t2, rfl, d0, d1, d2⟩ : ∃ t0 t1 t2, ts = [t0, t1, t2] ∧ H5 t0 = some (.tup (pV p0)) ∧ H5 t1 = some (.tup (pV p1)) ∧ H5 t2 = some (.tup (pV p2)) := by
        match ts, hd5 with
        | [t0, t1, t2], d => exact ⟨t0, t1, t2, rfl, d.1, d.2.1, d.2.2.1⟩
        | [], d => exact d.elim
        | [_], d => exact d.2.elim
        | [_, _], d => exact d.2.2.elim
        | _ :: _ :: _ :: _ :: _, d => exact d.2.2.2.elim
      have e45 := e4.trans e5
      have hT : SqL K H5 t [.ref t0, .ref t1, .ref t2] := sq_of h5
      refine s_pushS (ss := Kzs2.sides r) (b3.ex e45) (ev_var rfl) (es_lst (rows := [[.ref t0, .ref t1], [.ref t1, .ref t2], [.ref t2, .ref t0]]) (eh_cons (eu_tup (ea_cons (ev_op (ev_var rfl) ev_c (rv_ixL (K := K) hT rfl)) (ea_cons (ev_op (ev_var rfl) ev_c (rv_ixL (K := K) hT rfl)) ea_nil)) (by show 2 ≤ 100000; omega))
        (eh_cons (eu_tup (ea_cons (ev_op (ev_var rfl) ev_c (rv_ixL (K := K) hT rfl)) (ea_cons (ev_op (ev_var rfl) ev_c (rv_ixL (K := K) hT rfl)) ea_nil)) (by show 2 ≤ 100000; omega))
        (eh_cons (eu_tup (ea_cons (ev_op (ev_var rfl) ev_c (rv_ixL (K := K) hT rfl)) (ea_cons (ev_op (ev_var rfl) ev_c (rv_ixL (K := K) hT rfl)) ea_nil)) (by show 2 ≤ 100000; omega)) eh_nil))) (by show 3 ≤ 100000; omega) (fun H6 e6 bs hd6 => ?_)) (by rw [List.length_map, List.length_take]; omega) fun H6 ap6 g6 => ?_
      · rw [hsd]
        match bs, hd6 with
        | [c0, c1, c2], d => exact .cons ⟨t0, t1, d.1, e6 _ _ d0, e6 _ _ d1⟩ (.cons ⟨t1, t2, d.2.1, e6 _ _ d1, e6 _ _ d2⟩ (.cons ⟨t2, t0, d.2.2.1, e6 _ _ d2, e6 _ _ d0⟩ .nil))
        | [], d => exact d.elim
        | [_], d => exact d.2.elim
        | [_, _], d => exact d.2.2.elim
        | _ :: _ :: _ :: _ :: _, d => exact d.2.2.2.elim
      · have hp5 : ∃ o, H5 p = some (.lst o) := by
          obtain ⟨_, _, ps, q, _⟩ := b3
          exact ⟨_, e45 _ _ q⟩
        obtain ⟨o5, hp5⟩ := hp5
        refine ⟨_, _, rfl, ap6 _ _ hlp (e45 _ _ b1), ap6.held hp5 (b2.ex e45), g6.is ?_⟩
        rw [take_snoc hq, List.map_append]
        rfl
  · rintro σ' H' ⟨v2, v3, rfl, b1, b2, b3⟩
    rw [List.length_map, hal, List.take_length] at b3
    refine q_forR1 (n := (m : Int)) (ea_cons (ev_var rfl) ea_nil) ⟨by omega, by omega⟩ (fun i σ'' H'' => ∃ v4, σ'' = [some (.int m), some (.ref p), v2, v3, v4] ∧ GrowS H H'' p ((Kzs2.rooms m).map Kzs2.sides ++ (List.range i).map fun i => [outerSide m i])) ?_ ?_ ?_
    · exact fun H4 e4 => ⟨none, rfl, (b3.ex e4).is (List.append_nil _).symm⟩
    · rintro i σ'' H'' hi ⟨v4, rfl, c1⟩
      have hi' : i < m := by omega
      have eA : ((m : Int) - (i : Int)) = ((m - i : Nat) : Int) := by omega
      have eB : ((m : Int) - (i : Int) - 1) = ((m - i - 1 : Nat) : Int) := by omega
      refine s_pushS (ss := [outerSide m i]) c1 (ev_var rfl) (es_one (s := outerSide m i) (eu_tup (ea_cons (ev_var rfl) (ea_cons (ev_is (ev_op (ev_var rfl) (ev_var rfl) rv_I0) (congrArg V.int eA)) ea_nil)) (by show 2 ≤ 100000; omega))
        (eu_tup (ea_cons (ev_op (ev_var rfl) ev_c rv_I0) (ea_cons (ev_is (ev_op (ev_op (ev_var rfl) (ev_var rfl) rv_I0) ev_c rv_I0) (congrArg V.int eB)) ea_nil)) (by show 2 ≤ 100000; omega))) (by rw [List.length_append, List.length_map, List.length_map, List.length_range]; omega) fun H6 _ g6 => ⟨_, rfl, g6.is ?_⟩
      rw [List.range_succ, List.map_append, List.append_assoc]
      rfl
    · rintro σ'' H'' ⟨v4, rfl, c1⟩
      refine s_ret (ev_var rfl) fun H7 e7 => k p H7 hp (c1.2.1.trans e7) ((c1.sides).ex e7)
end
end Tri

/-! ### points_by_side -/
namespace Tri
open PySem PySem.Spec PyProof.Rows L2 Evl
/-- at d stands the dict of the points by side -/
def PtD (P : Program) (w : World) (H : Hp) (d : Addr) (L : List (List Side)) (n : Nat) : Prop := ∃ kvs, HasN P w H d kvs ∧ ∀ s, valV kvs (sdOf s) = (lastWith L s n).map fun k => V.int (k : Nat)
theorem PtD.ex {P : Program} {w : World} {H H' : Hp} {d : Addr} {L : List (List Side)} {n : Nat} (e : Ex H H') (h : PtD P w H d L n) : PtD P w H' d L n :=
  let ⟨kvs, a, b⟩ := h
  ⟨kvs, a.ex e, b⟩
def sp_points_by_side (P : Program) (w : World) (_ : PySem.W.Frag) : Sp := fun vs H Q _ => ∃ (p : Addr) (L : List (List Side)), vs = [.ref p] ∧ SidesH H p L ∧ L.length ≤ 1000 ∧ (∀ ss ∈ L, ss.length ≤ 3) ∧
  ∀ d H2, H d = none → Ex H H2 → PtD P w H2 d L L.length → Q (.ref d) H2
section
variable {P : Program} {w : World} {K : PySem.W.Frag} {vs : List V} {H : Hp} {Q : VK} {E : XK}
theorem len_points_by_side (h : sp_points_by_side P w K vs H Q E) : vs.length = 1 := by
  obtain ⟨p, L, rfl, _⟩ := h
  rfl
end
section
variable {P : Program} {w : World} {K : PySem.W.Frag}
theorem read_points_by_side (vs : List V) (H : Hp) (Q : VK) (E : XK) (h : sp_points_by_side P w K vs H Q E) : t_points_by_side P w K { nx := fun _ H' => Q .non H', rt := Q } (start ["sides_listed", "by_side", "point", "sides", "side"] vs) H := by
  obtain ⟨p, L, rfl, hL, hn, h3, k⟩ := h
  obtain ⟨as, hp, hpr⟩ := hL
  have hal : as.length = L.length := Paired.length hpr
  refine q_asgN fun d hd hN => ?_
  refine q_forE (K := K) (xs := as.map V.ref) (ea_cons (ev_var rfl) ea_nil) (sq_of (Ex.new hd _ _ hp)) (fun i σ' H' => ∃ v2 v3 v4 kvs, σ' = [some (.ref p), some (.ref d), v2, v3, v4] ∧ Ex H H' ∧ HasN P w H' d kvs ∧ kvs.length ≤ 3 * i ∧ ∀ s, valV kvs (sdOf s) = (lastWith L s i).map fun k => V.int (k : Nat)) ?_ ?_ ?_ ?_
  · exact fun H1 e1 => ⟨none, none, none, [], rfl, (Ex.new hd).trans e1, hN.ex e1, Nat.le_refl 0, fun s => rfl⟩
  · rintro i σ' H' _ ⟨v2, v3, v4, kvs, rfl, b1, _⟩
    exact sq_of (b1 _ _ hp)
  · rintro i x σ' H' hx ⟨v2, v3, v4, kvs, rfl, b1, b2, b3, b4⟩ H2 e2
    have hi : i < L.length := by
      have := (List.getElem?_eq_some_iff.mp hx).1
      rw [List.length_map, hal] at this
      exact this
    rw [List.getElem?_map] at hx
    cases ha : as[i]? with
    | none =>
      rw [ha] at hx
      cases hx
    | some a =>
      rw [ha] at hx
      obtain rfl : V.ref a = x := Option.some.inj hx
      obtain ⟨ss, hss, bs, hlst, hbs⟩ := paired_get hpr ha
      have hLi : L.getD i [] = ss := by
        rw [List.getD_eq_getElem?_getD, hss]
        rfl
      have hs3 : ss.length ≤ 3 := h3 ss (List.mem_of_getElem? hss)
      have hbl : bs.length = ss.length := Paired.length hbs
      have bE : Ex H H2 := b1.trans e2
      refine s_forLn (K := K) (a := a) (xs := bs.map V.ref) (ev_var rfl) (sq_of (bE _ _ hlst)) (fun j σ'' H'' => ∃ v4 kvs, σ'' = [some (.ref p), some (.ref d), some (.int i), some (.ref a), v4] ∧ Ex H H'' ∧ HasN P w H'' d kvs ∧ kvs.length ≤ 3 * i + j ∧
        ∀ s, valV kvs (sdOf s) = if s ∈ ss.take j then some (.int i) else (lastWith L s i).map fun k => V.int (k : Nat)) ?_ ?_ ?_ ?_
      · exact fun H3 e3 => ⟨v4, kvs, rfl, bE.trans e3, (b2.ex e2).ex e3, b3, fun s => b4 s⟩
      · rintro j σ'' H'' _ ⟨v4, kvs, rfl, c1, _⟩
        exact sq_of (c1 _ _ hlst)
      · rintro j y σ'' H'' hy ⟨v4, kvs, rfl, c1, c2, c3, c4⟩
        have hj : j < ss.length := by
          have := (List.getElem?_eq_some_iff.mp hy).1
          rw [List.length_map, hbl] at this
          exact this
        rw [List.getElem?_map] at hy
        cases hb : bs[j]? with
        | none =>
          rw [hb] at hy
          cases hy
        | some b =>
          rw [hb] at hy
          obtain rfl : V.ref b = y := Option.some.inj hy
          obtain ⟨t, ht, hst⟩ := paired_get hbs hb
          refine s_nput (k := sdOf t) (v := .int i) c2 (by omega) (hst.tx (.of c1)) (ev_var rfl) (ev_var rfl) (ev_var rfl) fun H4 as' e4 g4 => ⟨_, _, rfl, Ex.mut (c1.trans e4) hd, g4, ?_, fun s => ?_⟩
          · have := length_putK kvs (sdOf t) (.int i)
            omega
          · rw [valV_put, c4 s, List.take_add_one, ht]
            by_cases q : s = t
            · rw [if_pos (congrArg sdOf q), if_pos (by rw [q]; simp)]
            · rw [if_neg (fun z => q (sdOf_inj z))]
              have e : (s ∈ ss.take j ++ (some t).toList) ↔ s ∈ ss.take j := by simp [q]
              by_cases hm : s ∈ ss.take j
              · rw [if_pos hm, if_pos (e.mpr hm)]
              · rw [if_neg hm, if_neg (fun z => hm (e.mp z))]
      · rintro σ'' H'' ⟨v4, kvs, rfl, c1, c2, c3, c4⟩
        rw [List.length_map, hbl] at c3
        refine ⟨_, _, _, kvs, rfl, c1, c2, by omega, fun s => ?_⟩
        rw [c4 s, List.length_map, hbl, List.take_length]
        show _ = (if s ∈ L.getD i [] then some i else lastWith L s i).map _
        rw [hLi]
        by_cases hm : s ∈ ss
        · rw [if_pos hm, if_pos hm]
          rfl
        · rw [if_neg hm, if_neg hm]
  · rintro σ' H' ⟨v2, v3, v4, kvs, rfl, b1, b2, b3, b4⟩
    rw [List.length_map, hal] at b4
    exact s_ret (ev_var rfl) fun H7 e7 => k d H7 hd (b1.trans e7) ⟨kvs, b2.ex e7, b4⟩
end
end Tri

/-! ### beyond -/
namespace Tri
open PySem PySem.Spec PyProof.Rows L2 Evl
def sp_beyond (P : Program) (w : World) (K : PySem.W.Frag) : Sp := fun vs H Q _ => ∃ (a dr bp bs : Addr) (m x y : Nat) (c : List Nat) (L : List (List Side)) (ss : List Side) (g : Side → Nat), vs = [.ref a, .ref dr, .ref bp, .ref bs] ∧ SideL H a ss ∧ SqT K H dr [.int x, .int y] ∧ ColD H bp m c ∧ PtD P w H bs L L.length ∧
  (∀ s ∈ ss, s.1 ∈ Kzs2.places m ∧ s.2 ∈ Kzs2.places m) ∧ (∀ s ∈ ss, isDoor m c x y s = true → lastWith L (rev s) L.length = some (g s)) ∧ RetV (.int (told1 m c x y g ss)) H Q
section
variable {P : Program} {w : World} {K : PySem.W.Frag} {vs : List V} {H : Hp} {Q : VK} {E : XK}
theorem len_beyond (h : sp_beyond P w K vs H Q E) : vs.length = 4 := by
  obtain ⟨a, dr, bp, bs, m, x, y, c, L, ss, g, rfl, _⟩ := h
  rfl
end
section
variable {P : Program} {w : World} {K : PySem.W.Frag}
theorem find_none {α : Type} {f : α → Bool} {l : List α} (h : ∀ (t : Nat) (s : α), t < l.length → l[t]? = some s → f s = false) : l.find? f = none := by
  rw [List.find?_eq_none]
  intro s hs
  obtain ⟨t, ht⟩ := List.mem_iff_getElem?.mp hs
  rw [h t s (List.getElem?_eq_some_iff.mp ht).1 ht]
  exact Bool.false_ne_true
theorem find_first {α : Type} {f : α → Bool} : ∀ {l : List α} {i : Nat} {s : α}, l[i]? = some s → f s = true → (∀ (t : Nat) (u : α), t < i → l[t]? = some u → f u = false) → l.find? f = some s
  | x :: l, 0, s, h, hf, _ => by
    obtain rfl : x = s := Option.some.inj h
    rw [List.find?_cons, hf]
  | x :: l, i + 1, s, h, hf, hb => by
    rw [List.find?_cons, hb 0 x (Nat.succ_pos i) rfl]
    exact find_first (l := l) (i := i) h hf fun t u ht hu => hb (t + 1) u (Nat.succ_lt_succ ht) hu
  | [], _, _, h, _, _ => by simp at h
theorem read_beyond (vs : List V) (H : Hp) (Q : VK) (E : XK) (h : sp_beyond P w K vs H Q E) : t_beyond P w K { nx := fun _ H' => Q .non H', rt := Q } (start ["sides", "door", "by_place", "by_side", "start", "stop"] vs) H := by
  obtain ⟨a, dr, bp, bs, m, x, y, c, L, ss, g, rfl, hA, hdr, hC, hP, hin, hg, k⟩ := h
  obtain ⟨cs, hcs, hpr⟩ := hA
  obtain ⟨kv1, hC1, hC2⟩ := hC
  obtain ⟨kvs, hP1, hP2⟩ := hP
  have hcl : cs.length = ss.length := Paired.length hpr
  refine q_forL (K := K) (a := a) (xs := cs.map V.ref) (ev_var rfl) (sq_of hcs) (fun i σ' H' => ∃ v4 v5, σ' = [some (.ref a), some (.ref dr), some (.ref bp), some (.ref bs), v4, v5] ∧ Ex H H' ∧ ∀ (t : Nat) (u : Side), t < i → ss[t]? = some u → isDoor m c x y u = false) ?_ ?_ ?_ ?_
  · exact fun H1 e1 => ⟨none, none, rfl, e1, fun t _ ht => absurd ht (Nat.not_lt_zero t)⟩
  · rintro i σ' H' _ ⟨v4, v5, rfl, b1, _⟩
    exact sq_of (b1 _ _ hcs)
  · rintro i z σ' H' hz ⟨v4, v5, rfl, b1, b2⟩
    rw [List.getElem?_map] at hz
    cases hb : cs[i]? with
    | none =>
      rw [hb] at hz
      cases hz
    | some b =>
      rw [hb] at hz
      obtain rfl : V.ref b = z := Option.some.inj hz
      obtain ⟨s, hs, q, r, hbt, hq, hr⟩ := paired_get hpr hb
      have hmem : s ∈ ss := List.mem_of_getElem? hs
      have hq' : H' q = some (.tup [.int s.1.i, .int s.1.j]) := b1 _ _ hq
      have hr' : H' r = some (.tup [.int s.2.i, .int s.2.j]) := b1 _ _ hr
      refine ⟨b, [.ref q, .ref r], rfl, st_of (b1 _ _ hbt), rfl, .ref q, [.ref r], rfl, .ref r, [], rfl, rfl, ?_⟩
      have hin' := hin s hmem
      refine s_when (et_test (ev_eqU (K := K) (eu_tup (ea_cons (ev_dgetT (ks := kP s.1) (ev_var rfl) (ev_var rfl) (b1 _ _ hC1) hq' (hC2 _ hin'.1)) (ea_cons (ev_dgetT (ks := kP s.2) (ev_var rfl) (ev_var rfl) (b1 _ _ hC1) hr' (hC2 _ hin'.2)) ea_nil)) (by show 2 ≤ 100000; omega)) (ev_var rfl) (ex_t b1 hdr))) (fun hbt H2 e2 => ?_) (fun hbt H2 e2 => ?_)
      · have hd : isDoor m c x y s = true := by
          unfold isDoor
          rw [Bool.and_true, Bool.and_eq_true, beq_iff_eq, beq_iff_eq] at hbt
          rw [Bool.and_eq_true, beq_iff_eq, beq_iff_eq]
          omega
        have bE := b1.trans e2
        have hv : valV kvs (sdOf (rev s)) = some (.int (g s : Nat)) := by
          rw [hP2, hg s hmem hd]
          rfl
        refine s_ret (ev_op (ev_nget (P := P) (w := w) (q := r) (r := q) (k := sdOf (rev s)) (ev_var rfl) (eu_tup (ea_cons (ev_var rfl) (ea_cons (ev_var rfl) ea_nil)) (by show 2 ≤ 100000; omega)) (hP1.ex bE) (bE _ _ hr) (bE _ _ hq) hv) ev_c rv_I0) fun H3 e3 => ?_
        have hf : told1 m c x y g ss = g s + 1 := by
          unfold told1
          rw [find_first hs hd b2]
        have k' := k H3 (bE.trans e3)
        rw [hf] at k'
        exact k'
      · have hd : isDoor m c x y s = false := by
          cases q : isDoor m c x y s with
          | false => rfl
          | true =>
            unfold isDoor at q
            rw [Bool.and_eq_true, beq_iff_eq, beq_iff_eq] at q
            rw [q.1, q.2, beq_self_eq_true, beq_self_eq_true] at hbt
            cases hbt
        refine ⟨_, _, rfl, b1.trans e2, fun t u ht hu => ?_⟩
        by_cases hti : t < i
        · exact b2 t u hti hu
        · obtain rfl : t = i := by omega
          rw [hs] at hu
          obtain rfl := Option.some.inj hu
          exact hd
  · rintro σ' H' ⟨v4, v5, rfl, b1, b2⟩
    rw [List.length_map, hcl] at b2
    refine s_ret ev_c fun H3 e3 => ?_
    have hf : told1 m c x y g ss = 0 := by
      unfold told1
      rw [find_none b2]
    have k' := k H3 (b1.trans e3)
    rw [hf] at k'
    exact k'
end
end Tri

/-! ### what is refused: m no size, c not fair -/
namespace Tri
open PySem PySem.Spec PyProof.Rows L2 Evl
section
variable {K : PySem.W.Frag}
/-- c isn't fair, or m no size -/
theorem et_refused {σ : L2.St} {H : Hp} {m : Int} {a : Addr} {cs : List Int} (h0 : σ[0]? = some (some (.int m))) (h1 : σ[1]? = some (some (.ref a))) (hS : SqL K H a (cs.map V.int)) (hnn : ∀ x ∈ cs, 0 ≤ x) :
    EvT (tOr (tNot (tB (tCall (sp_is_size K) [] E0 (tCons (tVar 0) tNil)))) (tNot (tB (tCall (sp_are_fair K) [] E0 (tCons (tVar 0) (tCons (tVar 1) tNil)))))) σ H (!isSize m || !Kzs2.fair m.toNat (cs.map Int.toNat)) :=
  et_or (et_not (et_B (ev_call (ea_cons (ev_var h0) ea_nil) fun H1 e Q q E => ⟨m, rfl, q⟩))) fun hb => et_not (et_B (ev_call (ea_cons (ev_var h0) (ea_cons (ev_var h1) ea_nil)) fun H1 e Q q E => by
    have hs : 1 ≤ m ∧ m ≤ 9 := by
      have : isSize m = true := by simpa using hb
      simpa [isSize] using this
    exact ⟨m.toNat, a, cs, by rw [Int.toNat_of_nonneg (by omega)]; rfl, by omega, ex_l e hS, hnn, q⟩))
theorem refused_no {m : Int} {c : List Nat} (h : (!isSize m || !Kzs2.fair m.toNat c) = true) : ¬ ((1 ≤ m ∧ m ≤ 9) ∧ Kzs2.fair m.toNat c = true) := by
  rintro ⟨a, b⟩
  rw [b] at h
  simp [isSize, a.1, a.2] at h
theorem refused_yes {m : Int} {c : List Nat} (h : (!isSize m || !Kzs2.fair m.toNat c) = false) : ∃ n : Nat, m = (n : Int) ∧ (1 ≤ n ∧ n ≤ 9) ∧ Kzs2.fair n c = true := by
  rw [Bool.or_eq_false_iff] at h
  have h1 : isSize m = true := by simpa using h.1
  have h2 : Kzs2.fair m.toNat c = true := by simpa using h.2
  have h3 : 1 ≤ m ∧ m ≤ 9 := by simpa [isSize] using h1
  exact ⟨m.toNat, by omega, by omega, h2⟩
end
end Tri

/-! ### row_of_lines -/
namespace Tri
open PySem PySem.Spec PyProof.Rows L2 Evl
abbrev rowV (m : Nat) (c : List Nat) (i : Nat) : List V := (rowUp m c i).map fun (x : Nat) => V.int x
def sp_row_of_lines (K : PySem.W.Frag) : Sp := fun vs H Q _ => ∃ (m : Nat) (a : Addr) (cs : List Int), vs = [.int m, .ref a] ∧ m ≤ 9 ∧ SqL K H a (cs.map V.int) ∧ (∀ x ∈ cs, 0 ≤ x) ∧ Kzs2.fair m (cs.map Int.toNat) = true ∧ RetL (rowV m (cs.map Int.toNat) (sidesOf m).length) H Q
section
variable {K : PySem.W.Frag} {vs : List V} {H : Hp} {Q : VK} {E : XK}
theorem len_row_of_lines (h : sp_row_of_lines K vs H Q E) : vs.length = 2 := by
  obtain ⟨m, a, cs, rfl, _⟩ := h
  rfl
end
section
variable {P : Program} {w : World} {K : PySem.W.Frag}
theorem rowV_succ (m : Nat) (c : List Nat) (i : Nat) : rowV m c (i + 1) = (rowV m c i ++ [.int ((Kzs2.toLines m c).nx.getD i 0 : Nat)]) ++ [.int ((Kzs2.toLines m c).bf.getD i 0 : Nat)] := by
  unfold rowV
  rw [rowUp_succ, List.map_append, List.append_assoc]
  rfl
theorem read_row_of_lines {a_DOOR_IN a_DOOR_OUT : Addr} (hI : ∀ H, SqT K H a_DOOR_IN [.int 0, .int 1]) (hO : ∀ H, SqT K H a_DOOR_OUT [.int 1, .int 0]) (vs : List V) (H : Hp) (Q : VK) (E : XK) (h : sp_row_of_lines K vs H Q E) :
    t_row_of_lines K (sp_colours_by_place K) (sp_sides_of_points K) (sp_points_by_side P w K) (sp_beyond P w K) a_DOOR_IN a_DOOR_OUT { nx := fun _ H' => Q .non H', rt := Q } (start ["m", "c", "by_place", "sides_listed", "by_side", "row", "sides"] vs) H := by
  obtain ⟨m, a, cs, rfl, hm, hS, hnn, hf, k⟩ := h
  have hcl : cs.length = (Kzs2.places m).length := by
    have q := ((fair_iff hm).mp hf).1
    rw [List.length_map] at q
    exact q
  have hrl := rooms_few hm
  have hsl : (sidesOf m).length ≤ 1000 := by
    rw [sidesOf_len]
    omega
  refine q_asgC (ea_cons (ev_var rfl) (ea_cons (ev_var rfl) ea_nil)) fun H1 e1 => ⟨m, a, cs, rfl, hm, ex_l e1 hS, hnn, hcl, fun d H2 hd e2 hD => ?_⟩
  refine q_asgC (ea_cons (ev_var rfl) ea_nil) fun H3 e3 => ⟨m, rfl, hm, fun p H4 hp e4 hL => ?_⟩
  refine q_asgC (ea_cons (ev_var rfl) ea_nil) fun H5 e5 => ⟨p, sidesOf m, rfl, hL.ex e5, hsl, fun ss hs => side_few hs, fun b H6 hb e6 hB => ?_⟩
  have hL6 : SidesH H6 p (sidesOf m) := (hL.ex e5).ex e6
  have hD6 : ColD H6 d m (cs.map Int.toNat) := hD.ex (((e3.trans e4).trans e5).trans e6)
  have eH6 : Ex H H6 := ((((e1.trans e2).trans e3).trans e4).trans e5).trans e6
  obtain ⟨as, hl, hpr⟩ := hL6
  have hal : as.length = (sidesOf m).length := Paired.length hpr
  refine q_asgL (el_lst ea_nil (by decide)) fun l H7 hn e7 h7 => ?_
  refine q_forLn (K := K) (a := p) (xs := as.map V.ref) (ev_var rfl) (sq_of (e7 _ _ hl)) (fun i σ' H' => ∃ v6, σ' = [some (.int m), some (.ref a), some (.ref d), some (.ref p), some (.ref b), some (.ref l), v6] ∧ Ex H6 H' ∧ H' l = some (.lst (rowV m (cs.map Int.toNat) i))) ?_ ?_ ?_ ?_
  · exact fun H8 e8 => ⟨none, rfl, e7.trans e8, e8 _ _ h7⟩
  · rintro i σ' H' _ ⟨v6, rfl, b1, _⟩
    exact sq_of (b1 _ _ hl)
  · rintro i x σ' H' hx ⟨v6, rfl, b1, b2⟩
    have hi : i < (sidesOf m).length := by
      have := (List.getElem?_eq_some_iff.mp hx).1
      rw [List.length_map, hal] at this
      exact this
    rw [List.getElem?_map] at hx
    cases ha : as[i]? with
    | none =>
      rw [ha] at hx
      cases hx
    | some q =>
      rw [ha] at hx
      obtain rfl : V.ref q = x := Option.some.inj hx
      obtain ⟨ss, hss, hsl2⟩ := paired_get hpr ha
      obtain ⟨g, hin, hgo, hgi, hnx, hbf⟩ : ∃ g : Side → Nat, (∀ s ∈ ss, s.1 ∈ Kzs2.places m ∧ s.2 ∈ Kzs2.places m) ∧ (∀ s ∈ ss, isDoor m (cs.map Int.toNat) 1 0 s = true → lastWith (sidesOf m) (rev s) (sidesOf m).length = some (g s)) ∧ (∀ s ∈ ss, isDoor m (cs.map Int.toNat) 0 1 s = true → lastWith (sidesOf m) (rev s) (sidesOf m).length = some (g s)) ∧
          (Kzs2.toLines m (cs.map Int.toNat)).nx.getD i 0 = told1 m (cs.map Int.toNat) 1 0 g ss ∧ (Kzs2.toLines m (cs.map Int.toNat)).bf.getD i 0 = told1 m (cs.map Int.toNat) 0 1 g ss := by
        rcases point_cases hss with ⟨r, hr, rfl⟩ | ⟨j, hj, rfl, rfl⟩
        · have hr' := List.mem_of_getElem? hr
          exact ⟨goal m, fun s hs => sides_in hm hr' hs, fun s hs hd => room_goal (.inr ⟨rfl, rfl⟩) hm hf hr' hs hd, fun s hs hd => room_goal (.inl ⟨rfl, rfl⟩) hm hf hr' hs hd, nx_room hr, bf_room hr⟩
        · refine ⟨roomOf m, fun s hs => ?_, fun s hs _ => ?_, fun s hs _ => ?_, nx_outer hj, bf_outer hj⟩
          · obtain rfl := List.mem_singleton.mp hs
            exact outer_in hj
          · obtain rfl := List.mem_singleton.mp hs
            exact outer_room hm hj
          · obtain rfl := List.mem_singleton.mp hs
            exact outer_room hm hj
      have hrow := rowUp_len m (cs.map Int.toNat) i
      refine q_app (xs := rowV m (cs.map Int.toNat) i) b2 (ev_var rfl) (ev_call (z := .int ((Kzs2.toLines m (cs.map Int.toNat)).nx.getD i 0 : Nat)) (ea_cons (ev_var rfl) (ea_cons ev_c (ea_cons (ev_var rfl) (ea_cons (ev_var rfl) ea_nil)))) fun H8 e8 Q' q' E' =>
        ⟨q, a_DOOR_OUT, d, b, m, 1, 0, cs.map Int.toNat, sidesOf m, ss, g, rfl, (hsl2.ex b1).ex e8, hO H8, (hD6.ex b1).ex e8, (hB.ex b1).ex e8, hin, hgo, hnx ▸ q'⟩) (by rw [List.length_map]; omega) fun H8 e8 => ?_
      have b1' : Ex H6 (upd H8 l (.lst (rowV m (cs.map Int.toNat) i ++ [.int ((Kzs2.toLines m (cs.map Int.toNat)).nx.getD i 0 : Nat)]))) := Ex.mut (b1.trans e8) hn
      refine s_app upd_same (ev_var rfl) (ev_call (z := .int ((Kzs2.toLines m (cs.map Int.toNat)).bf.getD i 0 : Nat)) (ea_cons (ev_var rfl) (ea_cons ev_c (ea_cons (ev_var rfl) (ea_cons (ev_var rfl) ea_nil)))) fun H9 e9 Q' q' E' =>
        ⟨q, a_DOOR_IN, d, b, m, 0, 1, cs.map Int.toNat, sidesOf m, ss, g, rfl, (hsl2.ex b1').ex e9, hI H9, (hD6.ex b1').ex e9, (hB.ex b1').ex e9, hin, hgi, hbf ▸ q'⟩) (by rw [List.length_append, List.length_map]; show _ + 1 < 100000; omega) fun H9 e9 => ⟨_, rfl, Ex.mut (b1'.trans e9) hn, ?_⟩
      rw [upd_same, rowV_succ]
  · rintro σ' H' ⟨v6, rfl, b1, b2⟩
    rw [List.length_map, hal] at b2
    exact s_ret (ev_var rfl) fun H8 e8 => k l H8 (fresh_back eH6 hn) ((eH6.trans b1).trans e8) (e8 _ _ b2)
end
end Tri

/-! ### step_from -/
namespace Tri
open PySem PySem.Spec PyProof.Rows L2 Evl
def sp_step_from (K : PySem.W.Frag) : Sp := fun vs H Q _ => ∃ (a : Addr) (g : Kzs1.Lines) (p d : Nat), vs = [.ref a, .int p, .int d] ∧ Good g ∧ SqL K H a (rowW g) ∧ p < Kzs1.size g ∧ d ≤ 1 ∧ RetV (.int (oneM (Kzs1.next (gd g d) p) : Nat)) H Q
section
variable {K : PySem.W.Frag} {vs : List V} {H : Hp} {Q : VK} {E : XK}
theorem len_step_from (h : sp_step_from K vs H Q E) : vs.length = 3 := by
  obtain ⟨a, g, p, d, rfl, _⟩ := h
  rfl
end
section
variable {K : PySem.W.Frag}
theorem read_step_from (vs : List V) (H : Hp) (Q : VK) (E : XK) (h : sp_step_from K vs H Q E) : t_step_from K { nx := fun _ H' => Q .non H', rt := Q } (start ["row", "point", "direction", "told"] vs) H := by
  obtain ⟨a, g, p, d, rfl, hg, hS, hp, hd, k⟩ := h
  have h1 : atI (rowW g) (2 * (p : Int) + (d : Int)) = some (.int ((gd g d).nx.getD p 0 : Nat)) := by
    rw [show 2 * (p : Int) + (d : Int) = ((2 * p + d : Nat) : Int) by omega]
    exact natV_at (row_nx hp hd)
  refine q_asg (v := .int ((gd g d).nx.getD p 0 : Nat)) (ev_op (ev_var rfl) (ev_op (ev_op ev_c (ev_var rfl) (rv_I two_mul_ok)) (ev_var rfl) rv_I0) (rv_ixL (K := K) hS h1)) fun H1 e1 => ?_
  have hle := (hg.gd d).nx p
  rw [gd_size hg] at hle
  have hk : ∀ H2, Ex H1 H2 → Q (.int (oneM (Kzs1.next (gd g d) p) : Nat)) H2 := fun H2 e2 => k H2 (e1.trans e2)
  generalize hu : (gd g d).nx.getD p 0 = u at hle
  refine q_when (b := !decide (V.int (u : Nat) = V.int 0) && decide (V.int ((gd g d).bf.getD (u - 1) 0 : Nat) = V.int ((p : Int) + 1))) (et_and (et_test (ev_op (ev_var rfl) ev_c (rv_ne rfl))) fun hb => ?_) (fun hb H2 e2 => ?_) (fun hb H2 e2 => ?_)
  · have hu0 : u ≠ 0 := by
      rintro rfl
      rw [dec_int] at hb
      cases hb
    have h2 : atI (rowW g) (2 * ((u : Int) - 1) + 1 - (d : Int)) = some (.int ((gd g d).bf.getD (u - 1) 0 : Nat)) := by
      rw [show 2 * ((u : Int) - 1) + 1 - (d : Int) = ((2 * (u - 1) + (1 - d) : Nat) : Int) by omega]
      exact natV_at (row_bf (by omega) hd)
    exact et_test (ev_op (ev_op (ev_var rfl) (ev_op (ev_op (ev_op ev_c (ev_op (ev_var rfl) ev_c rv_I0) (rv_I two_mul_ok)) ev_c rv_I0) (ev_var rfl) rv_I0) (rv_ixL (K := K) (ex_l e1 hS) h2)) (ev_op (ev_var rfl) ev_c rv_I0) (rv_eq rfl))
  · rw [Bool.and_eq_true, dec_int, dec_int, beq_iff_eq, Bool.not_eq_true', beq_eq_false_iff_ne] at hb
    refine s_ret (ev_var rfl) fun H3 e3 => ?_
    have q := hk H3 (e2.trans e3)
    rw [next_yes (by omega) (by rw [hu]; omega), hu] at q
    exact q
  · refine s_ret ev_c fun H3 e3 => ?_
    have q := hk H3 (e2.trans e3)
    rw [next_no (by
      rintro ⟨c1, c2⟩
      rw [hu] at c1 c2
      rw [dec_int, dec_int, beq_eq_false_iff_ne.mpr (by omega), c2, Bool.not_false, Bool.true_and, beq_eq_false_iff_ne] at hb
      omega)] at q
    exact q
end
end Tri

/-! ### begins -/
namespace Tri
open PySem PySem.Spec PyProof.Rows L2 Evl
def sp_begins (K : PySem.W.Frag) : Sp := fun vs H Q _ => ∃ (a : Addr) (g : Kzs1.Lines) (p : Nat), vs = [.ref a, .int p] ∧ Good g ∧ SqL K H a (rowW g) ∧ p < Kzs1.size g ∧ RetV (.bl (Kzs1.begins g p)) H Q
section
variable {K : PySem.W.Frag} {vs : List V} {H : Hp} {Q : VK} {E : XK}
theorem len_begins (h : sp_begins K vs H Q E) : vs.length = 2 := by
  obtain ⟨a, g, p, rfl, _⟩ := h
  rfl
end
section
variable {K : PySem.W.Frag} {σ : L2.St} {H : Hp} {E : XK} {tp : TE}
/-- step_from(row, p, ON or BACK) -/
theorem ev_step {a : Addr} {g : Kzs1.Lines} {p d : Nat} {td : TE} {i : Nat} (ha : σ[i]? = some (some (.ref a))) (hp : Ev tp σ H (.int p)) (hd : Ev td σ H (.int d)) (hg : Good g) (hS : SqL K H a (rowW g)) (hl : p < Kzs1.size g) (hd1 : d ≤ 1) :
    Ev (tCall (sp_step_from K) [] E (tCons (tVar i) (tCons tp (tCons td tNil)))) σ H (.int (oneM (Kzs1.next (gd g d) p) : Nat)) :=
  ev_call (ea_cons (ev_var ha) (ea_cons hp (ea_cons hd ea_nil))) fun _ e1 _ q _ => ⟨a, g, p, d, rfl, hg, ex_l e1 hS, hl, hd1, q⟩
theorem read_begins (vs : List V) (H : Hp) (Q : VK) (E : XK) (h : sp_begins K vs H Q E) : t_begins K (sp_step_from K) { nx := fun _ H' => Q .non H', rt := Q } (start ["row", "point"] vs) H := by
  obtain ⟨a, g, p, rfl, hg, hS, hp, k⟩ := h
  have e : Kzs1.begins g p = (!decide (V.int (oneM (Kzs1.next (gd g 0) p) : Nat) = V.int 0) && decide (V.int (oneM (Kzs1.next (gd g 1) p) : Nat) = V.int 0)) := by
    rw [one_some, one_none]
    rfl
  rw [e] at k
  exact s_ret (ev_andV (ev_op (ev_step (d := 0) rfl (ev_var rfl) ev_c hg hS hp (by omega)) ev_c (rv_ne rfl)) fun _ => ev_op (ev_step (d := 1) rfl (ev_var rfl) ev_c hg hS hp (by omega)) ev_c (rv_eq rfl)) k
end
end Tri

/-! ### stops -/
namespace Tri
open PySem PySem.Spec PyProof.Rows L2 Evl
def sp_stops (K : PySem.W.Frag) : Sp := fun vs H Q _ => ∃ (a : Addr) (g : Kzs1.Lines) (p : Nat), vs = [.ref a, .int p] ∧ Good g ∧ SqL K H a (rowW g) ∧ p < Kzs1.size g ∧ RetV (.bl (Kzs1.stops g p)) H Q
section
variable {K : PySem.W.Frag} {vs : List V} {H : Hp} {Q : VK} {E : XK}
theorem len_stops (h : sp_stops K vs H Q E) : vs.length = 2 := by
  obtain ⟨a, g, p, rfl, _⟩ := h
  rfl
end
section
variable {K : PySem.W.Frag}
theorem read_stops (vs : List V) (H : Hp) (Q : VK) (E : XK) (h : sp_stops K vs H Q E) : t_stops K (sp_step_from K) { nx := fun _ H' => Q .non H', rt := Q } (start ["row", "point"] vs) H := by
  obtain ⟨a, g, p, rfl, hg, hS, hp, k⟩ := h
  have e : Kzs1.stops g p = (!decide (V.int (oneM (Kzs1.next (gd g 1) p) : Nat) = V.int 0) && decide (V.int (oneM (Kzs1.next (gd g 0) p) : Nat) = V.int 0)) := by
    rw [one_some, one_none]
    rfl
  rw [e] at k
  exact s_ret (ev_andV (ev_op (ev_step (d := 1) rfl (ev_var rfl) ev_c hg hS hp (by omega)) ev_c (rv_ne rfl)) fun _ => ev_op (ev_step (d := 0) rfl (ev_var rfl) ev_c hg hS hp (by omega)) ev_c (rv_eq rfl)) k
end
end Tri

/-! ### is_end -/
namespace Tri
open PySem PySem.Spec PyProof.Rows L2 Evl
def sp_is_end (K : PySem.W.Frag) : Sp := fun vs H Q _ => ∃ (a : Addr) (g : Kzs1.Lines) (p : Nat), vs = [.ref a, .int p] ∧ Good g ∧ SqL K H a (rowW g) ∧ p < Kzs1.size g ∧ RetV (.bl (Kzs1.isEnd g p)) H Q
section
variable {K : PySem.W.Frag} {vs : List V} {H : Hp} {Q : VK} {E : XK}
theorem len_is_end (h : sp_is_end K vs H Q E) : vs.length = 2 := by
  obtain ⟨a, g, p, rfl, _⟩ := h
  rfl
end
section
variable {K : PySem.W.Frag}
theorem read_is_end (vs : List V) (H : Hp) (Q : VK) (E : XK) (h : sp_is_end K vs H Q E) : t_is_end K (sp_begins K) (sp_stops K) { nx := fun _ H' => Q .non H', rt := Q } (start ["row", "point"] vs) H := by
  obtain ⟨a, g, p, rfl, hg, hS, hp, k⟩ := h
  exact s_ret (ev_orV (ev_call (ea_cons (ev_var rfl) (ea_cons (ev_var rfl) ea_nil)) fun _ e1 _ q _ => ⟨a, g, p, rfl, hg, ex_l e1 hS, hp, q⟩) fun _ => ev_call (ea_cons (ev_var rfl) (ea_cons (ev_var rfl) ea_nil)) fun _ e1 _ q _ => ⟨a, g, p, rfl, hg, ex_l e1 hS, hp, q⟩) k
end
end Tri

/-! ### line_from -/
namespace Tri
open PySem PySem.Spec PyProof.Rows L2 Evl
def sp_line_from (K : PySem.W.Frag) : Sp := fun vs H Q _ => ∃ (a : Addr) (g : Kzs1.Lines) (p : Nat), vs = [.ref a, .int p] ∧ Good g ∧ SqL K H a (rowW g) ∧ p < Kzs1.size g ∧ Kzs1.isEnd g p = true ∧ RetL (natV (Kzs1.line g p)) H Q
section
variable {K : PySem.W.Frag} {vs : List V} {H : Hp} {Q : VK} {E : XK}
theorem len_line_from (h : sp_line_from K vs H Q E) : vs.length = 2 := by
  obtain ⟨a, g, p, rfl, _⟩ := h
  rfl
end
section
variable {K : PySem.W.Frag}
theorem read_line_from (vs : List V) (H : Hp) (Q : VK) (E : XK) (h : sp_line_from K vs H Q E) : t_line_from K (sp_begins K) (sp_step_from K) { nx := fun _ H' => Q .non H', rt := Q } (start ["row", "end", "direction", "points", "told"] vs) H := by
  obtain ⟨a, g, p, rfl, hg, hS, hp, he, k⟩ := h
  refine q_asg (v := .int (dirOf g p : Nat)) (ev_if (b := Kzs1.begins g p) (et_B (ev_call (ea_cons (ev_var rfl) (ea_cons (ev_var rfl) ea_nil)) fun _ e1 _ q _ => ⟨a, g, p, rfl, hg, ex_l e1 hS, hp, q⟩)) (fun hb => ?_) (fun hb => ?_)) fun H1 e1 => ?_
  · rw [show dirOf g p = 0 from if_pos hb]
    exact ev_c
  · rw [show dirOf g p = 1 from if_neg (by rw [hb]; decide)]
    exact ev_c
  have hbf := dir_before he
  have hln := dir_line hg p
  have hgd := hg.gd (dirOf g p)
  have hsz := gd_size hg (dirOf g p)
  have hd := dirOf_le g p
  rw [hln] at k
  generalize dirOf g p = d at hbf hln hgd hsz hd k
  refine q_asgL (el_lst (ea_cons (ev_var rfl) ea_nil) (by show 1 ≤ 100000; omega)) fun l H2 hl e2 h2 => ?_
  refine q_asg (ev_step rfl (ev_var rfl) (ev_var rfl) hg (ex_l (e1.trans e2) hS) hp hd) fun H3 e3 => ?_
  have e03 : Ex H H3 := (e1.trans e2).trans e3
  have hl0 : H l = none := fresh_back e1 hl
  have hp' : p < Kzs1.size (gd g d) := by omega
  refine q_while (fun n σ' H' => ∃ pre cur, n = Kzs1.size (gd g d) - pre.length ∧ Gone (gd g d) p pre cur ∧ cur < Kzs1.size g ∧ σ' = [some (.ref a), some (.int p), some (.int d), some (.ref l), some (.int (oneM (Kzs1.next (gd g d) cur) : Nat))] ∧ Ex H H' ∧ H' l = some (.lst (natV (pre ++ [cur])))) (Kzs1.size (gd g d))
    ⟨[], p, rfl, Gone.start _ _, hp, rfl, e03, e3 _ _ h2⟩ ?_
  rintro n σ' H' ⟨pre, cur, hn, G, hc, rfl, b1, b2⟩
  have hsh := G.short hgd.len hp' hbf
  have hfew := hgd.few
  refine ⟨_, et_test (ev_op (ev_var rfl) ev_c (rv_ne rfl)), fun hb H4 e4 => ⟨_, fun _ _ x => x, ?_⟩, fun hb H4 e4 => ?_⟩
  · rw [one_some] at hb
    cases q : Kzs1.next (gd g d) cur with
    | none =>
      rw [q] at hb
      cases hb
    | some w =>
      have hw : w < Kzs1.size g := by
        have := (next_lt hgd.len q).2
        omega
      have hev : ∀ {H5 : Hp}, Ev (tOp rSubI (tVar 4) (tC (.int 1))) [some (.ref a), some (.int p), some (.int d), some (.ref l), some (.int (oneM (some w) : Nat))] H5 (.int (w : Nat)) := fun {H5} => by
        refine ev_is (ev_op (ev_var rfl) ev_c rv_I0) ?_
        show V.int (((w + 1 : Nat) : Int) - 1) = V.int (w : Nat)
        rw [show ((w + 1 : Nat) : Int) - 1 = (w : Int) by omega]
      refine q_app (e4 _ _ b2) (ev_var rfl) hev (by rw [natV_len, List.length_append]; show _ + 1 < 100000; omega) fun H5 e5 => ?_
      have b5 : Ex H (upd H5 l (.lst (natV (pre ++ [cur]) ++ [.int (w : Nat)]))) := Ex.mut ((b1.trans e4).trans e5) hl0
      refine s_asg (ev_step rfl hev (ev_var rfl) hg (ex_l b5 hS) hw hd) fun H6 e6 => ⟨_, ?_, pre ++ [cur], w, rfl, G.more hgd.len hp' hbf q, hw, rfl, b5.trans e6, e6 _ _ ?_⟩
      · rw [List.length_append, List.length_singleton]
        omega
      · rw [upd_same, natV_snoc (pre ++ [cur])]
  · rw [one_some] at hb
    refine s_ret (ev_var rfl) fun H5 e5 => k l H5 hl0 ((b1.trans e4).trans e5) ?_
    rw [G.done (Option.isSome_eq_false_iff.mp hb |> Option.isNone_iff_eq_none.mp)]
    exact e5 _ _ (e4 _ _ b2)
end
end Tri

/-! ### line_or_refusal -/
namespace Tri
open PySem PySem.Spec PyProof.Rows L2 Evl
/-- what line_or_refusal gives back, told by what is due of other and way -/
inductive Told (m k : Int) (cs : List Int) : List Int → Prop where
  | no (r : Int) (h : r < 0) (ho : PyKzs2.other m k cs = [r]) (hw : PyKzs2.way m k cs = [r]) : Told m k cs [r]
  | yes (l pre : List Nat) (x : Nat) (hl : l = pre ++ [x]) (hf : l.length ≤ 1001) (ho : PyKzs2.other m k cs = [(x : Int), ((l.length - 1 : Nat) : Int)]) (hw : PyKzs2.way m k cs = (l.length : Int) :: l.map fun (x : Nat) => (x : Int)) : Told m k cs (l.map fun (x : Nat) => (x : Int))
def sp_line_or_refusal (K : PySem.W.Frag) : Sp := fun vs H Q _ => ∃ (m k : Int) (a : Addr) (cs : List Int), vs = [.int m, .int k, .ref a] ∧ 0 ≤ k ∧ SqL K H a (cs.map V.int) ∧ (∀ x ∈ cs, 0 ≤ x) ∧ ∀ xs, Told m k cs xs → RetL (xs.map V.int) H Q
section
variable {K : PySem.W.Frag} {vs : List V} {H : Hp} {Q : VK} {E : XK}
theorem len_line_or_refusal (h : sp_line_or_refusal K vs H Q E) : vs.length = 3 := by
  obtain ⟨m, k, a, cs, rfl, _⟩ := h
  rfl
end
section
variable {K : PySem.W.Frag}
theorem rowV_W (m : Nat) (c : List Nat) : rowV m c (sidesOf m).length = rowW (Kzs2.toLines m c) := by
  unfold rowV rowW natV
  rw [written_row]
/-- c isn't fair, or m no size; c the third -/
theorem et_refused3 {σ : L2.St} {H : Hp} {m : Int} {a : Addr} {cs : List Int} (h0 : σ[0]? = some (some (.int m))) (h1 : σ[2]? = some (some (.ref a))) (hS : SqL K H a (cs.map V.int)) (hnn : ∀ x ∈ cs, 0 ≤ x) :
    EvT (tOr (tNot (tB (tCall (sp_is_size K) [] E0 (tCons (tVar 0) tNil)))) (tNot (tB (tCall (sp_are_fair K) [] E0 (tCons (tVar 0) (tCons (tVar 2) tNil)))))) σ H (!isSize m || !Kzs2.fair m.toNat (cs.map Int.toNat)) :=
  et_or (et_not (et_B (ev_call (ea_cons (ev_var h0) ea_nil) fun H1 e Q q E => ⟨m, rfl, q⟩))) fun hb => et_not (et_B (ev_call (ea_cons (ev_var h0) (ea_cons (ev_var h1) ea_nil)) fun H1 e Q q E => by
    have hs : 1 ≤ m ∧ m ≤ 9 := by
      have : isSize m = true := by simpa using hb
      simpa [isSize] using this
    exact ⟨m.toNat, a, cs, by rw [Int.toNat_of_nonneg (by omega)]; rfl, by omega, ex_l e hS, hnn, q⟩))
theorem read_line_or_refusal (vs : List V) (H : Hp) (Q : VK) (E : XK) (h : sp_line_or_refusal K vs H Q E) : t_line_or_refusal K (sp_is_size K) (sp_are_fair K) (sp_row_of_lines K) (sp_is_end K) (sp_line_from K) { nx := fun _ H' => Q .non H', rt := Q } (start ["m", "k", "c", "row"] vs) H := by
  obtain ⟨m, i, a, cs, rfl, hi, hS, hnn, k⟩ := h
  refine q_when (et_refused3 rfl rfl hS hnn) (fun hb H1 e1 => ?_) (fun hb H1 e1 => ?_)
  · have hr := refused_no hb
    exact s_retL (el_lst (ea_cons ev_c ea_nil) (by decide)) fun p H2 hp e2 h2 => (k [-22] (.no (-22) (by decide) (f_other_no m i cs hr) (f_way_no m i cs hr))).go e1 hp e2 h2
  · obtain ⟨n, rfl, hn, hf⟩ := refused_yes hb
    obtain ⟨j, rfl⟩ : ∃ j : Nat, i = (j : Int) := ⟨i.toNat, by omega⟩
    have fo := f_other hn hf j
    have fw := f_way hn hf j
    have hg := good_lines hn.2 hf
    have hsz : Kzs1.size (Kzs2.toLines n (cs.map Int.toNat)) = (sidesOf n).length := nx_len _ _
    refine q_asgC (ea_cons (ev_var rfl) (ea_cons (ev_var rfl) ea_nil)) fun H2 e2 => ⟨n, a, cs, rfl, hn.2, ex_l (e1.trans e2) hS, hnn, hf, fun l H3 hl e3 h3 => ?_⟩
    rw [rowV_W] at h3
    have e03 : Ex H H3 := (e1.trans e2).trans e3
    refine q_when (b := decide ((sidesOf n).length ≤ j)) (et_is (et_test (ev_op (ev_op ev_c (ev_var rfl) (rv_I two_mul_ok)) (ev_len (ev_var rfl) (sq_of h3)) rv_I0)) ?_) (fun hb2 H4 e4 => ?_) (fun hb2 H4 e4 => ?_)
    · rw [natV_len, row_len, hsz]
      exact decide_eq_decide.mpr (by omega)
    · have c1 := of_decide_eq_true hb2
      rw [if_pos c1] at fo fw
      exact s_retL (el_lst (ea_cons ev_c ea_nil) (by decide)) fun p H5 hp e5 h5 => (k [-2] (.no (-2) (by decide) fo fw)).go (e03.trans e4) hp e5 h5
    · have c1 := of_decide_eq_false hb2
      rw [if_neg c1] at fo fw
      have hj : j < Kzs1.size (Kzs2.toLines n (cs.map Int.toNat)) := by omega
      refine q_when (et_not (et_B (ev_call (ea_cons (ev_var rfl) (ea_cons (ev_var rfl) ea_nil)) fun _ e5 _ q _ => ⟨l, Kzs2.toLines n (cs.map Int.toNat), j, rfl, hg, sq_of ((e4.trans e5) _ _ h3), hj, q⟩))) (fun hb3 H5 e5 => ?_) (fun hb3 H5 e5 => ?_)
      · rw [Bool.not_eq_true'] at hb3
        rw [if_pos hb3] at fo fw
        exact s_retL (el_lst (ea_cons ev_c ea_nil) (by decide)) fun p H6 hp e6 h6 => (k [-33] (.no (-33) (by decide) fo fw)).go ((e03.trans e4).trans e5) hp e6 h6
      · rw [Bool.not_eq_false'] at hb3
        rw [if_neg (by rw [hb3]; decide)] at fo fw
        obtain ⟨pre, hpre⟩ := line_snoc hg j
        have kk := k _ (.yes (Kzs1.line (Kzs2.toLines n (cs.map Int.toNat)) j) pre _ hpre (line_few hg j) fo fw)
        exact s_retL (el_call (ea_cons (ev_var rfl) (ea_cons (ev_var rfl) ea_nil)) fun _ e6 _ q _ => ⟨l, Kzs2.toLines n (cs.map Int.toNat), j, rfl, hg, sq_of (((e4.trans e5).trans e6) _ _ h3), hj, hb3, q⟩) fun p H6 hp e6 h6 => kk.go ((e03.trans e4).trans e5) hp e6 (by rw [h6, natV_ints])
end
end Tri

/-! ### way -/
namespace Tri
open PySem PySem.Spec PyProof.Rows L2 Evl
def sp_way (K : PySem.W.Frag) : Sp := fun vs H Q _ => ∃ (m k : Int) (a : Addr) (cs : List Int), vs = [.int m, .int k, .ref a] ∧ 0 ≤ k ∧ SqL K H a (cs.map V.int) ∧ (∀ x ∈ cs, 0 ≤ x) ∧
  ∀ (H' : Hp) (p : Addr), H' p = some (.lst ((PyKzs2.way m k cs).map V.int)) → Q (.ref p) H'
section
variable {K : PySem.W.Frag} {vs : List V} {H : Hp} {Q : VK} {E : XK}
theorem len_way (h : sp_way K vs H Q E) : vs.length = 3 := by
  obtain ⟨m, k, a, cs, rfl, _⟩ := h
  rfl
end
section
variable {K : PySem.W.Frag}
theorem head_at {l pre : List Nat} {x : Nat} (h : l = pre ++ [x]) : ∃ y : Nat, l[0]? = some y := by
  subst h
  cases pre with
  | nil => exact ⟨x, rfl⟩
  | cons y _ => exact ⟨y, rfl⟩
theorem read_way (vs : List V) (H : Hp) (Q : VK) (E : XK) (h : sp_way K vs H Q E) : t_way K (sp_line_or_refusal K) { nx := fun _ H' => Q .non H', rt := Q } (start ["m", "k", "c", "line"] vs) H := by
  obtain ⟨m, i, a, cs, rfl, hi, hS, hnn, k⟩ := h
  refine q_asgC (ea_cons (ev_var rfl) (ea_cons (ev_var rfl) (ea_cons (ev_var rfl) ea_nil))) fun H1 e1 => ⟨m, i, a, cs, rfl, hi, ex_l e1 hS, hnn, fun xs hT l H2 hl e2 h2 => ?_⟩
  cases hT with
  | no r hr ho hw =>
    refine q_when (et_test (ev_op (ev_op (ev_var rfl) ev_c (rv_ixL (K := K) (v := .int r) (sq_of h2) rfl)) ev_c rv_I0)) (fun _ H3 e3 => ?_) (fun hb H3 e3 => ?_)
    · refine s_ret (ev_var rfl) fun H4 e4 => k H4 l ?_
      rw [hw]
      exact e4 _ _ (e3 _ _ h2)
    · exact absurd hr (of_decide_eq_false hb)
  | yes q pre x hq hf ho hw =>
    rw [← natV_ints] at h2
    obtain ⟨y, hy⟩ := head_at hq
    refine q_when (et_test (ev_op (ev_op (ev_var rfl) ev_c (rv_ixL (K := K) (v := .int (y : Nat)) (sq_of h2) (natV_at hy))) ev_c rv_I0)) (fun hb H3 e3 => ?_) (fun hb H3 e3 => ?_)
    · have := of_decide_eq_true hb
      omega
    · have h3 := e3 _ _ h2
      refine s_retL (el_cat (el_lst (ea_cons (ev_len (ev_var rfl) (sq_of h3)) ea_nil) (by show 1 ≤ 100000; omega)) (ev_var rfl) h3 (by rw [natV_len]; show 1 + _ ≤ 100000; omega)) fun p H4 _ _ h4 => k H4 p ?_
      rw [h4, hw, natV_len, natV_ints]
      rfl
theorem asked (K : PySem.W.Frag) (H : Hp) (xs : List V) (a : PySem.W.Codec.denoteAll PySem.Challenge.rw_threecolours_s07_way.args) (hw : PySem.W.Codec.withinAll PySem.Challenge.rw_threecolours_s07_way.args a = true)
    (hx : DwAll K H xs (PySem.W.Codec.encAll PySem.Challenge.rw_threecolours_s07_way.args a)) :
    sp_way K xs H (fun v H' => Dw K H' v (PySem.Challenge.rw_threecolours_s07_way.ret.enc (PySem.W.Codec.app PySem.Challenge.rw_threecolours_s07_way.args PySem.Challenge.rw_threecolours_s07_way.f a))) fun _ _ _ => False := by
  cases hx with
  | cons h1 h2 =>
    cases h1
    cases h2 with
    | cons h3 h4 =>
      cases h3
      cases h4 with
      | cons h5 h6 =>
        cases h6
        cases h5 with
        | lst hs ha =>
          have e := L2.ints_dw a.2.2.1 _ ha
          subst e
          have q : (PySem.W.Codec.inInt 0 4294967295 a.1 && (PySem.W.Codec.inInt 0 4294967295 a.2.1 && ((PySem.W.Codec.inLen 0 200 a.2.2.1 && a.2.2.1.all (PySem.W.Codec.inInt 0 4294967295)) && true))) = true := hw
          rw [Bool.and_eq_true, Bool.and_eq_true, Bool.and_eq_true, Bool.and_eq_true] at q
          refine ⟨a.1, a.2.1, _, a.2.2.1, rfl, ?_, hs, fun x hx => ?_, fun H' p hp => .lst (L2.SqL.of hp) (L2.dw_ints _)⟩
          · have r := q.2.1
            unfold PySem.W.Codec.inInt at r
            rw [Bool.and_eq_true, decide_eq_true_eq] at r
            exact r.1
          · have r := List.all_eq_true.mp q.2.2.1.2 x hx
            unfold PySem.W.Codec.inInt at r
            rw [Bool.and_eq_true, decide_eq_true_eq] at r
            exact r.1
end
end Tri

/-! ### Each def holds its promise (printed by tools/gen.py): the derivation, then read_f -/
namespace Tri
open PySem PySem.Spec PyProof.Rows L2 Evl
section
variable {P : Program} {w : World} {K : PySem.W.Frag} {mg : Str → Option Value} {base : Heap} {a_DOOR_IN a_DOOR_OUT : Addr}
theorem ok_is_size {f : Addr} {fd : FuncData} (F : Fun K "is_size" "is_size" st_is_size f fd) (T : Txt K mg a_DOOR_IN a_DOOR_OUT) : FnOk P w K mg base CX0 1 f fd ["m"] (sp_is_size K) := by
  refine F.ok sc_is_size (fun vs H Q E h => len_is_size h) (fun cdv A outer s H vs Q E hr h => ⟨t_is_size K  , ?_, read_is_size vs H Q E h⟩)
  exact (pss_one (ps_ret (pe_and (pe_cmpR op_ge (pv 0) pe_int (nomark _)) (pe_one (pe_cmpR op_le (pv 0) (pe_g (by rfl) T.g_LARGEST_SIZE) (nomark _))))))
theorem ok_places {f : Addr} {fd : FuncData} (F : Fun K "places" "places" st_places f fd) (T : Txt K mg a_DOOR_IN a_DOOR_OUT) : FnOk P w K mg base CX0 1 f fd ["m"] (sp_places K) := by
  refine F.ok sc_places (fun vs H Q E h => len_places h) (fun cdv A outer s H vs Q E hr h => ⟨t_places K  , ?_, read_places vs H Q E h⟩)
  exact (pss_cons (ps_set (i := 1) sc_places.nd rfl (Or.inl rfl) (pe_lst pa_nil))
      (pss_cons (ps_for PassesOwn.never rfl (pi_range1 (by rfl) T.n_range (pa_cons (pe_op op_add (pv 0) pe_int) pa_nil)) (pg_name (i := 2) sc_places.nd rfl (Or.inl rfl))
      (pss_one (ps_for PassesOwn.never rfl (pi_range1 (by rfl) T.n_range (pa_cons (pe_op op_sub (pe_op op_add (pv 0) pe_int) (pv 2)) pa_nil)) (pg_name (i := 3) sc_places.nd rfl (Or.inl rfl))
      (pss_one (ps_expr (pe_bm PySem.F.plainAttrs_list PySem.F.slot_list_append PySem.F.type_list_append mt_append (pv 1) (pa_cons (pe_tup (pa_cons (pv 3) (pa_cons (pv 2) (pa_cons (pe_op op_sub (pe_op op_sub (pv 0) (pv 3)) (pv 2)) pa_nil)))) pa_nil)))))))
      (pss_one (ps_ret (pv 1)))))
theorem ok_are_fair {f : Addr} {fd : FuncData} (F : Fun K "are_fair" "are_fair" st_are_fair f fd) (T : Txt K mg a_DOOR_IN a_DOOR_OUT) (h_places : Has P w K mg base 1 "places" ["m"] (sp_places K)) : FnOk P w K mg base CX0 2 f fd ["m", "c"] (sp_are_fair K) := by
  refine F.ok sc_are_fair (fun vs H Q E h => len_are_fair h) (fun cdv A outer s H vs Q E hr h => ⟨t_are_fair K (sp_places K) , ?_, read_are_fair vs H Q E h⟩)
  exact (pss_cons (ps_set (i := 2) sc_are_fair.nd rfl (Or.inl rfl) (pe_own h_places (hr.mono (by decide)) (by rfl) (pa_cons (pv 0) pa_nil)))
      (pss_cons (ps_if (pt_cmpR op_ne (pe_callB call_len_seq (by rfl) T.n_len PySem.boot_len (pa_cons (pv 1) pa_nil)) (pe_callB call_len_seq (by rfl) T.n_len PySem.boot_len (pa_cons (pv 2) pa_nil)) (nomark _))
      (pss_one (ps_ret pe_bl))
      pss_nil)
      (pss_cons (ps_for PassesOwn.never rfl (pi_zip (by rfl) T.n_zip (pa_cons (pv 2) (pa_cons (pv 1) pa_nil))) (pg_tup rfl (pgs_cons (pg_name (i := 3) sc_are_fair.nd rfl (Or.inl rfl)) (pgs_cons (pg_name (i := 4) sc_are_fair.nd rfl (Or.inl rfl)) pgs_nil)))
      (pss_one (ps_if (PW.pt (pw_or (pt_cmpR op_ge (pv 4) (pe_g (by rfl) T.g_COLOURS) (nomark _)) (pw_or1 (pt_cmpR op_eq (pe_ix ix_tup (pv 3) (pv 4) (fun _ _ => rfl)) pe_int (nomark _)))))
      (pss_one (ps_ret pe_bl))
      pss_nil)))
      (pss_one (ps_ret pe_bl)))))
theorem ok_small_triangles {f : Addr} {fd : FuncData} (F : Fun K "small_triangles" "small_triangles" st_small_triangles f fd) (T : Txt K mg a_DOOR_IN a_DOOR_OUT) : FnOk P w K mg base CX0 1 f fd ["m"] (sp_small_triangles K) := by
  refine F.ok sc_small_triangles (fun vs H Q E h => len_small_triangles h) (fun cdv A outer s H vs Q E hr h => ⟨t_small_triangles K  , ?_, read_small_triangles vs H Q E h⟩)
  exact (pss_cons (ps_set (i := 1) sc_small_triangles.nd rfl (Or.inl rfl) (pe_lst pa_nil))
      (pss_cons (ps_for PassesOwn.never rfl (pi_range1 (by rfl) T.n_range (pa_cons (pv 0) pa_nil)) (pg_name (i := 2) sc_small_triangles.nd rfl (Or.inl rfl))
      (pss_one (ps_for PassesOwn.never rfl (pi_range1 (by rfl) T.n_range (pa_cons (pe_op op_sub (pv 0) (pv 2)) pa_nil)) (pg_name (i := 3) sc_small_triangles.nd rfl (Or.inl rfl))
      (pss_cons (ps_expr (pe_bm PySem.F.plainAttrs_list PySem.F.slot_list_append PySem.F.type_list_append mt_append (pv 1) (pa_cons (pe_tup (pa_cons (pv 3) (pa_cons (pv 2) (pa_cons (pe_g (by rfl) T.g_UP) pa_nil)))) pa_nil)))
      (pss_one (ps_if (pt_cmpR op_lt (pe_op op_add (pv 3) (pv 2)) (pe_op op_sub (pv 0) pe_int) (nomark _))
      (pss_one (ps_expr (pe_bm PySem.F.plainAttrs_list PySem.F.slot_list_append PySem.F.type_list_append mt_append (pv 1) (pa_cons (pe_tup (pa_cons (pv 3) (pa_cons (pv 2) (pa_cons (pe_g (by rfl) T.g_DOWN) pa_nil)))) pa_nil))))
      pss_nil))))))
      (pss_one (ps_ret (pv 1)))))
theorem ok_corners_of {f : Addr} {fd : FuncData} (F : Fun K "corners_of" "corners_of" st_corners_of f fd) (T : Txt K mg a_DOOR_IN a_DOOR_OUT) : FnOk P w K mg base CX0 1 f fd ["room"] (sp_corners_of K) := by
  refine F.ok sc_corners_of (fun vs H Q E h => len_corners_of h) (fun cdv A outer s H vs Q E hr h => ⟨t_corners_of K  , ?_, read_corners_of vs H Q E h⟩)
  exact (pss_cons (ps_set (i := 1) sc_corners_of.nd rfl (Or.inl rfl) (pe_ix ix_tup (pv 0) pe_int (fun _ _ => rfl)))
      (pss_cons (ps_set (i := 2) sc_corners_of.nd rfl (Or.inl rfl) (pe_ix ix_tup (pv 0) pe_int (fun _ _ => rfl)))
      (pss_cons (ps_if (pt_cmpR op_eq (pe_ix ix_tup (pv 0) pe_int (fun _ _ => rfl)) (pe_g (by rfl) T.g_UP) (nomark _))
      (pss_one (ps_ret (pe_lst (pa_cons (pe_tup (pa_cons (pv 1) (pa_cons (pv 2) pa_nil))) (pa_cons (pe_tup (pa_cons (pe_op op_add (pv 1) pe_int) (pa_cons (pv 2) pa_nil))) (pa_cons (pe_tup (pa_cons (pv 1) (pa_cons (pe_op op_add (pv 2) pe_int) pa_nil))) pa_nil))))))
      pss_nil)
      (pss_one (ps_ret (pe_lst (pa_cons (pe_tup (pa_cons (pe_op op_add (pv 1) pe_int) (pa_cons (pe_op op_add (pv 2) pe_int) pa_nil))) (pa_cons (pe_tup (pa_cons (pv 1) (pa_cons (pe_op op_add (pv 2) pe_int) pa_nil))) (pa_cons (pe_tup (pa_cons (pe_op op_add (pv 1) pe_int) (pa_cons (pv 2) pa_nil))) pa_nil)))))))))
theorem ok_colours_by_place {f : Addr} {fd : FuncData} (F : Fun K "colours_by_place" "colours_by_place" st_colours_by_place f fd) (T : Txt K mg a_DOOR_IN a_DOOR_OUT) (h_places : Has P w K mg base 1 "places" ["m"] (sp_places K)) : FnOk P w K mg base CX0 2 f fd ["m", "c"] (sp_colours_by_place K) := by
  refine F.ok sc_colours_by_place (fun vs H Q E h => len_colours_by_place h) (fun cdv A outer s H vs Q E hr h => ⟨t_colours_by_place K (sp_places K) , ?_, read_colours_by_place vs H Q E h⟩)
  exact (pss_cons (ps_set (i := 2) sc_colours_by_place.nd rfl (Or.inl rfl) pe_dnewT)
      (pss_cons (ps_for PassesOwn.never rfl (pi_zip (by rfl) T.n_zip (pa_cons (pe_own h_places (hr.mono (by decide)) (by rfl) (pa_cons (pv 0) pa_nil)) (pa_cons (pv 1) pa_nil))) (pg_tup rfl (pgs_cons (pg_name (i := 3) sc_colours_by_place.nd rfl (Or.inl rfl)) (pgs_cons (pg_name (i := 4) sc_colours_by_place.nd rfl (Or.inl rfl)) pgs_nil)))
      (pss_one (ps_dput (hu_of hr) (pv 2) (pe_tup (pa_cons (pe_ix ix_tup (pv 3) pe_int (fun _ _ => rfl)) (pa_cons (pe_ix ix_tup (pv 3) pe_int (fun _ _ => rfl)) pa_nil))) (pv 4) (by rfl))))
      (pss_one (ps_ret (pv 2)))))
theorem ok_sides_of_points {f : Addr} {fd : FuncData} (F : Fun K "sides_of_points" "sides_of_points" st_sides_of_points f fd) (T : Txt K mg a_DOOR_IN a_DOOR_OUT) (h_small_triangles : Has P w K mg base 1 "small_triangles" ["m"] (sp_small_triangles K)) (h_corners_of : Has P w K mg base 1 "corners_of" ["room"] (sp_corners_of K)) : FnOk P w K mg base CX0 2 f fd ["m"] (sp_sides_of_points K) := by
  refine F.ok sc_sides_of_points (fun vs H Q E h => len_sides_of_points h) (fun cdv A outer s H vs Q E hr h => ⟨t_sides_of_points K (sp_small_triangles K) (sp_corners_of K) , ?_, read_sides_of_points vs H Q E h⟩)
  exact (pss_cons (ps_set (i := 1) sc_sides_of_points.nd rfl (Or.inl rfl) (pe_lst pa_nil))
      (pss_cons (ps_for PassesOwn.never rfl (pi_list (pe_own h_small_triangles (hr.mono (by decide)) (by rfl) (pa_cons (pv 0) pa_nil))) (pg_name (i := 2) sc_sides_of_points.nd rfl (Or.inl rfl))
      (pss_cons (ps_set (i := 3) sc_sides_of_points.nd rfl (Or.inl rfl) (pe_own h_corners_of (hr.mono (by decide)) (by rfl) (pa_cons (pv 2) pa_nil)))
      (pss_one (ps_expr (pe_bm PySem.F.plainAttrs_list PySem.F.slot_list_append PySem.F.type_list_append mt_append (pv 1) (pa_cons (pe_lst (pa_cons (pe_tup (pa_cons (pe_ix ix_list (pv 3) pe_int (fun _ _ => rfl)) (pa_cons (pe_ix ix_list (pv 3) pe_int (fun _ _ => rfl)) pa_nil))) (pa_cons (pe_tup (pa_cons (pe_ix ix_list (pv 3) pe_int (fun _ _ => rfl)) (pa_cons (pe_ix ix_list (pv 3) pe_int (fun _ _ => rfl)) pa_nil))) (pa_cons (pe_tup (pa_cons (pe_ix ix_list (pv 3) pe_int (fun _ _ => rfl)) (pa_cons (pe_ix ix_list (pv 3) pe_int (fun _ _ => rfl)) pa_nil))) pa_nil)))) pa_nil))))))
      (pss_cons (ps_for PassesOwn.never rfl (pi_range1 (by rfl) T.n_range (pa_cons (pv 0) pa_nil)) (pg_name (i := 4) sc_sides_of_points.nd rfl (Or.inl rfl))
      (pss_one (ps_expr (pe_bm PySem.F.plainAttrs_list PySem.F.slot_list_append PySem.F.type_list_append mt_append (pv 1) (pa_cons (pe_lst (pa_cons (pe_tup (pa_cons (pe_tup (pa_cons (pv 4) (pa_cons (pe_op op_sub (pv 0) (pv 4)) pa_nil))) (pa_cons (pe_tup (pa_cons (pe_op op_add (pv 4) pe_int) (pa_cons (pe_op op_sub (pe_op op_sub (pv 0) (pv 4)) pe_int) pa_nil))) pa_nil))) pa_nil)) pa_nil)))))
      (pss_one (ps_ret (pv 1))))))
theorem ok_points_by_side {f : Addr} {fd : FuncData} (F : Fun K "points_by_side" "points_by_side" st_points_by_side f fd) (T : Txt K mg a_DOOR_IN a_DOOR_OUT) : FnOk P w K mg base CX0 1 f fd ["sides_listed"] (sp_points_by_side P w K) := by
  refine F.ok sc_points_by_side (fun vs H Q E h => len_points_by_side h) (fun cdv A outer s H vs Q E hr h => ⟨t_points_by_side P w K  , ?_, read_points_by_side vs H Q E h⟩)
  exact (pss_cons (ps_set (i := 1) sc_points_by_side.nd rfl (Or.inl rfl) pe_nnew)
      (pss_cons (ps_for PassesOwn.never rfl (pi_enum (by rfl) T.n_enumerate (pa_cons (pv 0) pa_nil)) (pg_tup rfl (pgs_cons (pg_name (i := 2) sc_points_by_side.nd rfl (Or.inl rfl)) (pgs_cons (pg_name (i := 3) sc_points_by_side.nd rfl (Or.inl rfl)) pgs_nil)))
      (pss_one (ps_for PassesOwn.never rfl (pi_list (pv 3)) (pg_name (i := 4) sc_points_by_side.nd rfl (Or.inl rfl))
      (pss_one (ps_nput hr.units (pv 1) (pv 4) (pv 2) (by rfl))))))
      (pss_one (ps_ret (pv 1)))))
theorem ok_beyond {f : Addr} {fd : FuncData} (F : Fun K "beyond" "beyond" st_beyond f fd) (T : Txt K mg a_DOOR_IN a_DOOR_OUT) : FnOk P w K mg base CX0 1 f fd ["sides", "door", "by_place", "by_side"] (sp_beyond P w K) := by
  refine F.ok sc_beyond (fun vs H Q E h => len_beyond h) (fun cdv A outer s H vs Q E hr h => ⟨t_beyond P w K  , ?_, read_beyond vs H Q E h⟩)
  exact (pss_cons (ps_for PassesOwn.never rfl (pi_list (pv 0)) (pg_tup rfl (pgs_cons (pg_name (i := 4) sc_beyond.nd rfl (Or.inl rfl)) (pgs_cons (pg_name (i := 5) sc_beyond.nd rfl (Or.inl rfl)) pgs_nil)))
      (pss_one (ps_if (pt_cmpR (op_eqD hr.units) (pe_tup (pa_cons (pe_dget (hu_of hr) (pv 2) (pv 4) (fun _ _ => rfl)) (pa_cons (pe_dget (hu_of hr) (pv 2) (pv 5) (fun _ _ => rfl)) pa_nil))) (pv 1) (nomark _))
      (pss_one (ps_ret (pe_op op_add (pe_nget hr.units (pv 3) (pe_tup (pa_cons (pv 5) (pa_cons (pv 4) pa_nil))) (fun _ _ => rfl)) pe_int)))
      pss_nil)))
      (pss_one (ps_ret (pe_g (by rfl) T.g_NOTHING))))
theorem ok_row_of_lines {f : Addr} {fd : FuncData} (F : Fun K "row_of_lines" "row_of_lines" st_row_of_lines f fd) (T : Txt K mg a_DOOR_IN a_DOOR_OUT) (h_colours_by_place : Has P w K mg base 2 "colours_by_place" ["m", "c"] (sp_colours_by_place K)) (h_sides_of_points : Has P w K mg base 2 "sides_of_points" ["m"] (sp_sides_of_points K)) (h_points_by_side : Has P w K mg base 1 "points_by_side" ["sides_listed"] (sp_points_by_side P w K)) (h_beyond : Has P w K mg base 1 "beyond" ["sides", "door", "by_place", "by_side"] (sp_beyond P w K)) : FnOk P w K mg base CX0 3 f fd ["m", "c"] (sp_row_of_lines K) := by
  refine F.ok sc_row_of_lines (fun vs H Q E h => len_row_of_lines h) (fun cdv A outer s H vs Q E hr h => ⟨t_row_of_lines K (sp_colours_by_place K) (sp_sides_of_points K) (sp_points_by_side P w K) (sp_beyond P w K) a_DOOR_IN a_DOOR_OUT, ?_, read_row_of_lines T.q_DOOR_IN T.q_DOOR_OUT vs H Q E h⟩)
  exact (pss_cons (ps_set (i := 2) sc_row_of_lines.nd rfl (Or.inl rfl) (pe_own h_colours_by_place (hr.mono (by decide)) (by rfl) (pa_cons (pv 0) (pa_cons (pv 1) pa_nil))))
      (pss_cons (ps_set (i := 3) sc_row_of_lines.nd rfl (Or.inl rfl) (pe_own h_sides_of_points (hr.mono (by decide)) (by rfl) (pa_cons (pv 0) pa_nil)))
      (pss_cons (ps_set (i := 4) sc_row_of_lines.nd rfl (Or.inl rfl) (pe_own h_points_by_side (hr.mono (by decide)) (by rfl) (pa_cons (pv 3) pa_nil)))
      (pss_cons (ps_set (i := 5) sc_row_of_lines.nd rfl (Or.inl rfl) (pe_lst pa_nil))
      (pss_cons (ps_for PassesOwn.never rfl (pi_list (pv 3)) (pg_name (i := 6) sc_row_of_lines.nd rfl (Or.inl rfl))
      (pss_cons (ps_expr (pe_bm PySem.F.plainAttrs_list PySem.F.slot_list_append PySem.F.type_list_append mt_append (pv 5) (pa_cons (pe_own h_beyond (hr.mono (by decide)) (by rfl) (pa_cons (pv 6) (pa_cons (pe_g (by rfl) T.g_DOOR_OUT) (pa_cons (pv 2) (pa_cons (pv 4) pa_nil))))) pa_nil)))
      (pss_one (ps_expr (pe_bm PySem.F.plainAttrs_list PySem.F.slot_list_append PySem.F.type_list_append mt_append (pv 5) (pa_cons (pe_own h_beyond (hr.mono (by decide)) (by rfl) (pa_cons (pv 6) (pa_cons (pe_g (by rfl) T.g_DOOR_IN) (pa_cons (pv 2) (pa_cons (pv 4) pa_nil))))) pa_nil))))))
      (pss_one (ps_ret (pv 5))))))))
theorem ok_step_from {f : Addr} {fd : FuncData} (F : Fun K "step_from" "step_from" st_step_from f fd) (T : Txt K mg a_DOOR_IN a_DOOR_OUT) : FnOk P w K mg base CX0 1 f fd ["row", "point", "direction"] (sp_step_from K) := by
  refine F.ok sc_step_from (fun vs H Q E h => len_step_from h) (fun cdv A outer s H vs Q E hr h => ⟨t_step_from K  , ?_, read_step_from vs H Q E h⟩)
  exact (pss_cons (ps_set (i := 3) sc_step_from.nd rfl (Or.inl rfl) (pe_ix ix_list (pv 0) (pe_op op_add (pe_op op_mul pe_int (pv 1)) (pv 2)) (fun _ _ => rfl)))
      (pss_cons (ps_if (PW.pt (pw_and (pt_cmpR op_ne (pv 3) (pe_g (by rfl) T.g_NOTHING) (nomark _)) (pw_and1 (pt_cmpR op_eq (pe_ix ix_list (pv 0) (pe_op op_sub (pe_op op_add (pe_op op_mul pe_int (pe_op op_sub (pv 3) pe_int)) pe_int) (pv 2)) (fun _ _ => rfl)) (pe_op op_add (pv 1) pe_int) (nomark _)))))
      (pss_one (ps_ret (pv 3)))
      pss_nil)
      (pss_one (ps_ret (pe_g (by rfl) T.g_NOTHING)))))
theorem ok_begins {f : Addr} {fd : FuncData} (F : Fun K "begins" "begins" st_begins f fd) (T : Txt K mg a_DOOR_IN a_DOOR_OUT) (h_step_from : Has P w K mg base 1 "step_from" ["row", "point", "direction"] (sp_step_from K)) : FnOk P w K mg base CX0 2 f fd ["row", "point"] (sp_begins K) := by
  refine F.ok sc_begins (fun vs H Q E h => len_begins h) (fun cdv A outer s H vs Q E hr h => ⟨t_begins K (sp_step_from K) , ?_, read_begins vs H Q E h⟩)
  exact (pss_one (ps_ret (pe_and (pe_cmpR op_ne (pe_own h_step_from (hr.mono (by decide)) (by rfl) (pa_cons (pv 0) (pa_cons (pv 1) (pa_cons (pe_g (by rfl) T.g_ON) pa_nil)))) (pe_g (by rfl) T.g_NOTHING) (nomark _)) (pe_one (pe_cmpR op_eq (pe_own h_step_from (hr.mono (by decide)) (by rfl) (pa_cons (pv 0) (pa_cons (pv 1) (pa_cons (pe_g (by rfl) T.g_BACK) pa_nil)))) (pe_g (by rfl) T.g_NOTHING) (nomark _))))))
theorem ok_stops {f : Addr} {fd : FuncData} (F : Fun K "stops" "stops" st_stops f fd) (T : Txt K mg a_DOOR_IN a_DOOR_OUT) (h_step_from : Has P w K mg base 1 "step_from" ["row", "point", "direction"] (sp_step_from K)) : FnOk P w K mg base CX0 2 f fd ["row", "point"] (sp_stops K) := by
  refine F.ok sc_stops (fun vs H Q E h => len_stops h) (fun cdv A outer s H vs Q E hr h => ⟨t_stops K (sp_step_from K) , ?_, read_stops vs H Q E h⟩)
  exact (pss_one (ps_ret (pe_and (pe_cmpR op_ne (pe_own h_step_from (hr.mono (by decide)) (by rfl) (pa_cons (pv 0) (pa_cons (pv 1) (pa_cons (pe_g (by rfl) T.g_BACK) pa_nil)))) (pe_g (by rfl) T.g_NOTHING) (nomark _)) (pe_one (pe_cmpR op_eq (pe_own h_step_from (hr.mono (by decide)) (by rfl) (pa_cons (pv 0) (pa_cons (pv 1) (pa_cons (pe_g (by rfl) T.g_ON) pa_nil)))) (pe_g (by rfl) T.g_NOTHING) (nomark _))))))
theorem ok_is_end {f : Addr} {fd : FuncData} (F : Fun K "is_end" "is_end" st_is_end f fd) (T : Txt K mg a_DOOR_IN a_DOOR_OUT) (h_begins : Has P w K mg base 2 "begins" ["row", "point"] (sp_begins K)) (h_stops : Has P w K mg base 2 "stops" ["row", "point"] (sp_stops K)) : FnOk P w K mg base CX0 3 f fd ["row", "point"] (sp_is_end K) := by
  refine F.ok sc_is_end (fun vs H Q E h => len_is_end h) (fun cdv A outer s H vs Q E hr h => ⟨t_is_end K (sp_begins K) (sp_stops K) , ?_, read_is_end vs H Q E h⟩)
  exact (pss_one (ps_ret (pe_or (pe_own h_begins (hr.mono (by decide)) (by rfl) (pa_cons (pv 0) (pa_cons (pv 1) pa_nil))) (pe_one (pe_own h_stops (hr.mono (by decide)) (by rfl) (pa_cons (pv 0) (pa_cons (pv 1) pa_nil)))))))
theorem ok_line_from {f : Addr} {fd : FuncData} (F : Fun K "line_from" "line_from" st_line_from f fd) (T : Txt K mg a_DOOR_IN a_DOOR_OUT) (h_begins : Has P w K mg base 2 "begins" ["row", "point"] (sp_begins K)) (h_step_from : Has P w K mg base 1 "step_from" ["row", "point", "direction"] (sp_step_from K)) : FnOk P w K mg base CX0 3 f fd ["row", "end"] (sp_line_from K) := by
  refine F.ok sc_line_from (fun vs H Q E h => len_line_from h) (fun cdv A outer s H vs Q E hr h => ⟨t_line_from K (sp_begins K) (sp_step_from K) , ?_, read_line_from vs H Q E h⟩)
  exact (pss_cons (ps_set (i := 2) sc_line_from.nd rfl (Or.inl rfl) (pe_ifExp (pt_val (pe_own h_begins (hr.mono (by decide)) (by rfl) (pa_cons (pv 0) (pa_cons (pv 1) pa_nil)))) (pe_g (by rfl) T.g_ON) (pe_g (by rfl) T.g_BACK)))
      (pss_cons (ps_set (i := 3) sc_line_from.nd rfl (Or.inl rfl) (pe_lst (pa_cons (pv 1) pa_nil)))
      (pss_cons (ps_set (i := 4) sc_line_from.nd rfl (Or.inl rfl) (pe_own h_step_from (hr.mono (by decide)) (by rfl) (pa_cons (pv 0) (pa_cons (pv 1) (pa_cons (pv 2) pa_nil)))))
      (pss_cons (ps_while PassesOwn.never (pt_cmpR op_ne (pv 4) (pe_g (by rfl) T.g_NOTHING) (nomark _))
      (pss_cons (ps_expr (pe_bm PySem.F.plainAttrs_list PySem.F.slot_list_append PySem.F.type_list_append mt_append (pv 3) (pa_cons (pe_op op_sub (pv 4) pe_int) pa_nil)))
      (pss_one (ps_set (i := 4) sc_line_from.nd rfl (Or.inl rfl) (pe_own h_step_from (hr.mono (by decide)) (by rfl) (pa_cons (pv 0) (pa_cons (pe_op op_sub (pv 4) pe_int) (pa_cons (pv 2) pa_nil))))))))
      (pss_one (ps_ret (pv 3)))))))
theorem ok_line_or_refusal {f : Addr} {fd : FuncData} (F : Fun K "line_or_refusal" "line_or_refusal" st_line_or_refusal f fd) (T : Txt K mg a_DOOR_IN a_DOOR_OUT) (h_is_size : Has P w K mg base 1 "is_size" ["m"] (sp_is_size K)) (h_are_fair : Has P w K mg base 2 "are_fair" ["m", "c"] (sp_are_fair K)) (h_row_of_lines : Has P w K mg base 3 "row_of_lines" ["m", "c"] (sp_row_of_lines K)) (h_is_end : Has P w K mg base 3 "is_end" ["row", "point"] (sp_is_end K)) (h_line_from : Has P w K mg base 3 "line_from" ["row", "end"] (sp_line_from K)) : FnOk P w K mg base CX0 4 f fd ["m", "k", "c"] (sp_line_or_refusal K) := by
  refine F.ok sc_line_or_refusal (fun vs H Q E h => len_line_or_refusal h) (fun cdv A outer s H vs Q E hr h => ⟨t_line_or_refusal K (sp_is_size K) (sp_are_fair K) (sp_row_of_lines K) (sp_is_end K) (sp_line_from K) , ?_, read_line_or_refusal vs H Q E h⟩)
  exact (pss_cons (ps_if (PW.pt (pw_or (pt_not (pt_val (pe_own h_is_size (hr.mono (by decide)) (by rfl) (pa_cons (pv 0) pa_nil)))) (pw_or1 (pt_not (pt_val (pe_own h_are_fair (hr.mono (by decide)) (by rfl) (pa_cons (pv 0) (pa_cons (pv 2) pa_nil))))))))
      (pss_one (ps_ret (pe_lst (pa_cons (pe_g (by rfl) T.g_REFUSED_INPUT) pa_nil))))
      pss_nil)
      (pss_cons (ps_set (i := 3) sc_line_or_refusal.nd rfl (Or.inl rfl) (pe_own h_row_of_lines (hr.mono (by decide)) (by rfl) (pa_cons (pv 0) (pa_cons (pv 2) pa_nil))))
      (pss_cons (ps_if (pt_cmpR op_ge (pe_op op_mul pe_int (pv 1)) (pe_callB call_len_seq (by rfl) T.n_len PySem.boot_len (pa_cons (pv 3) pa_nil)) (nomark _))
      (pss_one (ps_ret (pe_lst (pa_cons (pe_g (by rfl) T.g_REFUSED_POINT) pa_nil))))
      pss_nil)
      (pss_cons (ps_if (pt_not (pt_val (pe_own h_is_end (hr.mono (by decide)) (by rfl) (pa_cons (pv 3) (pa_cons (pv 1) pa_nil)))))
      (pss_one (ps_ret (pe_lst (pa_cons (pe_g (by rfl) T.g_REFUSED_END) pa_nil))))
      pss_nil)
      (pss_one (ps_ret (pe_own h_line_from (hr.mono (by decide)) (by rfl) (pa_cons (pv 3) (pa_cons (pv 1) pa_nil)))))))))
theorem ok_way {f : Addr} {fd : FuncData} (F : Fun K "way" "way" st_way f fd) (T : Txt K mg a_DOOR_IN a_DOOR_OUT) (h_line_or_refusal : Has P w K mg base 4 "line_or_refusal" ["m", "k", "c"] (sp_line_or_refusal K)) : FnOk P w K mg base CX0 5 f fd ["m", "k", "c"] (sp_way K) := by
  refine F.ok sc_way (fun vs H Q E h => len_way h) (fun cdv A outer s H vs Q E hr h => ⟨t_way K (sp_line_or_refusal K) , ?_, read_way vs H Q E h⟩)
  exact (pss_cons (ps_set (i := 3) sc_way.nd rfl (Or.inl rfl) (pe_own h_line_or_refusal (hr.mono (by decide)) (by rfl) (pa_cons (pv 0) (pa_cons (pv 1) (pa_cons (pv 2) pa_nil)))))
      (pss_cons (ps_if (pt_cmpR op_lt (pe_ix ix_list (pv 3) pe_int (fun _ _ => rfl)) pe_int (nomark _))
      (pss_one (ps_ret (pv 3)))
      pss_nil)
      (pss_one (ps_ret (pe_op op_cat (pe_lst (pa_cons (pe_callB call_len_seq (by rfl) T.n_len PySem.boot_len (pa_cons (pv 3) pa_nil)) pa_nil)) (pv 3))))))
end
end Tri

/-! ### The end (printed by tools/gen.py) -/
namespace Tri
open PySem PySem.Spec PyProof.Rows L2 Evl
theorem all_mk {P : Program} {w : World} {K : PySem.W.Frag} {h : Heap} {mg : Str → Option Value} {fa f1 f2 f3 f4 f5 f6 f7 f8 f9 f10 f11 f12 f13 f14 f15 f16 f17 : Addr} (X : K.In h) (G : h.Ns mainGlobals mg) (hfa : mg "way" = some (.ref fa))
    {od1 an1 od2 an2 od3 an3 od4 an4 od5 an5 od6 an6 od7 an7 od8 an8 od9 an9 od10 an10 od11 an11 od12 an12 od13 an13 od14 an14 od15 an15 od16 an16 od17 an17 : Option Addr} {sl1 sl2 sl3 sl4 sl5 sl6 sl7 sl8 sl9 sl10 sl11 sl12 sl13 sl14 sl15 sl16 sl17 : Array (Option Value)} {oc1 kV1 dc1 pm1 cd1 ct1 oc2 kV2 dc2 pm2 cd2 ct2 oc3 kV3 dc3 pm3 cd3 ct3 oc4 kV4 dc4 pm4 cd4 ct4 oc5 kV5 dc5 pm5 cd5 ct5 oc6 kV6 dc6 pm6 cd6 ct6 oc7 kV7 dc7 pm7 cd7 ct7 oc8 kV8 dc8 pm8 cd8 ct8 oc9 kV9 dc9 pm9 cd9 ct9 oc10 kV10 dc10 pm10 cd10 ct10 oc11 kV11 dc11 pm11 cd11 ct11 oc12 kV12 dc12 pm12 cd12 ct12 oc13 kV13 dc13 pm13 cd13 ct13 oc14 kV14 dc14 pm14 cd14 ct14 oc15 kV15 dc15 pm15 cd15 ct15 oc16 kV16 dc16 pm16 cd16 ct16 oc17 kV17 dc17 pm17 cd17 ct17 : Value} {tk0 tk1 tk2 tk3 tk4 tk5 tk6 tk7 tk8 tk9 : Tok}
    (a1 : PySem.W.nsIn K mainGlobals "is_size" = some (some (.ref f1))) (l1 : K.lookup f1 = some ⟨oc1, od1, .func (PySem.W.fnOf "is_size" "is_size" (defArgs st_is_size) (defBody st_is_size) (defScope st_is_size) .none kV1 dc1 pm1 an1 cd1 ct1), sl1⟩) (c1 : PySem.W.codeIn K cd1 "is_size" = true) (k1 : PySem.W.keepIn K (.ref f1) = true)
    (a2 : PySem.W.nsIn K mainGlobals "places" = some (some (.ref f2))) (l2 : K.lookup f2 = some ⟨oc2, od2, .func (PySem.W.fnOf "places" "places" (defArgs st_places) (defBody st_places) (defScope st_places) .none kV2 dc2 pm2 an2 cd2 ct2), sl2⟩) (c2 : PySem.W.codeIn K cd2 "places" = true) (k2 : PySem.W.keepIn K (.ref f2) = true)
    (a3 : PySem.W.nsIn K mainGlobals "are_fair" = some (some (.ref f3))) (l3 : K.lookup f3 = some ⟨oc3, od3, .func (PySem.W.fnOf "are_fair" "are_fair" (defArgs st_are_fair) (defBody st_are_fair) (defScope st_are_fair) .none kV3 dc3 pm3 an3 cd3 ct3), sl3⟩) (c3 : PySem.W.codeIn K cd3 "are_fair" = true) (k3 : PySem.W.keepIn K (.ref f3) = true)
    (a4 : PySem.W.nsIn K mainGlobals "small_triangles" = some (some (.ref f4))) (l4 : K.lookup f4 = some ⟨oc4, od4, .func (PySem.W.fnOf "small_triangles" "small_triangles" (defArgs st_small_triangles) (defBody st_small_triangles) (defScope st_small_triangles) .none kV4 dc4 pm4 an4 cd4 ct4), sl4⟩) (c4 : PySem.W.codeIn K cd4 "small_triangles" = true) (k4 : PySem.W.keepIn K (.ref f4) = true)
    (a5 : PySem.W.nsIn K mainGlobals "corners_of" = some (some (.ref f5))) (l5 : K.lookup f5 = some ⟨oc5, od5, .func (PySem.W.fnOf "corners_of" "corners_of" (defArgs st_corners_of) (defBody st_corners_of) (defScope st_corners_of) .none kV5 dc5 pm5 an5 cd5 ct5), sl5⟩) (c5 : PySem.W.codeIn K cd5 "corners_of" = true) (k5 : PySem.W.keepIn K (.ref f5) = true)
    (a6 : PySem.W.nsIn K mainGlobals "colours_by_place" = some (some (.ref f6))) (l6 : K.lookup f6 = some ⟨oc6, od6, .func (PySem.W.fnOf "colours_by_place" "colours_by_place" (defArgs st_colours_by_place) (defBody st_colours_by_place) (defScope st_colours_by_place) .none kV6 dc6 pm6 an6 cd6 ct6), sl6⟩) (c6 : PySem.W.codeIn K cd6 "colours_by_place" = true) (k6 : PySem.W.keepIn K (.ref f6) = true)
    (a7 : PySem.W.nsIn K mainGlobals "sides_of_points" = some (some (.ref f7))) (l7 : K.lookup f7 = some ⟨oc7, od7, .func (PySem.W.fnOf "sides_of_points" "sides_of_points" (defArgs st_sides_of_points) (defBody st_sides_of_points) (defScope st_sides_of_points) .none kV7 dc7 pm7 an7 cd7 ct7), sl7⟩) (c7 : PySem.W.codeIn K cd7 "sides_of_points" = true) (k7 : PySem.W.keepIn K (.ref f7) = true)
    (a8 : PySem.W.nsIn K mainGlobals "points_by_side" = some (some (.ref f8))) (l8 : K.lookup f8 = some ⟨oc8, od8, .func (PySem.W.fnOf "points_by_side" "points_by_side" (defArgs st_points_by_side) (defBody st_points_by_side) (defScope st_points_by_side) .none kV8 dc8 pm8 an8 cd8 ct8), sl8⟩) (c8 : PySem.W.codeIn K cd8 "points_by_side" = true) (k8 : PySem.W.keepIn K (.ref f8) = true)
    (a9 : PySem.W.nsIn K mainGlobals "beyond" = some (some (.ref f9))) (l9 : K.lookup f9 = some ⟨oc9, od9, .func (PySem.W.fnOf "beyond" "beyond" (defArgs st_beyond) (defBody st_beyond) (defScope st_beyond) .none kV9 dc9 pm9 an9 cd9 ct9), sl9⟩) (c9 : PySem.W.codeIn K cd9 "beyond" = true) (k9 : PySem.W.keepIn K (.ref f9) = true)
    (a10 : PySem.W.nsIn K mainGlobals "row_of_lines" = some (some (.ref f10))) (l10 : K.lookup f10 = some ⟨oc10, od10, .func (PySem.W.fnOf "row_of_lines" "row_of_lines" (defArgs st_row_of_lines) (defBody st_row_of_lines) (defScope st_row_of_lines) .none kV10 dc10 pm10 an10 cd10 ct10), sl10⟩) (c10 : PySem.W.codeIn K cd10 "row_of_lines" = true) (k10 : PySem.W.keepIn K (.ref f10) = true)
    (a11 : PySem.W.nsIn K mainGlobals "step_from" = some (some (.ref f11))) (l11 : K.lookup f11 = some ⟨oc11, od11, .func (PySem.W.fnOf "step_from" "step_from" (defArgs st_step_from) (defBody st_step_from) (defScope st_step_from) .none kV11 dc11 pm11 an11 cd11 ct11), sl11⟩) (c11 : PySem.W.codeIn K cd11 "step_from" = true) (k11 : PySem.W.keepIn K (.ref f11) = true)
    (a12 : PySem.W.nsIn K mainGlobals "begins" = some (some (.ref f12))) (l12 : K.lookup f12 = some ⟨oc12, od12, .func (PySem.W.fnOf "begins" "begins" (defArgs st_begins) (defBody st_begins) (defScope st_begins) .none kV12 dc12 pm12 an12 cd12 ct12), sl12⟩) (c12 : PySem.W.codeIn K cd12 "begins" = true) (k12 : PySem.W.keepIn K (.ref f12) = true)
    (a13 : PySem.W.nsIn K mainGlobals "stops" = some (some (.ref f13))) (l13 : K.lookup f13 = some ⟨oc13, od13, .func (PySem.W.fnOf "stops" "stops" (defArgs st_stops) (defBody st_stops) (defScope st_stops) .none kV13 dc13 pm13 an13 cd13 ct13), sl13⟩) (c13 : PySem.W.codeIn K cd13 "stops" = true) (k13 : PySem.W.keepIn K (.ref f13) = true)
    (a14 : PySem.W.nsIn K mainGlobals "is_end" = some (some (.ref f14))) (l14 : K.lookup f14 = some ⟨oc14, od14, .func (PySem.W.fnOf "is_end" "is_end" (defArgs st_is_end) (defBody st_is_end) (defScope st_is_end) .none kV14 dc14 pm14 an14 cd14 ct14), sl14⟩) (c14 : PySem.W.codeIn K cd14 "is_end" = true) (k14 : PySem.W.keepIn K (.ref f14) = true)
    (a15 : PySem.W.nsIn K mainGlobals "line_from" = some (some (.ref f15))) (l15 : K.lookup f15 = some ⟨oc15, od15, .func (PySem.W.fnOf "line_from" "line_from" (defArgs st_line_from) (defBody st_line_from) (defScope st_line_from) .none kV15 dc15 pm15 an15 cd15 ct15), sl15⟩) (c15 : PySem.W.codeIn K cd15 "line_from" = true) (k15 : PySem.W.keepIn K (.ref f15) = true)
    (a16 : PySem.W.nsIn K mainGlobals "line_or_refusal" = some (some (.ref f16))) (l16 : K.lookup f16 = some ⟨oc16, od16, .func (PySem.W.fnOf "line_or_refusal" "line_or_refusal" (defArgs st_line_or_refusal) (defBody st_line_or_refusal) (defScope st_line_or_refusal) .none kV16 dc16 pm16 an16 cd16 ct16), sl16⟩) (c16 : PySem.W.codeIn K cd16 "line_or_refusal" = true) (k16 : PySem.W.keepIn K (.ref f16) = true)
    (a17 : PySem.W.nsIn K mainGlobals "way" = some (some (.ref f17))) (l17 : K.lookup f17 = some ⟨oc17, od17, .func (PySem.W.fnOf "way" "way" (defArgs st_way) (defBody st_way) (defScope st_way) .none kV17 dc17 pm17 an17 cd17 ct17), sl17⟩) (c17 : PySem.W.codeIn K cd17 "way" = true) (k17 : PySem.W.keepIn K (.ref f17) = true)
    (u0 : PySem.W.nsIn K mainGlobals "BACK" = some (some (.int (1) tk0)))
    (u1 : PySem.W.nsIn K mainGlobals "COLOURS" = some (some (.int (3) tk1)))
    (u2 : PySem.W.nsIn K mainGlobals "DOWN" = some (some (.int (0) tk2)))
    (u3 : PySem.W.nsIn K mainGlobals "LARGEST_SIZE" = some (some (.int (9) tk3)))
    (u4 : PySem.W.nsIn K mainGlobals "NOTHING" = some (some (.int (0) tk4)))
    (u5 : PySem.W.nsIn K mainGlobals "ON" = some (some (.int (0) tk5)))
    (u6 : PySem.W.nsIn K mainGlobals "REFUSED_END" = some (some (.int (-33) tk6)))
    (u7 : PySem.W.nsIn K mainGlobals "REFUSED_INPUT" = some (some (.int (-22) tk7)))
    (u8 : PySem.W.nsIn K mainGlobals "REFUSED_POINT" = some (some (.int (-2) tk8)))
    (u9 : PySem.W.nsIn K mainGlobals "UP" = some (some (.int (1) tk9)))
    {a_DOOR_IN : Addr} {od_DOOR_IN : Option Addr} {tk_DOOR_IN_0 tk_DOOR_IN_1 : Tok} {n_DOOR_IN : Nat} {sl_DOOR_IN : Array (Option Value)} (u_DOOR_IN : PySem.W.nsIn K mainGlobals "DOOR_IN" = some (some (.ref a_DOOR_IN))) (v_DOOR_IN : K.lookup a_DOOR_IN = some ⟨.type "tuple", od_DOOR_IN, .seq #[.int 0 tk_DOOR_IN_0, .int 1 tk_DOOR_IN_1] n_DOOR_IN, sl_DOOR_IN⟩)
    {a_DOOR_OUT : Addr} {od_DOOR_OUT : Option Addr} {tk_DOOR_OUT_0 tk_DOOR_OUT_1 : Tok} {n_DOOR_OUT : Nat} {sl_DOOR_OUT : Array (Option Value)} (u_DOOR_OUT : PySem.W.nsIn K mainGlobals "DOOR_OUT" = some (some (.ref a_DOOR_OUT))) (v_DOOR_OUT : K.lookup a_DOOR_OUT = some ⟨.type "tuple", od_DOOR_OUT, .seq #[.int 1 tk_DOOR_OUT_0, .int 0 tk_DOOR_OUT_1] n_DOOR_OUT, sl_DOOR_OUT⟩)
    (z0 : PySem.W.nsIn K mainGlobals "enumerate" = some none)
    (z1 : PySem.W.nsIn K mainGlobals "len" = some none)
    (z2 : PySem.W.nsIn K mainGlobals "range" = some none)
    (z3 : PySem.W.nsIn K mainGlobals "zip" = some none)
    : ∃ fd : FuncData, (∀ (s : Shared) (us : List Value), us.length = (["m", "k", "c"] : List Str).length → BindsTo s fd ⟨us, []⟩ ((["m", "k", "c"] : List Str).zip us)) ∧ ∀ base : Heap, K.In base → base.Ns mainGlobals mg → FnOk P w K mg base CX0 5 fa fd ["m", "k", "c"] (sp_way K) := by
  have e := hfa.symm.trans (PySem.W.mg_of X G a17)
  cases e
  have T : Txt K mg a_DOOR_IN a_DOOR_OUT := ⟨⟨_, PySem.W.mg_of X G u0, ⟨_, rfl⟩⟩, ⟨_, PySem.W.mg_of X G u1, ⟨_, rfl⟩⟩, ⟨_, PySem.W.mg_of X G u_DOOR_IN, rfl⟩, fun H => Or.inr ⟨_, _, _, v_DOOR_IN, rfl, rfl, by show 2 ≤ sizeLine; decide, .cons ⟨_, rfl⟩ (.cons ⟨_, rfl⟩ (.nil))⟩, ⟨_, PySem.W.mg_of X G u_DOOR_OUT, rfl⟩, fun H => Or.inr ⟨_, _, _, v_DOOR_OUT, rfl, rfl, by show 2 ≤ sizeLine; decide, .cons ⟨_, rfl⟩ (.cons ⟨_, rfl⟩ (.nil))⟩, ⟨_, PySem.W.mg_of X G u2, ⟨_, rfl⟩⟩, ⟨_, PySem.W.mg_of X G u3, ⟨_, rfl⟩⟩, ⟨_, PySem.W.mg_of X G u4, ⟨_, rfl⟩⟩, ⟨_, PySem.W.mg_of X G u5, ⟨_, rfl⟩⟩, ⟨_, PySem.W.mg_of X G u6, ⟨_, rfl⟩⟩, ⟨_, PySem.W.mg_of X G u7, ⟨_, rfl⟩⟩, ⟨_, PySem.W.mg_of X G u8, ⟨_, rfl⟩⟩, ⟨_, PySem.W.mg_of X G u9, ⟨_, rfl⟩⟩, PySem.W.mg_none_of X G z0, PySem.W.mg_none_of X G z1, PySem.W.mg_none_of X G z2, PySem.W.mg_none_of X G z3⟩
  have F1 := fun_mk (st := st_is_size) l1 c1 k1
  have b1 := F1.binds (ps := ["m"]) fun _ _ _ _ _ _ us hl => match us, hl with | [_], _ => rfl
  have F2 := fun_mk (st := st_places) l2 c2 k2
  have b2 := F2.binds (ps := ["m"]) fun _ _ _ _ _ _ us hl => match us, hl with | [_], _ => rfl
  have F3 := fun_mk (st := st_are_fair) l3 c3 k3
  have b3 := F3.binds (ps := ["m", "c"]) fun _ _ _ _ _ _ us hl => match us, hl with | [_, _], _ => rfl
  have F4 := fun_mk (st := st_small_triangles) l4 c4 k4
  have b4 := F4.binds (ps := ["m"]) fun _ _ _ _ _ _ us hl => match us, hl with | [_], _ => rfl
  have F5 := fun_mk (st := st_corners_of) l5 c5 k5
  have b5 := F5.binds (ps := ["room"]) fun _ _ _ _ _ _ us hl => match us, hl with | [_], _ => rfl
  have F6 := fun_mk (st := st_colours_by_place) l6 c6 k6
  have b6 := F6.binds (ps := ["m", "c"]) fun _ _ _ _ _ _ us hl => match us, hl with | [_, _], _ => rfl
  have F7 := fun_mk (st := st_sides_of_points) l7 c7 k7
  have b7 := F7.binds (ps := ["m"]) fun _ _ _ _ _ _ us hl => match us, hl with | [_], _ => rfl
  have F8 := fun_mk (st := st_points_by_side) l8 c8 k8
  have b8 := F8.binds (ps := ["sides_listed"]) fun _ _ _ _ _ _ us hl => match us, hl with | [_], _ => rfl
  have F9 := fun_mk (st := st_beyond) l9 c9 k9
  have b9 := F9.binds (ps := ["sides", "door", "by_place", "by_side"]) fun _ _ _ _ _ _ us hl => match us, hl with | [_, _, _, _], _ => rfl
  have F10 := fun_mk (st := st_row_of_lines) l10 c10 k10
  have b10 := F10.binds (ps := ["m", "c"]) fun _ _ _ _ _ _ us hl => match us, hl with | [_, _], _ => rfl
  have F11 := fun_mk (st := st_step_from) l11 c11 k11
  have b11 := F11.binds (ps := ["row", "point", "direction"]) fun _ _ _ _ _ _ us hl => match us, hl with | [_, _, _], _ => rfl
  have F12 := fun_mk (st := st_begins) l12 c12 k12
  have b12 := F12.binds (ps := ["row", "point"]) fun _ _ _ _ _ _ us hl => match us, hl with | [_, _], _ => rfl
  have F13 := fun_mk (st := st_stops) l13 c13 k13
  have b13 := F13.binds (ps := ["row", "point"]) fun _ _ _ _ _ _ us hl => match us, hl with | [_, _], _ => rfl
  have F14 := fun_mk (st := st_is_end) l14 c14 k14
  have b14 := F14.binds (ps := ["row", "point"]) fun _ _ _ _ _ _ us hl => match us, hl with | [_, _], _ => rfl
  have F15 := fun_mk (st := st_line_from) l15 c15 k15
  have b15 := F15.binds (ps := ["row", "end"]) fun _ _ _ _ _ _ us hl => match us, hl with | [_, _], _ => rfl
  have F16 := fun_mk (st := st_line_or_refusal) l16 c16 k16
  have b16 := F16.binds (ps := ["m", "k", "c"]) fun _ _ _ _ _ _ us hl => match us, hl with | [_, _, _], _ => rfl
  have F17 := fun_mk (st := st_way) l17 c17 k17
  refine ⟨PySem.W.fnOf "way" "way" (defArgs st_way) (defBody st_way) (defScope st_way) .none kV17 dc17 pm17 an17 cd17 ct17, fun s us hu => match us, hu with | [_, _, _], _ => .of_eq rfl, fun base _ _ => ?_⟩
  have h_is_size : Has P w K mg base 1 "is_size" ["m"] (sp_is_size K) := ⟨_, _, PySem.W.mg_of X G a1, ok_is_size F1 T, k1, b1⟩
  have h_places : Has P w K mg base 1 "places" ["m"] (sp_places K) := ⟨_, _, PySem.W.mg_of X G a2, ok_places F2 T, k2, b2⟩
  have h_are_fair : Has P w K mg base 2 "are_fair" ["m", "c"] (sp_are_fair K) := ⟨_, _, PySem.W.mg_of X G a3, ok_are_fair F3 T h_places, k3, b3⟩
  have h_small_triangles : Has P w K mg base 1 "small_triangles" ["m"] (sp_small_triangles K) := ⟨_, _, PySem.W.mg_of X G a4, ok_small_triangles F4 T, k4, b4⟩
  have h_corners_of : Has P w K mg base 1 "corners_of" ["room"] (sp_corners_of K) := ⟨_, _, PySem.W.mg_of X G a5, ok_corners_of F5 T, k5, b5⟩
  have h_colours_by_place : Has P w K mg base 2 "colours_by_place" ["m", "c"] (sp_colours_by_place K) := ⟨_, _, PySem.W.mg_of X G a6, ok_colours_by_place F6 T h_places, k6, b6⟩
  have h_sides_of_points : Has P w K mg base 2 "sides_of_points" ["m"] (sp_sides_of_points K) := ⟨_, _, PySem.W.mg_of X G a7, ok_sides_of_points F7 T h_small_triangles h_corners_of, k7, b7⟩
  have h_points_by_side : Has P w K mg base 1 "points_by_side" ["sides_listed"] (sp_points_by_side P w K) := ⟨_, _, PySem.W.mg_of X G a8, ok_points_by_side F8 T, k8, b8⟩
  have h_beyond : Has P w K mg base 1 "beyond" ["sides", "door", "by_place", "by_side"] (sp_beyond P w K) := ⟨_, _, PySem.W.mg_of X G a9, ok_beyond F9 T, k9, b9⟩
  have h_row_of_lines : Has P w K mg base 3 "row_of_lines" ["m", "c"] (sp_row_of_lines K) := ⟨_, _, PySem.W.mg_of X G a10, ok_row_of_lines F10 T h_colours_by_place h_sides_of_points h_points_by_side h_beyond, k10, b10⟩
  have h_step_from : Has P w K mg base 1 "step_from" ["row", "point", "direction"] (sp_step_from K) := ⟨_, _, PySem.W.mg_of X G a11, ok_step_from F11 T, k11, b11⟩
  have h_begins : Has P w K mg base 2 "begins" ["row", "point"] (sp_begins K) := ⟨_, _, PySem.W.mg_of X G a12, ok_begins F12 T h_step_from, k12, b12⟩
  have h_stops : Has P w K mg base 2 "stops" ["row", "point"] (sp_stops K) := ⟨_, _, PySem.W.mg_of X G a13, ok_stops F13 T h_step_from, k13, b13⟩
  have h_is_end : Has P w K mg base 3 "is_end" ["row", "point"] (sp_is_end K) := ⟨_, _, PySem.W.mg_of X G a14, ok_is_end F14 T h_begins h_stops, k14, b14⟩
  have h_line_from : Has P w K mg base 3 "line_from" ["row", "end"] (sp_line_from K) := ⟨_, _, PySem.W.mg_of X G a15, ok_line_from F15 T h_begins h_step_from, k15, b15⟩
  have h_line_or_refusal : Has P w K mg base 4 "line_or_refusal" ["m", "k", "c"] (sp_line_or_refusal K) := ⟨_, _, PySem.W.mg_of X G a16, ok_line_or_refusal F16 T h_is_size h_are_fair h_row_of_lines h_is_end h_line_from, k16, b16⟩
  exact ok_way F17 T h_line_or_refusal
end Tri
open PySem PySem.W PyProof.Rows
set_option maxRecDepth 100000 in
set_option maxHeartbeats 8000000 in
theorem PySem.Challenge.cw_threecolours_s07_way_holds : PySem.Challenge.rw_threecolours_s07_way.Holds := by
  w_on; k_headS; (case hw => exact ⟨[.int 0, .int 0, .list []], by decide +kernel, by decide +kernel⟩)
  k_fillS
  refine L2.walk_specK (r := PySem.Challenge.rw_threecolours_s07_way) (k := 5) (CX := L2.CX0) (ps := ["m", "k", "c"]) (sp := Tri.sp_way) (by decide +kernel) rfl rfl ⟨rfl, by decide, by decide⟩ (fun w h Y => PySem.W.kIn_of Y) ?F ?S (fun _ _ _ _ z => z)
  case F =>
    intro w mg fa h Y KX G hmg
    refine' Tri.all_mk KX G hmg ?a1 ?l1 ?c1 ?k1 ?a2 ?l2 ?c2 ?k2 ?a3 ?l3 ?c3 ?k3 ?a4 ?l4 ?c4 ?k4 ?a5 ?l5 ?c5 ?k5 ?a6 ?l6 ?c6 ?k6 ?a7 ?l7 ?c7 ?k7 ?a8 ?l8 ?c8 ?k8 ?a9 ?l9 ?c9 ?k9 ?a10 ?l10 ?c10 ?k10 ?a11 ?l11 ?c11 ?k11 ?a12 ?l12 ?c12 ?k12 ?a13 ?l13 ?c13 ?k13 ?a14 ?l14 ?c14 ?k14 ?a15 ?l15 ?c15 ?k15 ?a16 ?l16 ?c16 ?k16 ?a17 ?l17 ?c17 ?k17 ?u0 ?u1 ?u2 ?u3 ?u4 ?u5 ?u6 ?u7 ?u8 ?u9 ?u_DOOR_IN ?v_DOOR_IN ?u_DOOR_OUT ?v_DOOR_OUT ?z0 ?z1 ?z2 ?z3
    (case a1 => k_is)
    (case l1 => k_is)
    (case c1 => k_is)
    (case k1 => k_is)
    (case a2 => k_is)
    (case l2 => k_is)
    (case c2 => k_is)
    (case k2 => k_is)
    (case a3 => k_is)
    (case l3 => k_is)
    (case c3 => k_is)
    (case k3 => k_is)
    (case a4 => k_is)
    (case l4 => k_is)
    (case c4 => k_is)
    (case k4 => k_is)
    (case a5 => k_is)
    (case l5 => k_is)
    (case c5 => k_is)
    (case k5 => k_is)
    (case a6 => k_is)
    (case l6 => k_is)
    (case c6 => k_is)
    (case k6 => k_is)
    (case a7 => k_is)
    (case l7 => k_is)
    (case c7 => k_is)
    (case k7 => k_is)
    (case a8 => k_is)
    (case l8 => k_is)
    (case c8 => k_is)
    (case k8 => k_is)
    (case a9 => k_is)
    (case l9 => k_is)
    (case c9 => k_is)
    (case k9 => k_is)
    (case a10 => k_is)
    (case l10 => k_is)
    (case c10 => k_is)
    (case k10 => k_is)
    (case a11 => k_is)
    (case l11 => k_is)
    (case c11 => k_is)
    (case k11 => k_is)
    (case a12 => k_is)
    (case l12 => k_is)
    (case c12 => k_is)
    (case k12 => k_is)
    (case a13 => k_is)
    (case l13 => k_is)
    (case c13 => k_is)
    (case k13 => k_is)
    (case a14 => k_is)
    (case l14 => k_is)
    (case c14 => k_is)
    (case k14 => k_is)
    (case a15 => k_is)
    (case l15 => k_is)
    (case c15 => k_is)
    (case k15 => k_is)
    (case a16 => k_is)
    (case l16 => k_is)
    (case c16 => k_is)
    (case k16 => k_is)
    (case a17 => k_is)
    (case l17 => k_is)
    (case c17 => k_is)
    (case k17 => k_is)
    (case u0 => k_is)
    (case u1 => k_is)
    (case u2 => k_is)
    (case u3 => k_is)
    (case u4 => k_is)
    (case u5 => k_is)
    (case u6 => k_is)
    (case u7 => k_is)
    (case u8 => k_is)
    (case u9 => k_is)
    (case u_DOOR_IN => k_is)
    (case v_DOOR_IN => k_is)
    (case u_DOOR_OUT => k_is)
    (case v_DOOR_OUT => k_is)
    (case z0 => k_is)
    (case z1 => k_is)
    (case z2 => k_is)
    (case z3 => k_is)
  case S =>
    intro K H xs a hO hwi hask hx
    exact Tri.asked K H xs a hwi hx
#print axioms PySem.Challenge.cw_threecolours_s07_way_holds

