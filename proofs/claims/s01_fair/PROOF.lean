import PyProof.Rows.All
import Wide.All
import OpenK.AllK
import Wide.FinOn
import Open.SpecLaws
import KE.OsGo
import HandS.ForSpec
import HandS.Evl
import HandS.Iter
import HandS.Zip
import HandS.Walk
import HandS.Dict
import KE.KDictKeyed
import PyKzs2
import PySem.Challenge.RW_threecolours_s01_fair
set_option Elab.async false
set_option maxRecDepth 100000
set_option maxHeartbeats 2000000
/-! ### A. A list's extend by a tuple; tuples that stand at addresses -/
namespace Tri
open PySem PySem.Spec PyProof.Rows L2
section
open PySem.AutoSeq1
theorem ext_tup (l b : Addr) (us : Array Value) (n : Nat) (ws : Array Value) (k : Nat) (dd : Option Addr) (sl : Array (Option Value))
    (h0 : ¬ (!us.isEmpty && Builtin.List.listTooLong (us.size + ws.size)) = true) (h1 : us.size ≤ sizeLine) (h2 : us.size + ws.size ≤ sizeLine + 1) :
    Meets (Builtin.«list.extend» ⟨[.ref l, .ref b], []⟩) (fun _ R s =>
      s.heap.get? l = some { cls := .type "list", dict := none, data := .seq us n, slots := #[] } ∧
      s.heap.get? b = some { cls := .type "tuple", dict := dd, data := .seq ws k, slots := sl } ∧
      R (.ok (.ret Value.none)) { s with heap := s.heap.update l (Obj.mapSeq fun x => x ++ ws), toks := s.toks }) :=
  Meets.of_wp fun _ _ _ R S hS => by
    obtain ⟨S1, S2, S3, S4, S5⟩ := S
    obtain ⟨atl, atb, fin⟩ := hS
    have u1 := AutoSeq1.idx_int
    have u2 := AutoSeq1.sub_tuple_tuple
    have u3 := AutoSeq1.sub_list_list
    have u4 := AutoSeq1.sub_tuple_list
    have u5 := AutoSeq1.sub_list_tuple
    have room : (us ++ ws).size ≤ sizeLine + 1 := by
      rw [Array.size_append]
      exact h2
    wp_walk using (wpAny_updateSeq atl rfl (hz := h1) (_hz' := room)), wpAny_loadPart' atl, wpAny_loadPart' atb
    exact ⟨_, rfl, fin⟩
end
def rExtT (K : PySem.W.Frag) : V → List V → Hp → VK → Prop := fun x vs H Q => ∃ l b us ws, x = .ref l ∧ vs = [.ref b] ∧
  H l = some (.lst us) ∧ SqT K H b ws ∧ us.length + ws.length ≤ sizeLine ∧ Q .non (upd H l (.lst (us ++ ws)))
theorem mt_extT {X : Cx} : MtM X "list.extend" (rExtT X.K) := by
  intro ps S st Hp0 xv args xval vals Qk inv rel rels told
  obtain ⟨l, b, old, more, rfl, rfl, atL, atB, short, fin⟩ := told
  cases rel
  obtain ⟨arg, rfl, relA⟩ := rels.one
  cases relA
  obtain ⟨z, ia, n, rOld, hl, objL⟩ := inv.lstM atL
  obtain ⟨ib, rMore, ⟨⟨oc, od, oda, osl⟩, objB, ec, k, ed⟩, _⟩ := inv.tuple atB
  cases ec
  cases ed
  have lenB := rMore.length
  have both : ia.toArray.size + ib.toArray.size ≤ sizeLine := by
    simp only [List.size_toArray]
    omega
  have notLong : ¬ (!ia.toArray.isEmpty && Builtin.List.listTooLong (ia.toArray.size + ib.toArray.size)) = true := by
    intro bad
    rw [notLongL both, Bool.and_false] at bad
    cases bad
  have small : ia.toArray.size ≤ sizeLine := by omega
  refine call_meets F.slot_list_extend ⟨_, objL, rfl⟩ F.entry_list_extend (F.args_list_extend_2 ..)
    (ext_tup l b ia.toArray n ib.toArray k od osl notLong small (by omega)) ⟨objL, objB, .non, _, inv.lset (its' := ia ++ ib) atL objL (by simp) (rOld.append rMore) ?_, rfl, fin⟩
  simp only [List.length_append]
  omega
end Tri

/-! ### B. Short words: operations, a def that may be called, a module's number; lists of tuples -/
namespace Tri
open PySem PySem.Spec PyProof.Rows L2 Evl
abbrev rAddI : R2 := rI0 fun i j => .int (i + j)
abbrev rSubI : R2 := rI0 fun i j => .int (i - j)
abbrev rLtI : R2 := rI0 fun i j => .bl (decide (i < j))
abbrev rLeI : R2 := rI0 fun i j => .bl (decide (i ≤ j))
abbrev rGtI : R2 := rI0 fun i j => .bl (decide (j < i))
abbrev rGeI : R2 := rI0 fun i j => .bl (decide (j ≤ i))
/-- a def that stands under a name, keeps a promise, and takes its arguments by place -/
def Has (P : Program) (w : World) (K : PySem.W.Frag) (mg : Str → Option Value) (base : Heap) (k : Nat) (x : Str) (ps : List Str) (sp : Sp) : Prop :=
  ∃ f fd, mg x = some (.ref f) ∧ FnOk P w K mg base CX0 k f fd ps sp ∧ PySem.W.keepIn K (.ref f) = true ∧ Binds K fd ps []
section
variable {X : Cx}
theorem pe_g {x : Str} {v : V} {pos : Pos} (hg : Gl X x) (h : ∃ u, X.mg x = some u ∧ RelV v u) (hd : (x == ("__debug__" : Str)) = false := by decide) : PE X (.Name x pos) (tC v) :=
  let ⟨_, a, b⟩ := h
  pe_glob hg a b hd
theorem pe_own {k : Nat} {x : Str} {ps : List Str} {sp : Sp} {e : Expr} {es : List Expr} {t : TA} {p pos : Pos} (h : Has X.prog X.w X.K X.mg X.base k x ps sp) (hr : Room k X.A) (hg : Gl X x) (ha : PA X (e :: es) t)
    (hst : starEach (e :: es) X.env = (false, eval e X.env) :: starEach es X.env := by rfl) (hpl : (backTo pos (starEach es X.env)).any (·.1) = false := by rfl) (hdb : (x == ("__debug__" : Str)) = false := by decide) :
    PE X (.Call (.Name x p) (e :: es) [] pos) (tCall sp [] E0 t) := by
  obtain ⟨f, fd, g, F, kp, b⟩ := h
  exact pe_call F hr hg g kp b .nil pass0 ha (hdb := hdb) (he := hst) (hpl := hpl)
end
/-- tuples that stand at addresses -/
def Held (H : Hp) : List Addr → List (List V) → Prop
  | [], [] => True
  | a :: as, x :: xs => H a = some (.tup x) ∧ Held H as xs
  | _, _ => False
theorem Held.ex {H H' : Hp} (e : Ex H H') : ∀ {as : List Addr} {xs : List (List V)}, Held H as xs → Held H' as xs
  | [], [], _ => trivial
  | a :: _, _ :: _, h => ⟨e a _ h.1, Held.ex e h.2⟩
  | [], _ :: _, h => h.elim
  | _ :: _, [], h => h.elim
theorem Held.put {H : Hp} {l : Addr} {o n : List V} (hl : H l = some (.lst o)) : ∀ {as : List Addr} {xs : List (List V)}, Held H as xs → Held (upd H l (.lst n)) as xs
  | [], [], _ => trivial
  | a :: _, _ :: _, h => ⟨by
      have h1 := h.1
      rw [upd_ne (fun z => by
        rw [z, hl] at h1
        cases h1)]
      exact h1, Held.put hl h.2⟩
  | [], _ :: _, h => h.elim
  | _ :: _, [], h => h.elim
theorem Held.snoc {H : Hp} {a : Addr} {x : List V} (ha : H a = some (.tup x)) : ∀ {as : List Addr} {xs : List (List V)}, Held H as xs → Held H (as ++ [a]) (xs ++ [x])
  | [], [], _ => ⟨ha, trivial⟩
  | _ :: _, _ :: _, h => ⟨h.1, Held.snoc ha h.2⟩
  | [], _ :: _, h => h.elim
  | _ :: _, [], h => h.elim
theorem Held.len {H : Hp} : ∀ {as : List Addr} {xs : List (List V)}, Held H as xs → as.length = xs.length
  | [], [], _ => rfl
  | _ :: _, _ :: _, h => congrArg (· + 1) (Held.len h.2)
  | [], _ :: _, h => h.elim
  | _ :: _, [], h => h.elim
theorem Held.get {H : Hp} : ∀ {as : List Addr} {xs : List (List V)} {i : Nat} {v : V}, Held H as xs → (as.map V.ref)[i]? = some v → ∃ a x, v = .ref a ∧ xs[i]? = some x ∧ H a = some (.tup x)
  | [], [], _, _, _, h => by simp at h
  | a :: _, x :: _, 0, _, hd, h => ⟨a, x, (Option.some.inj h).symm, rfl, hd.1⟩
  | _ :: as, _ :: xs, i + 1, _, hd, h => Held.get (as := as) (xs := xs) (i := i) hd.2 h
  | [], _ :: _, _, _, h, _ => h.elim
  | _ :: _, [], _, _, h, _ => h.elim
/-- a new list of new tuples, over the heap H0 -/
def Grown (H0 H : Hp) (p : Addr) (xs : List (List V)) : Prop := H0 p = none ∧ Ex H0 H ∧ ∃ as : List Addr, H p = some (.lst (as.map V.ref)) ∧ Held H as xs
theorem Grown.ex {H0 H H' : Hp} {p : Addr} {xs : List (List V)} (g : Grown H0 H p xs) (e : Ex H H') : Grown H0 H' p xs :=
  let ⟨a, b, as, c, d⟩ := g
  ⟨a, b.trans e, as, e _ _ c, d.ex e⟩
theorem Grown.start {H0 H : Hp} {p : Addr} (h : H0 p = none) (e : Ex H0 H) (hp : H p = some (.lst [])) : Grown H0 H p [] := ⟨h, e, [], hp, trivial⟩
theorem Grown.is {H0 H : Hp} {p : Addr} {xs ys : List (List V)} (g : Grown H0 H p xs) (e : xs = ys) : Grown H0 H p ys := e ▸ g
def RetH (xs : List (List V)) (H : Hp) (Q : VK) : Prop := ∀ p H2, Grown H H2 p xs → Q (.ref p) H2
section
variable {K : PySem.W.Frag} {σ : L2.St} {H H0 : Hp} {ta te : TE} {D : Ends} {tz : TS} {v : V}
theorem s_push {p : Addr} {xs : List (List V)} {x : List V} (g : Grown H0 H p xs) (ha : Ev ta σ H (.ref p)) (h : EvU te σ H x) (hz : xs.length < 100000) (k : ∀ H1, Grown H0 H1 p (xs ++ [x]) → D.nx σ H1) :
    tDrop (tBM K "list" rAppend ta (tCons te tNil)) D σ H := by
  obtain ⟨g1, g2, as, g3, g4⟩ := g
  refine s_appU g3 ha h (by rw [List.length_map, g4.len]; exact hz) fun q H1 hq e1 h1 => k _ ⟨g1, Ex.mut (g2.trans e1) g1, as ++ [q], ?_, ?_⟩
  · rw [upd_same, List.map_append]
    rfl
  · exact ((g4.ex e1).snoc h1).put (e1 _ _ g3)
theorem q_push {p : Addr} {xs : List (List V)} {x : List V} (g : Grown H0 H p xs) (ha : Ev ta σ H (.ref p)) (h : EvU te σ H x) (hz : xs.length < 100000) (k : ∀ H1, Grown H0 H1 p (xs ++ [x]) → tz D σ H1) :
    tSeq (tDrop (tBM K "list" rAppend ta (tCons te tNil))) tz D σ H := s_push (D := { D with nx := tz D }) g ha h hz k
theorem s_extT {l b : Addr} {us ws : List V} (hl : H l = some (.lst us)) (ha : Ev ta σ H (.ref l)) (h : Ev te σ H (.ref b)) (hb : SqT K H b ws) (hz : us.length + ws.length ≤ 100000) (k : ∀ H1, Ex H H1 → D.nx σ (upd H1 l (.lst (us ++ ws)))) :
    tDrop (tBM K "list" (rExtT K) ta (tCons te tNil)) D σ H := ha H (Ex.refl H) _ fun H1 e1 =>
  ⟨Or.inl ⟨rfl, us, sq_of (e1 l _ hl)⟩, h H1 e1 _ fun H2 e2 => ⟨l, b, us, ws, rfl, rfl, e2 l _ (e1 l _ hl), ex_t (e1.trans e2) hb, sz_of hz, k H2 (e1.trans e2)⟩⟩
/-- x = f(..) by f's promise -/
theorem q_asgC {sp : Sp} {E : XK} {t : TA} {i : Nat} {vs : List V} (h : EvA t σ H vs) (hs : ∀ H1, Ex H H1 → sp (vs ++ []) H1 (fun v H2 => tz D (σ.set i (some v)) H2) E) :
    tSeq (tAsg (tCall sp [] E t) (gName i)) tz D σ H := h H (Ex.refl H) _ hs
end
end Tri

/-! ### C. Rooms: the specification's list, row by row -/
namespace Tri
theorem flat_succ {α : Type} (f : Nat → List α) (n : Nat) : (List.range (n + 1)).flatMap f = (List.range n).flatMap f ++ f n := by
  rw [List.range_succ, List.flatMap_append, List.flatMap_cons, List.flatMap_nil, List.append_nil]
theorem flat_len {α : Type} (f : Nat → List α) (c : Nat) (h : ∀ i, (f i).length ≤ c) : ∀ n, ((List.range n).flatMap f).length ≤ c * n
  | 0 => Nat.zero_le _
  | n + 1 => by
    have a := flat_len f c h n
    have b := h n
    rw [flat_succ, List.length_append, Nat.mul_succ]
    omega
def cell (m j i : Nat) : List Kzs2.Room := if i + j + 2 ≤ m then [⟨i, j, true⟩, ⟨i, j, false⟩] else [⟨i, j, true⟩]
def rowTo (m j n : Nat) : List Kzs2.Room := (List.range n).flatMap (cell m j)
def upTo (m n : Nat) : List Kzs2.Room := (List.range n).flatMap fun j => rowTo m j (m - j)
theorem rooms_upTo (m : Nat) : Kzs2.rooms m = upTo m m := rfl
theorem cell_len (m j i : Nat) : (cell m j i).length ≤ 2 := by
  unfold cell
  split <;> simp
theorem rowTo_len (m j n : Nat) : (rowTo m j n).length ≤ 2 * n := flat_len _ 2 (cell_len m j) n
theorem upTo_len (m n : Nat) : (upTo m n).length ≤ (2 * m) * n := flat_len _ (2 * m) (fun j => Nat.le_trans (rowTo_len m j _) (by omega)) n
theorem rowTo_succ (m j n : Nat) : rowTo m j (n + 1) = rowTo m j n ++ cell m j n := flat_succ _ n
theorem upTo_succ (m n : Nat) : upTo m (n + 1) = upTo m n ++ rowTo m n (m - n) := flat_succ _ n
theorem f_rooms_no (m : Int) (h : ¬ (1 ≤ m ∧ m ≤ 9)) : PyKzs2.rooms m = [-22] := by
  show (Kzs2.answer (.rooms m.toNat)).value :: (Kzs2.answer (.rooms m.toNat)).nums = [-22]
  have e : Kzs2.answer (.rooms m.toNat) = Kzs1.say (-22) := if_pos (by unfold Kzs2.most; omega)
  rw [e]
  rfl
theorem f_rooms (n : Nat) (h : 1 ≤ n ∧ n ≤ 9) : PyKzs2.rooms (n : Int) = ((Kzs2.rooms n).length : Int) :: (Kzs2.rooms n).flatMap fun r => [(r.i : Int), (r.j : Int), if r.u then 1 else 0] := by
  show (Kzs2.answer (.rooms n)).value :: (Kzs2.answer (.rooms n)).nums = _
  have e : Kzs2.answer (.rooms n) = ⟨((Kzs2.rooms n).length : Nat), (Kzs2.rooms n).flatMap fun r => [(r.i : Int), (r.j : Int), if r.u then 1 else 0]⟩ := if_neg (by unfold Kzs2.most; omega)
  rw [e]
end Tri

/-! ### E. A loop over zip of two lists, into two names -/
namespace Tri
open PySem PySem.Spec PyProof.Rows L2 Evl
section
variable {K : PySem.W.Frag} {σ : L2.St} {H : Hp} {D : Ends} {tu tz : TS}
theorem q_forZ {ta : TA} {a b : Addr} {xs ys : List V} {p q : Nat} (h : EvA ta σ H [.ref a, .ref b]) (hx : SqL K H a xs) (hy : SqL K H b ys) (hl : xs.length = ys.length) (Pv : Nat → L2.St → Hp → Prop) (h0 : ∀ H1, Ex H H1 → Pv 0 σ H1)
    (hq : ∀ i σ' H', Pv i σ' H' → SqL K H' a xs ∧ SqL K H' b ys)
    (hs : ∀ i x y σ' H', xs[i]? = some x → ys[i]? = some y → Pv i σ' H' → ∀ H2, Ex H' H2 → tu { D with nx := Pv (i + 1), ct := Pv (i + 1), bk := tz D } ((σ'.set p (some x)).set q (some y)) H2)
    (hd : ∀ σ' H', Pv xs.length σ' H' → tz D σ' H') : tSeq (tFor (iZip K ta) (gTup K 2 (gCons (gName p) (gCons (gName q) gNil))) tu) tz D σ H :=
  h H (Ex.refl H) _ fun H1 e => ⟨a, b, xs, ys, rfl, ex_l e hx, ex_l e hy, RZ.for_zipL hl Pv (h0 H1 e) hq
    (fun i x y T σ' H' hxi hyi pv hT => ⟨T, [x, y], rfl, st_of upd_same, rfl, x, [y], rfl, y, [], rfl, rfl, hs i x y σ' H' hxi hyi pv _ (Ex.new hT)⟩) hd⟩
end
end Tri

/-! ### F. Places and fair colours -/
namespace Tri
def prow (j n : Nat) : List Kzs2.Place := (List.range n).map fun i => ⟨i, j⟩
def pup (m n : Nat) : List Kzs2.Place := (List.range n).flatMap fun j => prow j (m + 1 - j)
theorem places_pup (m : Nat) : Kzs2.places m = pup m (m + 1) := rfl
theorem prow_succ (j n : Nat) : prow j (n + 1) = prow j n ++ [⟨n, j⟩] := by
  unfold prow
  rw [List.range_succ, List.map_append]
  rfl
theorem pup_succ (m n : Nat) : pup m (n + 1) = pup m n ++ prow n (m + 1 - n) := flat_succ _ n
theorem prow_len (j n : Nat) : (prow j n).length = n := by
  unfold prow
  rw [List.length_map, List.length_range]
theorem pup_len (m n : Nat) : (pup m n).length ≤ (m + 1) * n := flat_len _ (m + 1) (fun j => by rw [prow_len]; omega) n
theorem noOf_all : ∀ m : Nat, m < 10 → (Kzs2.places m).map (Kzs2.noOf m) = List.range (Kzs2.places m).length := by decide +kernel
theorem noOf_at {m i : Nat} {p : Kzs2.Place} (hm : m ≤ 9) (h : (Kzs2.places m)[i]? = some p) : Kzs2.noOf m p = i := by
  have e := congrArg (fun l => l[i]?) (noOf_all m (by omega))
  have hi : i < (Kzs2.places m).length := (List.getElem?_eq_some_iff.mp h).1
  simp only [List.getElem?_map, h, List.getElem?_range hi] at e
  exact Option.some.inj e
theorem within_all : ∀ m : Nat, m < 10 → (Kzs2.places m).all (fun p => decide (p.i + p.j ≤ m)) = true := by decide +kernel
theorem within_at {m i : Nat} {p : Kzs2.Place} (hm : m ≤ 9) (h : (Kzs2.places m)[i]? = some p) : p.i + p.j ≤ m :=
  of_decide_eq_true (List.all_eq_true.mp (within_all m (by omega)) p (List.mem_of_getElem? h))
theorem getD_at {l : List Nat} {i x d : Nat} (h : l[i]? = some x) : l.getD i d = x := by
  rw [List.getD_eq_getElem?_getD, h]
  rfl
theorem fair_iff {m : Nat} {c : List Nat} (hm : m ≤ 9) : Kzs2.fair m c = true ↔ c.length = (Kzs2.places m).length ∧ ∀ (i : Nat) (p : Kzs2.Place) (x : Nat), (Kzs2.places m)[i]? = some p → c[i]? = some x → x ≤ 2 ∧ Kzs2.number m p x ≠ 0 := by
  unfold Kzs2.fair
  rw [Bool.and_eq_true, beq_iff_eq, List.all_eq_true]
  refine and_congr_right fun hl => ⟨fun h i p x hp hx => ?_, fun h p hp => ?_⟩
  · have q := h p (List.mem_of_getElem? hp)
    rw [noOf_at hm hp, getD_at hx, getD_at hx, Bool.and_eq_true, decide_eq_true_eq, bne_iff_ne] at q
    exact q
  · obtain ⟨i, hi⟩ := List.mem_iff_getElem?.mp hp
    have hlt : i < c.length := by
      rw [hl]
      exact (List.getElem?_eq_some_iff.mp hi).1
    have hx : c[i]? = some c[i] := List.getElem?_eq_getElem hlt
    have q := h i p _ hi hx
    rw [noOf_at hm hi, getD_at hx, getD_at hx, Bool.and_eq_true, decide_eq_true_eq, bne_iff_ne]
    exact q
theorem f_fair_no (m : Int) (c : List Int) (h : ¬ (1 ≤ m ∧ m ≤ 9)) : PyKzs2.fair m c = [-22] := by
  show (Kzs2.answer (.fair m.toNat (Kzs2Neutral.natsOf c))).value :: (Kzs2.answer (.fair m.toNat (Kzs2Neutral.natsOf c))).nums = [-22]
  have e : Kzs2.answer (.fair m.toNat (Kzs2Neutral.natsOf c)) = Kzs1.say (-22) := if_pos (by unfold Kzs2.most; omega)
  rw [e]
  rfl
theorem f_fair (n : Nat) (c : List Int) (h : 1 ≤ n ∧ n ≤ 9) : PyKzs2.fair (n : Int) c = [if Kzs2.fair n (c.map Int.toNat) = true then 1 else 0] := by
  show (Kzs2.answer (.fair n (Kzs2Neutral.natsOf c))).value :: (Kzs2.answer (.fair n (Kzs2Neutral.natsOf c))).nums = _
  have e : Kzs2.answer (.fair n (Kzs2Neutral.natsOf c)) = Kzs1.say (if Kzs2.fair n (Kzs2Neutral.natsOf c) then 1 else 0) := if_neg (by unfold Kzs2.most; omega)
  rw [e]
  rfl
end Tri

/-! ### The text: places, scopes, readings (printed by tools/gen.py) -/
namespace Tri
open PySem PySem.Spec PyProof.Rows L2 Evl
def top (i : Nat) : Stmt := PySem.Challenge.pw_threecolours_s01_fair.main.body.getD i (.Pass ⟨0, 0, 0, 0⟩)
abbrev st_is_size : Stmt := top 4
theorem sc_is_size : FnScope ["m"] ["m"] (defScope st_is_size) := ⟨rfl, rfl, rfl, by decide +kernel, rfl, by decide +kernel, by decide +kernel⟩
abbrev st_places : Stmt := top 5
theorem sc_places : FnScope ["m", "listed", "j", "i"] ["m"] (defScope st_places) := ⟨rfl, rfl, rfl, by decide +kernel, rfl, by decide +kernel, by decide +kernel⟩
abbrev st_are_fair : Stmt := top 6
theorem sc_are_fair : FnScope ["m", "c", "listed", "numbers", "colour"] ["m", "c"] (defScope st_are_fair) := ⟨rfl, rfl, rfl, by decide +kernel, rfl, by decide +kernel, by decide +kernel⟩
abbrev st_fair : Stmt := top 7
theorem sc_fair : FnScope ["m", "c"] ["m", "c"] (defScope st_fair) := ⟨rfl, rfl, rfl, by decide +kernel, rfl, by decide +kernel, by decide +kernel⟩
structure Txt (K : PySem.W.Frag) (mg : Str → Option Value) : Prop where
  g_COLOURS : ∃ u, mg "COLOURS" = some u ∧ RelV (.int (3)) u
  g_LARGEST_SIZE : ∃ u, mg "LARGEST_SIZE" = some u ∧ RelV (.int (9)) u
  g_REFUSED_INPUT : ∃ u, mg "REFUSED_INPUT" = some u ∧ RelV (.int (-22)) u
  n_len : mg "len" = none
  n_range : mg "range" = none
  n_zip : mg "zip" = none
def t_is_size (K : PySem.W.Frag) : TS :=
  (tRet (tAndV (tOp rGeI (tVar 0) (tC (.int 1))) (tOp rLeI (tVar 0) (tC (.int (9))))))
def t_places (K : PySem.W.Frag) : TS :=
  (tSeq (tAsg (tLst tNil) (gName 1))
  (tSeq (tFor (iRng1 (tCons (tOp rAddI (tVar 0) (tC (.int 1))) tNil)) (gName 2)
  (tFor (iRng1 (tCons (tOp rSubI (tOp rAddI (tVar 0) (tC (.int 1))) (tVar 2)) tNil)) (gName 3)
  (tDrop (tBM K "list" rAppend (tVar 1) (tCons (tTup (tCons (tVar 3) (tCons (tVar 2) (tCons (tOp rSubI (tOp rSubI (tVar 0) (tVar 3)) (tVar 2)) tNil)))) tNil)))))
  (tRet (tVar 1))))
def t_are_fair (K : PySem.W.Frag) (sp_places : Sp) : TS :=
  (tSeq (tAsg (tCall sp_places [] E0 (tCons (tVar 0) tNil)) (gName 2))
  (tSeq (tIfS (tTest (tOp rNe (tCB (rLenS K) (tCons (tVar 1) tNil)) (tCB (rLenS K) (tCons (tVar 2) tNil))))
  (tRet (tC (.bl false)))
  tNext)
  (tSeq (tFor (iZip K (tCons (tVar 2) (tCons (tVar 1) tNil))) (gTup K 2 (gCons (gName 3) (gCons (gName 4) gNil)))
  (tIfS (tOr (tTest (tOp rGeI (tVar 4) (tC (.int (3))))) (tTest (tOp rEq (tOp (rIxT K) (tVar 3) (tVar 4)) (tC (.int 0)))))
  (tRet (tC (.bl false)))
  tNext))
  (tRet (tC (.bl true))))))
def t_fair (K : PySem.W.Frag) (sp_is_size : Sp) (sp_are_fair : Sp) : TS :=
  (tSeq (tIfS (tNot (tB (tCall sp_is_size [] E0 (tCons (tVar 0) tNil))))
  (tRet (tLst (tCons (tC (.int (-22))) tNil)))
  tNext)
  (tRet (tLst (tCons (tIf (tB (tCall sp_are_fair [] E0 (tCons (tVar 0) (tCons (tVar 1) tNil)))) (tC (.int 1)) (tC (.int 0))) tNil))))
end Tri

/-! ### is_size -/
namespace Tri
open PySem PySem.Spec PyProof.Rows L2 Evl
def isSize (m : Int) : Bool := decide (1 ≤ m) && decide (m ≤ 9)
def sp_is_size (_ : PySem.W.Frag) : Sp := fun vs H Q _ => ∃ m : Int, vs = [.int m] ∧ RetV (.bl (isSize m)) H Q
section
variable {K : PySem.W.Frag} {vs : List V} {H : Hp} {Q : VK} {E : XK}
theorem len_is_size (h : sp_is_size K vs H Q E) : vs.length = 1 := by
  obtain ⟨m, rfl, _⟩ := h
  rfl
end
section
variable {K : PySem.W.Frag}
theorem read_is_size (vs : List V) (H : Hp) (Q : VK) (E : XK) (h : sp_is_size K vs H Q E) : t_is_size K { nx := fun _ H' => Q .non H', rt := Q } (start ["m"] vs) H := by
  obtain ⟨m, rfl, k⟩ := h
  exact s_ret (ev_andV (ev_op (ev_var rfl) ev_c rv_I0) fun _ => ev_op (ev_var rfl) ev_c rv_I0) k
end
end Tri

/-! ### places -/
namespace Tri
open PySem PySem.Spec PyProof.Rows L2 Evl
def placeV (m : Nat) (p : Kzs2.Place) : List V := [.int p.i, .int p.j, .int ((m : Int) - p.i - p.j)]
def sp_places (_ : PySem.W.Frag) : Sp := fun vs H Q _ => ∃ m : Nat, vs = [.int m] ∧ m ≤ 9 ∧ RetH ((Kzs2.places m).map (placeV m)) H Q
section
variable {K : PySem.W.Frag} {vs : List V} {H : Hp} {Q : VK} {E : XK}
theorem len_places (h : sp_places K vs H Q E) : vs.length = 1 := by
  obtain ⟨m, rfl, _⟩ := h
  rfl
end
section
variable {K : PySem.W.Frag}
theorem read_places (vs : List V) (H : Hp) (Q : VK) (E : XK) (h : sp_places K vs H Q E) : t_places K { nx := fun _ H' => Q .non H', rt := Q } (start ["m", "listed", "j", "i"] vs) H := by
  obtain ⟨m, rfl, hm, k⟩ := h
  refine q_asgL (el_lst ea_nil (by decide)) fun p H1 hp e1 h1 => ?_
  refine q_forR1 (n := (m : Int) + 1) (ea_cons (ev_op (ev_var rfl) ev_c rv_I0) ea_nil) ⟨by omega, by omega⟩ (fun j σ' H' => ∃ v2 v3, σ' = [some (.int m), some (.ref p), v2, v3] ∧ Grown H H' p ((pup m j).map (placeV m))) ?_ ?_ ?_
  · exact fun H2 e2 => ⟨none, none, rfl, (Grown.start hp e1 h1).ex e2⟩
  · rintro j σ' H' hj ⟨v2, v3, rfl, g⟩
    refine s_forR1 (n := (m : Int) + 1 - (j : Int)) (ea_cons (ev_op (ev_op (ev_var rfl) ev_c rv_I0) (ev_var rfl) rv_I0) ea_nil) ⟨by omega, by omega⟩ (fun i σ'' H'' => ∃ v3, σ'' = [some (.int m), some (.ref p), some (.int j), v3] ∧ Grown H H'' p ((pup m j ++ prow j i).map (placeV m))) ?_ ?_ ?_
    · exact fun H2 e2 => ⟨v3, rfl, (g.ex e2).is (by show _ = (pup m j ++ []).map (placeV m); rw [List.append_nil])⟩
    · rintro i σ'' H'' hi ⟨v3, rfl, g⟩
      have hl : ((pup m j ++ prow j i).map (placeV m)).length ≤ 1000 := by
        rw [List.length_map, List.length_append, prow_len]
        have a := pup_len m j
        have c : (m + 1) * j ≤ 10 * 10 := Nat.mul_le_mul (by omega) (by omega)
        omega
      refine s_push g (ev_var rfl) (eu_tup (ea_cons (ev_var rfl) (ea_cons (ev_var rfl) (ea_cons (ev_op (ev_op (ev_var rfl) (ev_var rfl) rv_I0) (ev_var rfl) rv_I0) ea_nil))) (by show 3 ≤ 100000; omega)) (by omega) fun H2 g2 => ⟨_, rfl, g2.is ?_⟩
      rw [prow_succ, ← List.append_assoc, List.map_append (l₁ := pup m j ++ prow j i)]
      rfl
    · rintro σ'' H'' ⟨v3, rfl, g⟩
      refine ⟨_, v3, rfl, g.is ?_⟩
      rw [pup_succ, show ((m : Int) + 1 - (j : Int)).toNat = m + 1 - j by omega]
  · rintro σ' H' ⟨v2, v3, rfl, g⟩
    refine s_ret (ev_var rfl) fun H2 e2 => k p H2 ((g.ex e2).is ?_)
    rw [places_pup]
    rfl
end
end Tri

/-! ### are_fair -/
namespace Tri
open PySem PySem.Spec PyProof.Rows L2 Evl
def sp_are_fair (K : PySem.W.Frag) : Sp := fun vs H Q _ => ∃ (m : Nat) (a : Addr) (cs : List Int), vs = [.int m, .ref a] ∧ m ≤ 9 ∧ SqL K H a (cs.map V.int) ∧ (∀ x ∈ cs, 0 ≤ x) ∧ RetV (.bl (Kzs2.fair m (cs.map Int.toNat))) H Q
section
variable {K : PySem.W.Frag} {vs : List V} {H : Hp} {Q : VK} {E : XK}
theorem len_are_fair (h : sp_are_fair K vs H Q E) : vs.length = 2 := by
  obtain ⟨m, a, cs, rfl, _⟩ := h
  rfl
end
section
variable {K : PySem.W.Frag}
theorem number_at {m x : Nat} {p : Kzs2.Place} (hp : p.i + p.j ≤ m) (hx : x ≤ 2) : (placeV m p)[x]? = some (.int (Kzs2.number m p x)) := by
  obtain rfl | rfl | rfl : x = 0 ∨ x = 1 ∨ x = 2 := by omega
  · rfl
  · rfl
  · show some (V.int ((m : Int) - p.i - p.j)) = some (V.int ((m - p.i - p.j : Nat) : Int))
    rw [show (m : Int) - p.i - p.j = ((m - p.i - p.j : Nat) : Int) by omega]
theorem read_are_fair (vs : List V) (H : Hp) (Q : VK) (E : XK) (h : sp_are_fair K vs H Q E) : t_are_fair K (sp_places K) { nx := fun _ H' => Q .non H', rt := Q } (start ["m", "c", "listed", "numbers", "colour"] vs) H := by
  obtain ⟨m, a, cs, rfl, hm, hS, hnn, k⟩ := h
  refine q_asgC (ea_cons (ev_var rfl) ea_nil) fun H1 e1 => ⟨m, rfl, hm, fun p H2 g => ?_⟩
  obtain ⟨hp, e2, as, h2, hd⟩ := g
  have hE : Ex H H2 := e1.trans e2
  have hal : as.length = (Kzs2.places m).length := by
    rw [hd.len, List.length_map]
  refine q_when (et_test (ev_op (ev_len (xs := cs.map V.int) (ev_var rfl) (ex_l hE hS)) (ev_len (xs := as.map V.ref) (ev_var rfl) (sq_of h2)) (rv_ne rfl))) (fun hb H3 e3 => ?_) (fun hb H3 e3 => ?_)
  · refine s_ret ev_c fun H4 e4 => ?_
    have hf : Kzs2.fair m (cs.map Int.toNat) = false := by
      cases q : Kzs2.fair m (cs.map Int.toNat) with
      | false => rfl
      | true =>
        have ql := ((fair_iff hm).mp q).1
        rw [List.length_map] at ql
        rw [List.length_map, List.length_map, hal, ql, decide_eq_true rfl] at hb
        cases hb
    have k' := k H4 ((hE.trans e3).trans e4)
    rw [hf] at k'
    exact k'
  · have hcl : cs.length = (Kzs2.places m).length := by
      rw [List.length_map, List.length_map, hal] at hb
      have q : decide (V.int (cs.length : Int) = V.int ((Kzs2.places m).length : Int)) = true := by simpa using hb
      have q2 := V.int.inj (of_decide_eq_true q)
      omega
    refine q_forZ (K := K) (a := p) (b := a) (xs := as.map V.ref) (ys := cs.map V.int) (ea_cons (ev_var rfl) (ea_cons (ev_var rfl) ea_nil)) (sq_of (e3 _ _ h2)) (ex_l (hE.trans e3) hS) (by rw [List.length_map, List.length_map, hal, hcl])
      (fun i σ' H' => ∃ v3 v4, σ' = [some (.int m), some (.ref a), some (.ref p), v3, v4] ∧ Ex H2 H' ∧ ∀ (t : Nat) (q : Kzs2.Place) (x : Nat), t < i → (Kzs2.places m)[t]? = some q → (cs.map Int.toNat)[t]? = some x → x ≤ 2 ∧ Kzs2.number m q x ≠ 0) ?_ ?_ ?_ ?_
    · exact fun H4 e4 => ⟨none, none, rfl, e3.trans e4, fun t _ _ ht => absurd ht (Nat.not_lt_zero t)⟩
    · rintro i σ' H' ⟨v3, v4, rfl, e, _⟩
      exact ⟨sq_of (e _ _ h2), ex_l (hE.trans e) hS⟩
    · rintro i x y σ' H' hx hy ⟨v3, v4, rfl, e, good⟩ H5 e5
      obtain ⟨b, z, rfl, hz, hb2⟩ := (hd.ex e).get hx
      rw [List.getElem?_map] at hz hy
      cases hq : (Kzs2.places m)[i]? with
      | none =>
        rw [hq] at hz
        cases hz
      | some q =>
        cases hc : cs[i]? with
        | none =>
          rw [hc] at hy
          cases hy
        | some ci =>
          rw [hq] at hz
          rw [hc] at hy
          obtain rfl : placeV m q = z := Option.some.inj hz
          obtain rfl : V.int ci = y := Option.some.inj hy
          have h0 : 0 ≤ ci := hnn ci (List.mem_of_getElem? hc)
          have hct : (cs.map Int.toNat)[i]? = some ci.toNat := by
            rw [List.getElem?_map, hc]
            rfl
          have hin := within_at hm hq
          refine s_when (et_or (b := decide (V.int (Kzs2.number m q ci.toNat) = V.int 0)) (et_test (ev_op (ev_var rfl) ev_c rv_I0)) (fun hle => et_test (ev_op (ev_op (ev_var rfl) (ev_var rfl) (rv_ixT (K := K) (st_of (e5 _ _ hb2)) (v := .int (Kzs2.number m q ci.toNat)) ?_)) ev_c (rv_eq rfl)))) (fun hb6 H6 e6 => ?_) (fun hb6 H6 e6 => ?_)
          · have hle2 := of_decide_eq_false hle
            exact at_of (j := ci.toNat) (by omega) (number_at hin (by omega))
          · refine s_ret ev_c fun H7 e7 => ?_
            have hf : Kzs2.fair m (cs.map Int.toNat) = false := by
              cases r : Kzs2.fair m (cs.map Int.toNat) with
              | false => rfl
              | true =>
                have ok := ((fair_iff hm).mp r).2 i q ci.toNat hq hct
                rw [Bool.or_eq_true, decide_eq_true_eq, decide_eq_true_eq] at hb6
                rcases hb6 with c | c
                · omega
                · have c2 := V.int.inj c
                  omega
            have k' := k H7 ((((hE.trans e).trans e5).trans e6).trans e7)
            rw [hf] at k'
            exact k'
          · refine ⟨_, _, rfl, (e.trans e5).trans e6, fun t q' x' ht hq' hx' => ?_⟩
            by_cases hti : t < i
            · exact good t q' x' hti hq' hx'
            · obtain rfl : t = i := by omega
              rw [hq] at hq'
              rw [hct] at hx'
              obtain rfl := Option.some.inj hq'
              obtain rfl := Option.some.inj hx'
              rw [Bool.or_eq_false_iff, decide_eq_false_iff_not, decide_eq_false_iff_not] at hb6
              refine ⟨by omega, fun z => hb6.2 ?_⟩
              rw [z]
              rfl
    · rintro σ' H' ⟨v3, v4, rfl, e, good⟩
      refine s_ret ev_c fun H7 e7 => ?_
      have hf : Kzs2.fair m (cs.map Int.toNat) = true := (fair_iff hm).mpr ⟨by rw [List.length_map]; exact hcl, fun t q x hq hx => good t q x (by
        rw [List.length_map, hal]
        exact (List.getElem?_eq_some_iff.mp hq).1) hq hx⟩
      have k' := k H7 ((hE.trans e).trans e7)
      rw [hf] at k'
      exact k'
end
end Tri

/-! ### fair -/
namespace Tri
open PySem PySem.Spec PyProof.Rows L2 Evl
def sp_fair (K : PySem.W.Frag) : Sp := fun vs H Q _ => ∃ (m : Int) (a : Addr) (cs : List Int), vs = [.int m, .ref a] ∧ SqL K H a (cs.map V.int) ∧ (∀ x ∈ cs, 0 ≤ x) ∧
  ∀ (H' : Hp) (p : Addr), H' p = some (.lst ((PyKzs2.fair m cs).map V.int)) → Q (.ref p) H'
section
variable {K : PySem.W.Frag} {vs : List V} {H : Hp} {Q : VK} {E : XK}
theorem len_fair (h : sp_fair K vs H Q E) : vs.length = 2 := by
  obtain ⟨m, a, cs, rfl, _⟩ := h
  rfl
end
section
variable {K : PySem.W.Frag}
theorem read_fair (vs : List V) (H : Hp) (Q : VK) (E : XK) (h : sp_fair K vs H Q E) : t_fair K (sp_is_size K) (sp_are_fair K) { nx := fun _ H' => Q .non H', rt := Q } (start ["m", "c"] vs) H := by
  obtain ⟨m, a, cs, rfl, hS, hnn, k⟩ := h
  refine q_when (b := !(isSize m)) (et_not (et_B (ev_call (ea_cons (ev_var rfl) ea_nil) fun H1 e Q q E => ⟨m, rfl, q⟩))) (fun hb H1 e1 => ?_) (fun hb H1 e1 => ?_)
  · refine s_retL (el_lst (ea_cons ev_c ea_nil) (by decide)) fun p H2 hp e2 h2 => k H2 p ?_
    rw [f_fair_no m cs (fun c => by simp [isSize, c.1, c.2] at hb)]
    exact h2
  · have hs : 1 ≤ m ∧ m ≤ 9 := by
      have : isSize m = true := by simpa using hb
      simpa [isSize] using this
    obtain ⟨n, rfl⟩ : ∃ n : Nat, m = (n : Int) := ⟨m.toNat, by omega⟩
    refine s_retL (el_lst (ea_cons (ev_if (v := .int (if Kzs2.fair n (cs.map Int.toNat) = true then 1 else 0)) (et_B (ev_call (ea_cons (ev_var rfl) (ea_cons (ev_var rfl) ea_nil)) fun H2 e2 Q q E => ⟨n, a, cs, rfl, by omega, ex_l (e1.trans e2) hS, hnn, q⟩)) (fun hb2 => ev_is ev_c ?_) (fun hb2 => ev_is ev_c ?_)) ea_nil) (by show 1 ≤ 100000; omega)) fun p H2 hp e2 h2 => k H2 p ?_
    · rw [if_pos hb2]
    · rw [if_neg (by rw [hb2]; exact Bool.false_ne_true)]
    · rw [f_fair n cs (by omega)]
      exact h2
theorem asked (K : PySem.W.Frag) (H : Hp) (xs : List V) (a : PySem.W.Codec.denoteAll PySem.Challenge.rw_threecolours_s01_fair.args) (hw : PySem.W.Codec.withinAll PySem.Challenge.rw_threecolours_s01_fair.args a = true)
    (hx : DwAll K H xs (PySem.W.Codec.encAll PySem.Challenge.rw_threecolours_s01_fair.args a)) :
    sp_fair K xs H (fun v H' => Dw K H' v (PySem.Challenge.rw_threecolours_s01_fair.ret.enc (PySem.W.Codec.app PySem.Challenge.rw_threecolours_s01_fair.args PySem.Challenge.rw_threecolours_s01_fair.f a))) fun _ _ _ => False := by
  cases hx with
  | cons h1 h2 =>
    cases h1
    cases h2 with
    | cons h3 h4 =>
      cases h4
      cases h3 with
      | lst hs ha =>
        have e := L2.ints_dw a.2.1 _ ha
        subst e
        have q : (PySem.W.Codec.inInt 0 4294967295 a.1 && ((PySem.W.Codec.inLen 0 200 a.2.1 && a.2.1.all (PySem.W.Codec.inInt 0 4294967295)) && true)) = true := hw
        rw [Bool.and_eq_true, Bool.and_eq_true, Bool.and_eq_true] at q
        refine ⟨a.1, _, a.2.1, rfl, hs, fun x hx => ?_, fun H' p hp => .lst (L2.SqL.of hp) (L2.dw_ints _)⟩
        have r := List.all_eq_true.mp q.2.1.2 x hx
        unfold PySem.W.Codec.inInt at r
        rw [Bool.and_eq_true, decide_eq_true_eq] at r
        exact r.1
end
end Tri

/-! ### Each def holds its promise (printed by tools/gen.py): the derivation, then read_f -/
namespace Tri
open PySem PySem.Spec PyProof.Rows L2 Evl
section
variable {P : Program} {w : World} {K : PySem.W.Frag} {mg : Str → Option Value} {base : Heap}
theorem ok_is_size {f : Addr} {fd : FuncData} (F : Fun K "is_size" "is_size" st_is_size f fd) (T : Txt K mg) : FnOk P w K mg base CX0 1 f fd ["m"] (sp_is_size K) := by
  refine F.ok sc_is_size (fun vs H Q E h => len_is_size h) (fun cdv A outer s H vs Q E hr h => ⟨t_is_size K  , ?_, read_is_size vs H Q E h⟩)
  exact (pss_one (ps_ret (pe_and (pe_cmpR op_ge (pv 0) pe_int (nomark _)) (pe_one (pe_cmpR op_le (pv 0) (pe_g (by rfl) T.g_LARGEST_SIZE) (nomark _))))))
theorem ok_places {f : Addr} {fd : FuncData} (F : Fun K "places" "places" st_places f fd) (T : Txt K mg) : FnOk P w K mg base CX0 1 f fd ["m"] (sp_places K) := by
  refine F.ok sc_places (fun vs H Q E h => len_places h) (fun cdv A outer s H vs Q E hr h => ⟨t_places K  , ?_, read_places vs H Q E h⟩)
  exact (pss_cons (ps_set (i := 1) sc_places.nd rfl (Or.inl rfl) (pe_lst pa_nil))
      (pss_cons (ps_for PassesOwn.never rfl (pi_range1 (by rfl) T.n_range (pa_cons (pe_op op_add (pv 0) pe_int) pa_nil)) (pg_name (i := 2) sc_places.nd rfl (Or.inl rfl))
      (pss_one (ps_for PassesOwn.never rfl (pi_range1 (by rfl) T.n_range (pa_cons (pe_op op_sub (pe_op op_add (pv 0) pe_int) (pv 2)) pa_nil)) (pg_name (i := 3) sc_places.nd rfl (Or.inl rfl))
      (pss_one (ps_expr (pe_bm PySem.F.plainAttrs_list PySem.F.slot_list_append PySem.F.type_list_append mt_append (pv 1) (pa_cons (pe_tup (pa_cons (pv 3) (pa_cons (pv 2) (pa_cons (pe_op op_sub (pe_op op_sub (pv 0) (pv 3)) (pv 2)) pa_nil)))) pa_nil)))))))
      (pss_one (ps_ret (pv 1)))))
theorem ok_are_fair {f : Addr} {fd : FuncData} (F : Fun K "are_fair" "are_fair" st_are_fair f fd) (T : Txt K mg) (h_places : Has P w K mg base 1 "places" ["m"] (sp_places K)) : FnOk P w K mg base CX0 2 f fd ["m", "c"] (sp_are_fair K) := by
  refine F.ok sc_are_fair (fun vs H Q E h => len_are_fair h) (fun cdv A outer s H vs Q E hr h => ⟨t_are_fair K (sp_places K) , ?_, read_are_fair vs H Q E h⟩)
  exact (pss_cons (ps_set (i := 2) sc_are_fair.nd rfl (Or.inl rfl) (pe_own h_places (hr.mono (by decide)) (by rfl) (pa_cons (pv 0) pa_nil)))
      (pss_cons (ps_if (pt_cmpR op_ne (pe_callB call_len_seq (by rfl) T.n_len PySem.boot_len (pa_cons (pv 1) pa_nil)) (pe_callB call_len_seq (by rfl) T.n_len PySem.boot_len (pa_cons (pv 2) pa_nil)) (nomark _))
      (pss_one (ps_ret pe_bl))
      pss_nil)
      (pss_cons (ps_for PassesOwn.never rfl (pi_zip (by rfl) T.n_zip (pa_cons (pv 2) (pa_cons (pv 1) pa_nil))) (pg_tup rfl (pgs_cons (pg_name (i := 3) sc_are_fair.nd rfl (Or.inl rfl)) (pgs_cons (pg_name (i := 4) sc_are_fair.nd rfl (Or.inl rfl)) pgs_nil)))
      (pss_one (ps_if (PW.pt (pw_or (pt_cmpR op_ge (pv 4) (pe_g (by rfl) T.g_COLOURS) (nomark _)) (pw_or1 (pt_cmpR op_eq (pe_ix ix_tup (pv 3) (pv 4) (fun _ _ => rfl)) pe_int (nomark _)))))
      (pss_one (ps_ret pe_bl))
      pss_nil)))
      (pss_one (ps_ret pe_bl)))))
theorem ok_fair {f : Addr} {fd : FuncData} (F : Fun K "fair" "fair" st_fair f fd) (T : Txt K mg) (h_is_size : Has P w K mg base 1 "is_size" ["m"] (sp_is_size K)) (h_are_fair : Has P w K mg base 2 "are_fair" ["m", "c"] (sp_are_fair K)) : FnOk P w K mg base CX0 3 f fd ["m", "c"] (sp_fair K) := by
  refine F.ok sc_fair (fun vs H Q E h => len_fair h) (fun cdv A outer s H vs Q E hr h => ⟨t_fair K (sp_is_size K) (sp_are_fair K) , ?_, read_fair vs H Q E h⟩)
  exact (pss_cons (ps_if (pt_not (pt_val (pe_own h_is_size (hr.mono (by decide)) (by rfl) (pa_cons (pv 0) pa_nil))))
      (pss_one (ps_ret (pe_lst (pa_cons (pe_g (by rfl) T.g_REFUSED_INPUT) pa_nil))))
      pss_nil)
      (pss_one (ps_ret (pe_lst (pa_cons (pe_ifExp (pt_val (pe_own h_are_fair (hr.mono (by decide)) (by rfl) (pa_cons (pv 0) (pa_cons (pv 1) pa_nil)))) pe_int pe_int) pa_nil)))))
end
end Tri

/-! ### The end (printed by tools/gen.py) -/
namespace Tri
open PySem PySem.Spec PyProof.Rows L2 Evl
theorem all_mk {P : Program} {w : World} {K : PySem.W.Frag} {h : Heap} {mg : Str → Option Value} {fa f1 f2 f3 f4 : Addr} (X : K.In h) (G : h.Ns mainGlobals mg) (hfa : mg "fair" = some (.ref fa))
    {od1 an1 od2 an2 od3 an3 od4 an4 : Option Addr} {sl1 sl2 sl3 sl4 : Array (Option Value)} {oc1 kV1 dc1 pm1 cd1 ct1 oc2 kV2 dc2 pm2 cd2 ct2 oc3 kV3 dc3 pm3 cd3 ct3 oc4 kV4 dc4 pm4 cd4 ct4 : Value} {tk0 tk1 tk2 : Tok}
    (a1 : PySem.W.nsIn K mainGlobals "is_size" = some (some (.ref f1))) (l1 : K.lookup f1 = some ⟨oc1, od1, .func (PySem.W.fnOf "is_size" "is_size" (defArgs st_is_size) (defBody st_is_size) (defScope st_is_size) .none kV1 dc1 pm1 an1 cd1 ct1), sl1⟩) (c1 : PySem.W.codeIn K cd1 "is_size" = true) (k1 : PySem.W.keepIn K (.ref f1) = true)
    (a2 : PySem.W.nsIn K mainGlobals "places" = some (some (.ref f2))) (l2 : K.lookup f2 = some ⟨oc2, od2, .func (PySem.W.fnOf "places" "places" (defArgs st_places) (defBody st_places) (defScope st_places) .none kV2 dc2 pm2 an2 cd2 ct2), sl2⟩) (c2 : PySem.W.codeIn K cd2 "places" = true) (k2 : PySem.W.keepIn K (.ref f2) = true)
    (a3 : PySem.W.nsIn K mainGlobals "are_fair" = some (some (.ref f3))) (l3 : K.lookup f3 = some ⟨oc3, od3, .func (PySem.W.fnOf "are_fair" "are_fair" (defArgs st_are_fair) (defBody st_are_fair) (defScope st_are_fair) .none kV3 dc3 pm3 an3 cd3 ct3), sl3⟩) (c3 : PySem.W.codeIn K cd3 "are_fair" = true) (k3 : PySem.W.keepIn K (.ref f3) = true)
    (a4 : PySem.W.nsIn K mainGlobals "fair" = some (some (.ref f4))) (l4 : K.lookup f4 = some ⟨oc4, od4, .func (PySem.W.fnOf "fair" "fair" (defArgs st_fair) (defBody st_fair) (defScope st_fair) .none kV4 dc4 pm4 an4 cd4 ct4), sl4⟩) (c4 : PySem.W.codeIn K cd4 "fair" = true) (k4 : PySem.W.keepIn K (.ref f4) = true)
    (u0 : PySem.W.nsIn K mainGlobals "COLOURS" = some (some (.int (3) tk0)))
    (u1 : PySem.W.nsIn K mainGlobals "LARGEST_SIZE" = some (some (.int (9) tk1)))
    (u2 : PySem.W.nsIn K mainGlobals "REFUSED_INPUT" = some (some (.int (-22) tk2)))
    (z0 : PySem.W.nsIn K mainGlobals "len" = some none)
    (z1 : PySem.W.nsIn K mainGlobals "range" = some none)
    (z2 : PySem.W.nsIn K mainGlobals "zip" = some none)
    : ∃ fd : FuncData, (∀ (s : Shared) (us : List Value), us.length = (["m", "c"] : List Str).length → BindsTo s fd ⟨us, []⟩ ((["m", "c"] : List Str).zip us)) ∧ ∀ base : Heap, K.In base → base.Ns mainGlobals mg → FnOk P w K mg base CX0 3 fa fd ["m", "c"] (sp_fair K) := by
  have e := hfa.symm.trans (PySem.W.mg_of X G a4)
  cases e
  have T : Txt K mg := ⟨⟨_, PySem.W.mg_of X G u0, ⟨_, rfl⟩⟩, ⟨_, PySem.W.mg_of X G u1, ⟨_, rfl⟩⟩, ⟨_, PySem.W.mg_of X G u2, ⟨_, rfl⟩⟩, PySem.W.mg_none_of X G z0, PySem.W.mg_none_of X G z1, PySem.W.mg_none_of X G z2⟩
  have F1 := fun_mk (st := st_is_size) l1 c1 k1
  have b1 := F1.binds (ps := ["m"]) fun _ _ _ _ _ _ us hl => match us, hl with | [_], _ => rfl
  have F2 := fun_mk (st := st_places) l2 c2 k2
  have b2 := F2.binds (ps := ["m"]) fun _ _ _ _ _ _ us hl => match us, hl with | [_], _ => rfl
  have F3 := fun_mk (st := st_are_fair) l3 c3 k3
  have b3 := F3.binds (ps := ["m", "c"]) fun _ _ _ _ _ _ us hl => match us, hl with | [_, _], _ => rfl
  have F4 := fun_mk (st := st_fair) l4 c4 k4
  refine ⟨PySem.W.fnOf "fair" "fair" (defArgs st_fair) (defBody st_fair) (defScope st_fair) .none kV4 dc4 pm4 an4 cd4 ct4, fun s us hu => match us, hu with | [_, _], _ => .of_eq rfl, fun base _ _ => ?_⟩
  have h_is_size : Has P w K mg base 1 "is_size" ["m"] (sp_is_size K) := ⟨_, _, PySem.W.mg_of X G a1, ok_is_size F1 T, k1, b1⟩
  have h_places : Has P w K mg base 1 "places" ["m"] (sp_places K) := ⟨_, _, PySem.W.mg_of X G a2, ok_places F2 T, k2, b2⟩
  have h_are_fair : Has P w K mg base 2 "are_fair" ["m", "c"] (sp_are_fair K) := ⟨_, _, PySem.W.mg_of X G a3, ok_are_fair F3 T h_places, k3, b3⟩
  exact ok_fair F4 T h_is_size h_are_fair
end Tri
open PySem PySem.W PyProof.Rows
set_option maxRecDepth 100000 in
set_option maxHeartbeats 8000000 in
theorem PySem.Challenge.cw_threecolours_s01_fair_holds : PySem.Challenge.rw_threecolours_s01_fair.Holds := by
  w_on; k_headS; (case hw => exact ⟨[.int 0, .list []], by decide +kernel, by decide +kernel⟩)
  k_fillS
  refine L2.walk_specK (r := PySem.Challenge.rw_threecolours_s01_fair) (k := 3) (CX := L2.CX0) (ps := ["m", "c"]) (sp := Tri.sp_fair) (by decide +kernel) rfl rfl ⟨rfl, by decide, by decide⟩ (fun w h Y => PySem.W.kIn_of Y) ?F ?S (fun _ _ _ _ z => z)
  case F =>
    intro w mg fa h Y KX G hmg
    refine' Tri.all_mk KX G hmg ?a1 ?l1 ?c1 ?k1 ?a2 ?l2 ?c2 ?k2 ?a3 ?l3 ?c3 ?k3 ?a4 ?l4 ?c4 ?k4 ?u0 ?u1 ?u2 ?z0 ?z1 ?z2
    (case a1 => k_is)
    (case l1 => k_is)
    (case c1 => k_is)
    (case k1 => k_is)
    (case a2 => k_is)
    (case l2 => k_is)
    (case c2 => k_is)
    (case k2 => k_is)
    (case a3 => k_is)
    (case l3 => k_is)
    (case c3 => k_is)
    (case k3 => k_is)
    (case a4 => k_is)
    (case l4 => k_is)
    (case c4 => k_is)
    (case k4 => k_is)
    (case u0 => k_is)
    (case u1 => k_is)
    (case u2 => k_is)
    (case z0 => k_is)
    (case z1 => k_is)
    (case z2 => k_is)
  case S =>
    intro K H xs a hO hwi hask hx
    exact Tri.asked K H xs a hwi hx
#print axioms PySem.Challenge.cw_threecolours_s01_fair_holds

