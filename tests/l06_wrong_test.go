package tests

import (
	"maps"
	"math"
	"slices"
	"testing"

	"loop.example/g00374/impl"
)

// notRight asks for the one answer of each call at an array that is not right.
func notRight(t *testing.T, name string, a impl.Array) {
	t.Helper()
	as := plain(a)
	same(t, name+": ArrayOk", impl.ArrayOk(a), false)
	same(t, name+": SizeOf", impl.SizeOf(a), int64(-1))
	for _, n := range []int64{0, 1, 7, -1, 100, math.MinInt64, math.MaxInt64} {
		s, ok := impl.BlockAt(a, n)
		same(t, name+": BlockAt", ok, false)
		same(t, name+": text", s, "")
		same(t, name+": StripeOk", impl.StripeOk(a, n), false)
	}
	for _, x := range []impl.AAct{write(0, "data", -1), lose(0), replace(-1), start(-1), {}, {Kind: 9}, write(-1, "", 0), write(0, "data", 0)} {
		b, code := impl.ArrayDo(a, x)
		same(t, name+": code", code, int64(impl.ArWrong))
		same(t, name+": no array", b, impl.Array{})
		b, codes := impl.ArrayPlay(a, []impl.AAct{x})
		same(t, name+": no codes", len(codes), 0)
		same(t, name+": no array of a play", b, impl.Array{})
	}
	b, codes := impl.ArrayPlay(a, nil)
	same(t, name+": no codes of no acts", len(codes), 0)
	same(t, name+": no array of no acts", b, impl.Array{})
	sameArray(t, name+": argument", a, as)
}

// changed are arrays that differ from a right one by one fault alone.
type changed struct {
	name   string
	change func(a *impl.Array)
}

// faultsOf are wrong in an array that is up as well as in one that is down; the member that is lost, if one is, is left alone.
func faultsOf(right impl.Array) []changed {
	l := []changed{
		{"zero value", func(a *impl.Array) { *a = impl.Array{} }},
		{"a member too few", func(a *impl.Array) { a.Members = a.Members[:len(a.Members)-1] }},
		{"no members", func(a *impl.Array) { a.Members = nil }},
		{"a member too many", func(a *impl.Array) { a.Members = append(a.Members, a.Members[0]) }},
		{"a zero member too many", func(a *impl.Array) { a.Members = append(a.Members, impl.Ftl{}) }},
		{"a weight too few", func(a *impl.Array) { a.Weights = a.Weights[:len(a.Weights)-1] }},
		{"a weight too many", func(a *impl.Array) { a.Weights = append(a.Weights, 1) }},
	}
	for _, w := range [][]int64{nil, {0, 0, 0, 0}, {6, 1, 1, 1}, {1, -1, 1, 1}, {1, 1, 1, math.MaxInt64}, {math.MinInt64, 1, 1, 1}} {
		l = append(l, changed{"weights", func(a *impl.Array) { a.Weights = w }})
	}
	for _, n := range []int64{3, 13, 0, -4, 6, 4, math.MinInt64, math.MaxInt64} {
		l = append(l, changed{"blocks", func(a *impl.Array) { a.Blocks = n }})
	}
	for _, n := range []int64{-2, 4, 5, math.MinInt64, math.MaxInt64} {
		l = append(l, changed{"lost", func(a *impl.Array) { a.Lost = n }})
	}
	if right.Lost >= 0 {
		l = append(l, changed{"none lost", func(a *impl.Array) { a.Lost = -1 }})
	}
	for m := range right.Members {
		if int64(m) == right.Lost {
			continue
		}
		l = append(l,
			changed{"another member lost", func(a *impl.Array) { a.Lost = int64(m) }},
			changed{"a member that is the zero value", func(a *impl.Array) { a.Members[m] = impl.Ftl{} }},
			changed{"a member of fewer blocks", func(a *impl.Array) { a.Members[m] = impl.Ftl{Chip: newChip(4)} }},
			changed{"a member of more blocks", func(a *impl.Array) { a.Members[m] = impl.Ftl{Chip: newChip(6)} }},
			changed{"a new member of fewer blocks", func(a *impl.Array) { a.Members[m], _ = impl.FtlNew(4) }},
			changed{"a new member of more blocks", func(a *impl.Array) { a.Members[m], _ = impl.FtlNew(6) }},
			changed{"a chip that is not right", func(a *impl.Array) { a.Members[m].Chip.Blocks[0].Pages[1].Seq = 0 }},
			changed{"a page too few", func(a *impl.Array) { a.Members[m].Chip.Blocks[2].Pages = a.Members[m].Chip.Blocks[2].Pages[:3] }},
			changed{"a log without room", func(a *impl.Array) { a.Members[m].Chip.Blocks[0].Pages[0].Log = 8 }},
			changed{"a map", func(a *impl.Array) { a.Members[m].Map = append(a.Members[m].Map, -1) }},
			changed{"open below", func(a *impl.Array) { a.Members[m].Open = -1 }},
			changed{"open above", func(a *impl.Array) { a.Members[m].Open = 5 }},
			changed{"seq below", func(a *impl.Array) { a.Members[m].Seq = -1 }},
			changed{"seq above", func(a *impl.Array) { a.Members[m].Seq = impl.MaxSeq + 1 }},
		)
	}
	return l
}

// someArrays are right arrays of 4 members and 5 blocks: up, down, with one lost and without.
func someArrays(t *testing.T) map[string]impl.Array {
	d := dice(68)
	up, _ := filled(t, []int64{1, 0, 2, 1}, 5, 40, &d)
	lost := done(t, up, lose(1))
	l := map[string]impl.Array{"up": up, "up, one lost": lost}
	for power, name := range []string{"down", "down, a record", "down, a record half written"} {
		l[name], _ = impl.ArrayDo(up, write(5, "next", int64(power)))
		l[name+", one lost"], _ = impl.ArrayDo(lost, write(5, "next", int64(power)))
	}
	return l
}

func TestWrongArrays(t *testing.T) {
	for name, right := range someArrays(t) {
		same(t, name, impl.ArrayOk(right), true)
		for _, f := range faultsOf(right) {
			a := plain(right)
			f.change(&a)
			notRight(t, name+": "+f.name, a)
			if t.Failed() {
				t.Fatal(name, f.name)
			}
		}
	}
}

// The zero value of a lost member: no field of it may be anything else, while an empty list is as good as none.
func TestLostMemberIsZero(t *testing.T) {
	for name, right := range someArrays(t) {
		if right.Lost < 0 {
			continue
		}
		for _, f := range []impl.Ftl{
			{Chip: newChip(5)}, {Chip: impl.Chip{Blocks: make([]impl.Block, 1)}}, {Map: []int64{-1}}, {Map: []int64{0}}, {Seq: 1}, {Seq: -1}, {Open: 1}, {Open: -1},
		} {
			a := plain(right)
			a.Members[a.Lost] = f
			notRight(t, name, a)
		}
		a := plain(right)
		a.Members[a.Lost] = impl.Ftl{Chip: impl.Chip{Blocks: []impl.Block{}}, Map: []int64{}}
		same(t, name+": empty lists", impl.ArrayOk(a), true)
	}
}

func TestWrongUpArrays(t *testing.T) {
	for _, name := range []string{"up", "up, one lost"} {
		right := someArrays(t)[name]
		for _, l := range [][]impl.Record{{{}}, {{Lba: 5, Data: "next", Parity: "next"}}, {{Lba: 5, Data: "next"}}, make([]impl.Record, 2)} {
			a := plain(right)
			a.Log = l
			notRight(t, name+": a log", a)
		}
		a := plain(right)
		a.Log = []impl.Record{}
		same(t, name+": an empty log", impl.ArrayOk(a), true)
		for m := range a.Members {
			if int64(m) == a.Lost {
				continue
			}
			for _, f := range wrongMembers() {
				a := plain(right)
				a.Members[m] = f
				if len(f.Chip.Blocks) == 5 {
					notRight(t, name+": a member that is not right", a)
				}
			}
			// All right but one page of one stripe: only an array without a lost member has to agree.
			b := plain(right)
			f := &b.Members[m]
			for _, place := range f.Map {
				if place < 0 {
					continue
				}
				page := &f.Chip.Blocks[place/4].Pages[place%4]
				was := page.Data
				page.Data = xorByHand(was, "\x00\x00\x00\x01")
				same(t, name+": a page of another text", impl.ArrayOk(b), a.Lost >= 0)
				if a.Lost < 0 {
					notRight(t, name, b)
				}
				page.Data = was
			}
			same(t, name+": as it was", impl.ArrayOk(b), true)
			down := downed(right)
			same(t, name+": down", impl.ArrayOk(down), true)
			down.Down = false
			notRight(t, name+": chips alone while it is up", down)
			mixed := plain(right)
			mixed.Members[m] = impl.Ftl{Chip: mixed.Members[m].Chip}
			notRight(t, name+": one chip alone while it is up", mixed)
		}
		a = plain(right)
		a.Down = true
		notRight(t, name+": members that hold more than their chips", a)
	}
}

func TestWrongDownArrays(t *testing.T) {
	for name, right := range someArrays(t) {
		if !right.Down {
			continue
		}
		for m := range right.Members {
			if int64(m) == right.Lost {
				continue
			}
			full, _ := impl.Recovered(right.Members[m].Chip)
			for _, f := range []impl.Ftl{full, {Chip: full.Chip, Map: full.Map}, {Chip: full.Chip, Seq: full.Seq}, {Chip: full.Chip, Seq: 1}, {Chip: full.Chip, Open: 1}} {
				a := plain(right)
				a.Members[m] = f
				notRight(t, name+": more than a chip", a)
			}
			a := plain(right)
			a.Members[m].Map = []int64{}
			same(t, name+": an empty map", impl.ArrayOk(a), true)
			for _, c := range wrongChips() {
				e := plain(right)
				e.Members[m].Chip = c
				same(t, name+": a chip that is not right", impl.ArrayOk(e), false)
			}
			// What TidyOps refuses does not start.
			a.Members[m].Chip.Blocks[1].Wear = impl.MaxWear
			notRight(t, name+": worn", a)
			a.Members[m].Chip.Blocks[1].Wear = impl.MaxWear - 1
			same(t, name+": worn by one less", impl.ArrayOk(a), true)
			a = plain(right)
			two := a.Members[m].Chip
			for b := range two.Blocks {
				if two.Blocks[b].Pages[3].Used && impl.NextOf(two, int64(b)) < 0 {
					two.Blocks[b].Pages[3] = impl.Page{}
				}
			}
			notRight(t, name+": more than one block is begun", a)
		}
		a := plain(right)
		a.Log = append(a.Log, a.Log...)
		if len(a.Log) > 0 {
			notRight(t, name+": two records", a)
		}
		a.Log = make([]impl.Record, 2)
		notRight(t, name+": two empty records", a)
	}
}

// Records of arrays that are down, with each member lost and with none: block 5 is of stripe 1, whose parity is member 2.
func TestWrongRecords(t *testing.T) {
	up := someArrays(t)["up"]
	member, stripe, parity := placeByHand(up, 5)
	same(t, "place", []int64{member, stripe, parity}, []int64{3, 1, 2})
	for lost := int64(-1); lost < 4; lost++ {
		a := up
		if lost >= 0 {
			a = done(t, up, lose(lost))
		}
		for power := int64(1); power < countSteps(t, a, write(5, "next", 0)); power++ {
			b, _ := impl.ArrayDo(a, write(5, "next", power))
			right := func(name string, want bool, change func(r *impl.Record)) {
				t.Helper()
				e := plain(b)
				change(&e.Log[0])
				same(t, name, impl.ArrayOk(e), want)
				if !want {
					notRight(t, name, e)
				}
			}
			right("as it is", true, func(r *impl.Record) {})
			for _, lba := range outside(24) {
				right("a block that is not there", false, func(r *impl.Record) { r.Lba = lba })
			}
			for _, data := range []string{"", "abc", "abcde", "nex\u00e9"} {
				right("data of another length", false, func(r *impl.Record) { r.Data = data })
				right("parity of another length", data == "" && lost == parity, func(r *impl.Record) { r.Parity = data })
			}
			right("a parity of the parity's lost member, or another one", lost >= 0, func(r *impl.Record) { r.Parity = "some" })
			right("another text", lost >= 0, func(r *impl.Record) { r.Data = "some" })
			right("data and parity of another stripe", lost >= 0 && lost != parity, func(r *impl.Record) { r.Lba = 23 })
		}
	}
}

// A record of a stripe whose parity is lost has none, one of a stripe whose parity is not lost has one: of the same array.
func TestRecordsByStripe(t *testing.T) {
	a := done(t, newArray([]int64{2, 1, 1}, 4), lose(1))
	for lba := range int64(8) {
		_, _, parity := placeByHand(a, lba)
		b := downed(a)
		b.Log = []impl.Record{{Lba: lba, Data: "next"}}
		same(t, "without a parity", impl.ArrayOk(b), parity == 1)
		b.Log[0].Parity = "some"
		same(t, "with one", impl.ArrayOk(b), true)
		holds(t, acts(t, newArray([]int64{2, 1, 1}, 4), write(lba, "next", 0)), slices.Replace(slices.Repeat([]string{zeros}, 8), int(lba), int(lba)+1, "next"))
	}
}

// A Down array is right as long as a start leaves it up: not, when a record cannot be written any more behind what is tidied.
func TestDownNearTheLastSeq(t *testing.T) {
	for _, log := range []int64{-1, 0, 4} {
		for _, top := range []int64{impl.MaxSeq - 100, impl.MaxSeq - 13, impl.MaxSeq - 12, impl.MaxSeq - 11, impl.MaxSeq - 10, impl.MaxSeq} {
			c := begunChip(2)
			c.Blocks[3].Pages[3].Seq = top
			a := impl.Array{Weights: []int64{2, 1, 1}, Blocks: 5, Lost: 2, Down: true, Members: []impl.Ftl{{Chip: c}, {Chip: newChip(5)}, {}}}
			wantRight := top <= impl.MaxSeq-11
			if log >= 0 {
				a.Log = []impl.Record{{Lba: log, Data: "next", Parity: "some"}}
				// Two pages are copied, the third Seq behind is that of the write: of block 0 member 0 has the parity, block 4 is its own.
				wantRight = top+3 <= impl.MaxSeq-10
			}
			same(t, "right", impl.ArrayOk(a), wantRight)
			if !wantRight {
				notRight(t, "near the last Seq", a)
				continue
			}
			b := acts(t, a, start(0))
			same(t, "up", impl.ArrayOk(b), true)
		}
	}
	// A record that is written to another member than the one that is near its last Seq.
	c := begunChip(2)
	c.Blocks[3].Pages[3].Seq = impl.MaxSeq - 11
	a := impl.Array{Weights: []int64{0, 0, 1}, Blocks: 5, Lost: 2, Down: true, Members: []impl.Ftl{{Chip: c}, {Chip: newChip(5)}, {}}}
	for lba := range int64(16) {
		a.Log = []impl.Record{{Lba: lba, Data: "next"}}
		same(t, "right", impl.ArrayOk(a), lba%2 == 1)
	}
}

// thrownNumber is small, or at an edge, or as far out as a number can be.
func thrownNumber(d *dice) int64 {
	l := []int64{-1, 0, 1, 2, 3, 4, 5, 7, 8, 12, 13, 40, impl.MaxSeq - 11, impl.MaxSeq - 10, impl.MaxSeq, impl.MaxSeq + 1, math.MinInt64, math.MaxInt64, 1 << 32}
	return l[d.below(int64(len(l)))]
}

// spoilt changes some field of the array, whatever comes of it.
func spoilt(a *impl.Array, d *dice) {
	switch d.below(8) {
	case 0:
		a.Lost = thrownNumber(d)
	case 1:
		a.Blocks = thrownNumber(d)
	case 2:
		a.Down = !a.Down
	case 3:
		a.Log = append(a.Log, impl.Record{Lba: thrownNumber(d), Data: dataOf(d.below(10000))[d.below(5):], Parity: dataOf(d.below(10000))[d.below(5):]})
	case 4:
		if len(a.Weights) > 0 {
			a.Weights[d.below(int64(len(a.Weights)))] = thrownNumber(d)
		}
	case 5:
		a.Weights = append(a.Weights, 1)[d.below(3):]
	case 6:
		a.Members = append(a.Members, impl.Ftl{})[d.below(3):]
	default:
		if len(a.Members) > 0 {
			spoiltMember(&a.Members[d.below(int64(len(a.Members)))], d)
		}
	}
}

func spoiltMember(f *impl.Ftl, d *dice) {
	if len(f.Chip.Blocks) == 0 || d.below(8) == 0 {
		*f = impl.Ftl{Chip: newChip(5), Map: slices.Repeat([]int64{-1}, int(d.below(9))), Seq: d.below(2)}
		return
	}
	block := &f.Chip.Blocks[d.below(int64(len(f.Chip.Blocks)))]
	switch d.below(6) {
	case 0:
		block.Wear = thrownNumber(d)
	case 1:
		block.Pages = block.Pages[:d.below(int64(len(block.Pages))+1)]
	case 2:
		if len(block.Pages) > 0 {
			block.Pages[d.below(int64(len(block.Pages)))] = used(thrownNumber(d), thrownNumber(d), dataOf(d.below(10000)))
		}
	case 3:
		f.Seq = thrownNumber(d)
	case 4:
		f.Open = thrownNumber(d)
	default:
		f.Map = append(f.Map, thrownNumber(d))[d.below(2):]
	}
}

// Whatever an array is, each call answers, and all of them agree on whether it is right.
func TestArraysOfAllKinds(t *testing.T) {
	d := dice(78)
	right := 0
	arrays := someArrays(t)
	names := slices.Sorted(maps.Keys(arrays))
	for i := range 4000 {
		a := plain(arrays[names[i%len(names)]])
		for range 1 + d.below(3) {
			spoilt(&a, &d)
		}
		as := plain(a)
		x := impl.AAct{Kind: d.below(5), Power: thrownNumber(&d)}
		if x.Kind == impl.AaWrite {
			x.Lba, x.Data = d.below(25), "data"
		}
		b, code := impl.ArrayDo(a, x)
		ok := impl.ArrayOk(a)
		same(t, "code", code == impl.ArWrong, !ok)
		same(t, "size", impl.SizeOf(a) == -1, !ok)
		_, codes := impl.ArrayPlay(a, []impl.AAct{x})
		same(t, "codes", len(codes) == 1 && codes[0] == code, ok)
		_, read := impl.BlockAt(a, 0)
		same(t, "block", read, ok && !a.Down)
		same(t, "stripe", impl.StripeOk(a, 0), ok && !a.Down && a.Lost == -1)
		sameArray(t, "argument", a, as)
		if ok {
			right++
			same(t, "as many members", len(b.Members), len(a.Members))
		}
		if t.Failed() {
			t.Fatal(i, a)
		}
	}
	same(t, "some are right, and some are not", right > 50 && right < 3950, true)
}
