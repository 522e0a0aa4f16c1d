package tests

import (
	"slices"
	"testing"

	"loop.example/g00374/impl"
)

func TestMapOf(t *testing.T) {
	for n := 4; n <= 12; n++ {
		m, ok := impl.MapOf(newChip(n))
		same(t, "ok", ok, true)
		same(t, "no pages", m, slices.Repeat([]int64{-1}, 4*(n-3)))
	}
	m, ok := impl.MapOf(someMember().Chip)
	same(t, "ok", ok, true)
	same(t, "map", m, someMember().Map)
	c := newChip(4)
	for b := range c.Blocks {
		fillBlock(c, b, int64(20-4*b), 0, 1, 2, 3)
	}
	m, ok = impl.MapOf(c)
	same(t, "ok", ok, true)
	same(t, "the newest ahead of others", m, []int64{0, 1, 2, 3})
}

func TestMapOfRefuses(t *testing.T) {
	for name, c := range wrongChips() {
		m, ok := impl.MapOf(c)
		same(t, name, ok, false)
		same(t, name, len(m), 0)
	}
	for n := 4; n <= 12; n++ {
		room := int64(4 * (n - 3))
		c := newChip(n)
		c.Blocks[n-1].Pages[0] = used(room-1, 1, "abcd")
		m, ok := impl.MapOf(c)
		same(t, "the last log", ok, true)
		same(t, "its place", m[room-1], int64(4*(n-1)))
		c.Blocks[n-1].Pages[1] = used(room, 2, "abcd")
		m, ok = impl.MapOf(c)
		same(t, "one log behind it", ok, false)
		same(t, "no map", len(m), 0)
		// An older page without room is as wrong as the newest one.
		c.Blocks[0].Pages[0] = used(0, 3, "abcd")
		_, ok = impl.MapOf(c)
		same(t, "an older page of a log behind", ok, false)
	}
}

func TestMapOfIsNew(t *testing.T) {
	c := roomy(someMember().Chip)
	m, _ := impl.MapOf(c)
	for i := range m {
		m[i] = 99
	}
	same(t, "argument", copyChip(c), someMember().Chip)
	roomUntouched(t, c)
	m, _ = impl.MapOf(c)
	same(t, "once more", m, someMember().Map)
}

func TestMapOfByManyThrows(t *testing.T) {
	d := dice(3)
	for range 1000 {
		f := thrown(&d)
		m, ok := impl.MapOf(f.Chip)
		same(t, "ok", ok, true)
		same(t, "map", m, mapByHand(f.Chip))
	}
}
