package impl

import (
	"iter"
	"slices"
	"strings"
)

type Ftl struct {
	Chip Chip
	Map  []int64
	Seq  int64
	Open int64
}

// unnamed stands in a map for a log that has no page.
const unnamed = -1

func RoomFor(blocks int64) int64 {
	if !isBlockCount(blocks) {
		return 0
	}
	return PageCount * (blocks - 3)
}

func FtlOk(f Ftl) bool {
	_, ok := rightCells(f)
	return ok
}

func FtlNew(blocks int64) (Ftl, bool) {
	c, ok := ChipNew(blocks)
	if !ok {
		return Ftl{}, false
	}
	// A chip without pages has a map always.
	named, _ := MapOf(c)
	return Ftl{Chip: c, Map: named, Seq: 1, Open: 0}, true
}

func ValidOf(f Ftl, block int64) int64 {
	s, ok := rightCells(f)
	if !ok || !s.has(block) {
		return -1
	}
	return validCounts(f.Map)[block]
}

func VictimOf(f Ftl) int64 {
	s, ok := rightCells(f)
	if !ok {
		return -1
	}
	return victimBut(s, f.Map, f.Open)
}

func PageAt(f Ftl, log int64) (string, bool) {
	s, ok := rightCells(f)
	if !ok || !within(log, 0, RoomFor(s.count)-1) {
		return "", false
	}
	return s.dataAt(f.Map[log]), true
}

// rightCells is false for every member that is not right; where it is true Map
// names places of the chip only.
func rightCells(f Ftl) (chipCells, bool) {
	s, ok := cellsOf(f.Chip)
	if !ok {
		return chipCells{}, false
	}
	named, ok := newestPlaces(s)
	if !ok || !slices.Equal(f.Map, named) {
		return chipCells{}, false
	}
	if !within(f.Seq, s.top().seq+1, MaxSeq) || !s.has(f.Open) || !s.settledBut(f.Open) {
		return chipCells{}, false
	}
	return s, true
}

// settledBut asks that no block but open is begun only, and that one is free.
func (s chipCells) settledBut(open int64) bool {
	spare := false
	for b := range s.count {
		if b == open {
			continue
		}
		if s.blocks[b].begun() {
			return false
		}
		spare = spare || s.blocks[b].free()
	}
	return spare
}

func blankData() string {
	return strings.Repeat("\x00", PageSize)
}

// dataAt takes places that a map of this chip names, or unnamed.
func (s chipCells) dataAt(place int64) string {
	if place == unnamed {
		return blankData()
	}
	return s.blocks[place/PageCount].pages[place%PageCount].Data
}

// namedPlaces goes through the places that a map names, log by log.
func namedPlaces(named []int64) iter.Seq[int64] {
	return func(yield func(int64) bool) {
		for _, place := range named {
			if place != unnamed && !yield(place) {
				return
			}
		}
	}
}

func validCounts(named []int64) [MaxBlocks]int64 {
	var counts [MaxBlocks]int64
	for place := range namedPlaces(named) {
		counts[place/PageCount]++
	}
	return counts
}

// victimBut takes the map and the open block apart from a member: a victim is
// also asked for with another block as the open one.
func victimBut(s chipCells, named []int64, open int64) int64 {
	counts := validCounts(named)
	victim := int64(-1)
	for b := range s.count {
		if b == open || !s.blocks[b].full() {
			continue
		}
		if victim < 0 || counts[b] < counts[victim] {
			victim = b
			continue
		}
		if counts[b] == counts[victim] && s.blocks[b].wear < s.blocks[victim].wear {
			victim = b
		}
	}
	return victim
}
