package wheel

import "math/bits"

const (
	depth = 6             // levels
	digit = 6             // bits of a time that tell a slot of one level
	wide  = 1 << digit    // slots of a level
	reach = depth * digit // bits of a time that all levels tell
)

// level: slots, each for times that share all but their lowest bits; of level 0 for one time.
type level struct {
	full  uint64 // a bit for each slot that isn't empty
	slots [wide][][2]int
}

// place: the level and the slot of a time behind now; depth, if it is beyond all levels. The level is that of the highest digit in which they differ, so all of a level's slots lie behind now, and what they hold stays right while time goes on to any second ahead of them.
func place(now, at int) (i, slot int) {
	i = (bits.Len64(uint64(now^at)) - 1) / digit
	if i >= depth {
		return depth, 0
	}
	return i, at >> (i * digit) % wide
}

// beginning: the first second of a slot.
func beginning(now, i, slot int) int {
	shift := i * digit
	return (now>>(shift+digit)<<digit | slot) << shift
}

// first: the first slot that isn't empty.
func (l *level) first() (slot int, ok bool) {
	if l.full == 0 {
		return 0, false
	}
	return bits.TrailingZeros64(l.full), true
}

// add: one more in a slot.
func (l *level) add(slot int, x [2]int) {
	l.slots[slot] = append(l.slots[slot], x)
	l.full |= 1 << slot
}

// remove: one less in a slot.
func (l *level) remove(slot int, x [2]int) {
	l.slots[slot] = without(l.slots[slot], x)
	if len(l.slots[slot]) == 0 {
		l.full &^= 1 << slot
	}
}

// empty: all that a slot held.
func (l *level) empty(slot int) [][2]int {
	list := l.slots[slot]
	l.slots[slot] = nil
	l.full &^= 1 << slot
	return list
}
