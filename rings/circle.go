package rings

// circle is a row within slots that go round: the one behind the last slot is the first one. Whoever calls it sees to it that what is added has room and that what is taken is there.
type circle[T comparable] struct {
	slots []T // as many as there may be
	first int // the slot of the first one
	many  int // that there are
}

// slot in which a place of the row stands.
func (c *circle[T]) slot(place int) int { return (c.first + place) % len(c.slots) }

func (c *circle[T]) isFull() bool { return c.many == len(c.slots) }

func (c *circle[T]) addLast(one T) {
	c.slots[c.slot(c.many)] = one
	c.many++
}

func (c *circle[T]) addFirst(one T) {
	c.first = c.slot(len(c.slots) - 1) // one back, going round
	c.slots[c.first] = one
	c.many++
}

func (c *circle[T]) takeFirst() T {
	one := c.slots[c.first]
	c.first = c.slot(1)
	c.many--
	return one
}

// placeOf one that is there.
func (c *circle[T]) placeOf(one T) (int, bool) {
	for place := range c.many {
		if c.slots[c.slot(place)] == one {
			return place, true
		}
	}
	return 0, false
}

// removeAt lets those behind a place move up.
func (c *circle[T]) removeAt(place int) {
	c.many--
	for ; place < c.many; place++ {
		c.slots[c.slot(place)] = c.slots[c.slot(place+1)]
	}
}

// all of the row, in memory of their own.
func (c *circle[T]) all() []T {
	told := make([]T, c.many)
	for place := range told {
		told[place] = c.slots[c.slot(place)]
	}
	return told
}
