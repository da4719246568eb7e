package deltas

import (
	"iter"
	"slices"
)

// link is one that sleeps, with the ticks by which it wakes behind the one ahead of it; of the first one these are the ticks from now on.
type link[T comparable] struct {
	who    T
	behind int64
}

// chain is all that sleep, by when they wake; who wake at one tick stand as they were added. As each counts from the one ahead, a tick that goes by is told to the first one alone. Whoever calls it sees to it that nobody is added twice.
type chain[T comparable] struct {
	links []link[T]
}

// lefts is each place of the chain, with the ticks that are left there: all those up to it, summed up.
func (c *chain[T]) lefts() iter.Seq2[int, int64] {
	return func(yield func(int, int64) bool) {
		left := int64(0)
		for place := range c.links {
			left += c.links[place].behind
			if !yield(place, left) {
				return
			}
		}
	}
}

// find is the place of one that is there, and the ticks that are left.
func (c *chain[T]) find(who T) (int, int64, bool) {
	for place, left := range c.lefts() {
		if c.links[place].who == who {
			return place, left, true
		}
	}
	return 0, 0, false
}

// add puts one behind all that have no more ticks left than it, those with as many among them: they were added first.
func (c *chain[T]) add(who T, ticks int64) {
	place, behind := 0, ticks
	for ahead, left := range c.lefts() {
		if left > ticks {
			break
		}
		place, behind = ahead+1, ticks-left
	}
	c.links = slices.Insert(c.links, place, link[T]{who, behind})
	c.shift(place+1, -behind)
}

// removeAt leaves its ticks to the next one, which wakes when it would have.
func (c *chain[T]) removeAt(place int) {
	behind := c.links[place].behind
	c.links = slices.Delete(c.links, place, place+1)
	c.shift(place, behind)
}

// shift makes the one at a place, if there is one, wake so many ticks further behind the one ahead of it.
func (c *chain[T]) shift(place int, ticks int64) {
	if place < len(c.links) {
		c.links[place].behind += ticks
	}
}

// tick lets one go by, and tells those that are there no more as none is left of them.
func (c *chain[T]) tick() []T {
	c.shift(0, -1)
	var woken []T
	for place, left := range c.lefts() {
		if left > 0 {
			break
		}
		woken = append(woken, c.links[place].who)
	}
	c.links = slices.Delete(c.links, 0, len(woken))
	return woken
}

// all that are there, in memory of their own.
func (c *chain[T]) all() []T {
	told := make([]T, len(c.links))
	for place, one := range c.links {
		told[place] = one.who
	}
	return told
}
