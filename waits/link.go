package waits

// link of a list: what stands there, and the link behind it. A list begins with a link in which nothing stands, so that the first one has a link ahead of it like all others.
type link[T any] struct {
	it   T
	next *link[T]
}

// ahead is the link just ahead of the first one behind l that is meant; the last link, if none is.
func (l *link[T]) ahead(isMeant func(T) bool) *link[T] {
	for l.next != nil && !isMeant(l.next.it) {
		l = l.next
	}
	return l
}

// add lets one stand just behind l.
func (l *link[T]) add(it T) { l.next = &link[T]{it, l.next} }

// drop takes out the one just behind l, which whoever calls it knows to be there.
func (l *link[T]) drop() { l.next = l.next.next }
