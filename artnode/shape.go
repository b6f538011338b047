package artnode

import "slices"

// shape is how a node keeps its children.
type shape[T any] interface {
	get(b byte) (T, bool)
	set(b byte, x T) // there is room for b
	drop(b byte)     // b has something
	from(b int) (byte, T, bool)
	len() int
}

// kind is how many children s can have.
func kind[T any](s shape[T]) int {
	switch s.(type) {
	case *four[T]:
		return 4
	case *sixteen[T]:
		return 16
	case *middle[T]:
		return 48
	}
	return 256
}

// least is how few children s does not keep; -1, if it keeps however few.
func least[T any](s shape[T]) int {
	switch s.(type) {
	case *four[T]:
		return -1
	case *sixteen[T]:
		return 3
	case *middle[T]:
		return 12
	}
	return 36
}

// next is an empty shape of the kind behind the one of s.
func next[T any](s shape[T]) shape[T] {
	switch s.(type) {
	case *four[T]:
		return &sixteen[T]{}
	case *sixteen[T]:
		return &middle[T]{}
	}
	return &whole[T]{}
}

// last is an empty shape of the kind ahead of the one of s.
func last[T any](s shape[T]) shape[T] {
	switch s.(type) {
	case *whole[T]:
		return &middle[T]{}
	case *middle[T]:
		return &sixteen[T]{}
	}
	return &four[T]{}
}

// moved is to, with the children of s.
func moved[T any](s, to shape[T]) shape[T] {
	each(s, to.set)
	return to
}

// each calls do with the bytes that have something in s, rising, and with it.
func each[T any](s shape[T], do func(b byte, x T)) {
	for b, x, ok := s.from(0); ok; b, x, ok = s.from(int(b) + 1) {
		do(b, x)
	}
}

// four is the shape of the kind 4.
type four[T any] struct{ list[T] }

// sixteen is the shape of the kind 16.
type sixteen[T any] struct{ list[T] }

// list is children in a row, their bytes rising.
type list[T any] struct {
	bytes  []byte
	things []T
}

func (l *list[T]) get(b byte) (x T, is bool) {
	i, is := slices.BinarySearch(l.bytes, b)
	if is {
		x = l.things[i]
	}
	return x, is
}

func (l *list[T]) set(b byte, x T) {
	i, is := slices.BinarySearch(l.bytes, b)
	if is {
		l.things[i] = x
		return
	}
	l.bytes = slices.Insert(l.bytes, i, b)
	l.things = slices.Insert(l.things, i, x)
}

// add puts a child behind the others, whose bytes are less.
func (l *list[T]) add(b byte, x T) {
	l.bytes = append(l.bytes, b)
	l.things = append(l.things, x)
}

func (l *list[T]) drop(b byte) {
	i, _ := slices.BinarySearch(l.bytes, b)
	l.bytes = slices.Delete(l.bytes, i, i+1)
	l.things = slices.Delete(l.things, i, i+1)
}

func (l *list[T]) from(b int) (at byte, x T, ok bool) {
	for i, at := range l.bytes {
		if int(at) >= b {
			return at, l.things[i], true
		}
	}
	return 0, x, false
}

func (l *list[T]) len() int { return len(l.bytes) }

// middle is the shape of the kind 48: children in a row, in any order, and for each byte where its child stands.
type middle[T any] struct {
	places [256]uint8 // one more than the child's place; 0, if there is none
	bytes  []byte
	things []T
}

func (m *middle[T]) get(b byte) (x T, is bool) {
	if m.places[b] == 0 {
		return x, false
	}
	return m.things[m.places[b]-1], true
}

func (m *middle[T]) set(b byte, x T) {
	if m.places[b] != 0 {
		m.things[m.places[b]-1] = x
		return
	}
	m.bytes = append(m.bytes, b)
	m.things = append(m.things, x)
	m.places[b] = uint8(len(m.bytes))
}

// drop moves the row's last child to where b's stood.
func (m *middle[T]) drop(b byte) {
	end := len(m.bytes) - 1
	at := m.places[b]
	m.bytes[at-1], m.things[at-1] = m.bytes[end], m.things[end]
	m.places[m.bytes[end]] = at
	m.places[b] = 0
	m.bytes = m.bytes[:end]
	// Delete clears the place, so that what stood there isn't kept.
	m.things = slices.Delete(m.things, end, end+1)
}

func (m *middle[T]) from(b int) (at byte, x T, ok bool) {
	for i := b; i < len(m.places); i++ {
		if m.places[i] != 0 {
			return byte(i), m.things[m.places[i]-1], true
		}
	}
	return 0, x, false
}

func (m *middle[T]) len() int { return len(m.bytes) }

// whole is the shape of the kind 256: a place for each byte.
type whole[T any] struct {
	has    [256]bool
	things [256]T
	count  int
}

func (w *whole[T]) get(b byte) (T, bool) { return w.things[b], w.has[b] }

func (w *whole[T]) set(b byte, x T) {
	if !w.has[b] {
		w.count++
	}
	w.has[b], w.things[b] = true, x
}

func (w *whole[T]) drop(b byte) {
	var none T
	w.has[b], w.things[b] = false, none
	w.count--
}

func (w *whole[T]) from(b int) (at byte, x T, ok bool) {
	for i := b; i < len(w.has); i++ {
		if w.has[i] {
			return byte(i), w.things[i], true
		}
	}
	return 0, x, false
}

func (w *whole[T]) len() int { return w.count }
