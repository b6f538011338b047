// Package nodes is what the trees of the layers have alike: nodes of one type, each in a slot of a pool, and one of them the root.
package nodes

import (
	"marshalling/api"
	"marshalling/arena"
)

// Nodes is the nodes of one tree. Of nil ones, for a tree that was not made, State, Count and Drop may be called, and nothing else.
type Nodes[N any] struct {
	pool   *arena.Pool
	things *arena.Arena[N]
	root   api.Handle // zero, if all are dropped
}

// New is a root alone; ErrFull, if no slot of the pool is free.
func New[N any](p *arena.Pool, root N) (*Nodes[N], api.Errno) {
	things := arena.New[N](p)
	h, e := things.Alloc(root)
	if e != api.OK {
		return nil, e
	}
	return &Nodes[N]{pool: p, things: things, root: h}, api.OK
}

// State is ErrNil of nil ones, ErrGone, if they are dropped, else OK: there is a root then.
func (s *Nodes[N]) State() api.Errno {
	if s == nil {
		return api.ErrNil
	}
	if s.root == (api.Handle{}) {
		return api.ErrGone
	}
	return api.OK
}

// Root is the root's handle; the zero one, which is never alive, if all are dropped.
func (s *Nodes[N]) Root() api.Handle { return s.root }

// Raise makes the node of h the root.
func (s *Nodes[N]) Raise(h api.Handle) { s.root = h }

// Room tells whether n slots of the pool are free.
func (s *Nodes[N]) Room(n int) bool { return s.pool.Room(n) }

// Add puts a node into a free slot; the zero handle and no place, if there is none.
func (s *Nodes[N]) Add(n N) (api.Handle, *N) {
	h, _ := s.things.Alloc(n)
	at, _ := s.things.Get(h)
	return h, at
}

// At is where the node of h stands; false, if h is dead.
func (s *Nodes[N]) At(h api.Handle) (*N, bool) { return s.things.Get(h) }

// Look is what a reader finds at h once visit is done, which may be nil: what was read ahead of that may be so no more.
func (s *Nodes[N]) Look(h api.Handle, visit func()) (*N, bool) {
	if visit != nil {
		visit()
	}
	return s.At(h)
}

// Release gives back the slot of h.
func (s *Nodes[N]) Release(h api.Handle) { s.things.Release(h) }

// Count is how many nodes there are.
func (s *Nodes[N]) Count() int {
	if s == nil {
		return 0
	}
	return s.things.Live()
}

// Drop gives all slots back, the root's too.
func (s *Nodes[N]) Drop() {
	if s == nil {
		return
	}
	for _, h := range s.things.Handles() {
		s.Release(h)
	}
	s.root = api.Handle{}
}
