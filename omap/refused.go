package omap

import "marshalling/api"

// Refused is the error by which op is refused, whatever the map; OK, if by none. Of op, only what its kind names is looked at.
func Refused(op api.Op) api.Errno {
	large := largeKey(op.Key)
	switch op.Kind {
	case api.Get, api.Delete, api.Next:
	case api.Put:
		large = large || largeValue(op.Value)
	case api.Swap:
		large = large || largeValue(op.Value) || op.Had && largeValue(op.Old)
	case api.Batch:
		return refusedWrites(op.Writes)
	default:
		return api.ErrKind
	}
	if large {
		return api.ErrLarge
	}
	return api.OK
}

func refusedWrites(l []api.Write) api.Errno {
	if len(l) > api.MaxBatch {
		return api.ErrLong
	}
	for _, w := range l {
		if largeKey(w.Key) || !w.Gone && largeValue(w.Value) {
			return api.ErrLarge
		}
	}
	return api.OK
}

func largeKey(key string) bool { return len(key) > api.MaxKey }

func largeValue(value string) bool { return len(value) > api.MaxValue }
