package dedup

import "lodestar/api"

// cloneMessage copies a message, and each of its lists to new memory.
func cloneMessage(x api.Message) api.Message {
	x.Changes = cloneEach(x.Changes, cloneChange)
	x.Vec = cloneList(x.Vec)
	x.Filter = cloneFilter(x.Filter)
	x.Bytes = cloneList(x.Bytes)
	x.Names = cloneList(x.Names)
	x.Items = cloneEach(x.Items, cloneItem)
	x.Hits = cloneList(x.Hits)
	return x
}

func cloneChange(c api.Change) api.Change {
	return api.Change{Gone: c.Gone, Item: cloneItem(c.Item)}
}

func cloneItem(x api.Item) api.Item {
	return api.Item{Id: x.Id, Vec: cloneList(x.Vec), Tags: cloneList(x.Tags)}
}

func cloneFilter(f api.Filter) api.Filter {
	return api.Filter{All: cloneList(f.All), Any: cloneList(f.Any), None: cloneList(f.None)}
}

// cloneEach copies to new memory what has lists of its own.
func cloneEach[T any](l []T, clone func(T) T) []T {
	var to []T
	for _, x := range l {
		to = append(to, clone(x))
	}
	return to
}

// cloneList copies to new memory. slices.Clone wouldn't do: of no things it gives a piece of the old memory, and keeps that alive.
func cloneList[T any](l []T) []T {
	return append([]T(nil), l...)
}
