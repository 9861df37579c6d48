package dfa

// found is a list of things, each of which is found by a text that it alone has.
type found[T any] struct {
	places map[string]int
	things []T
}

func nothing[T any]() found[T] { return found[T]{places: map[string]int{}} }

// place answers the place of the thing that has a text, if it is there. Far more texts are asked for than are added: they come as bytes, so that none needs memory of its own.
func (f *found[T]) place(text []byte) (int, bool) {
	place, ok := f.places[string(text)]
	return place, ok
}

// add puts a thing behind the others.
func (f *found[T]) add(text []byte, thing T) {
	f.places[string(text)] = len(f.things)
	f.things = append(f.things, thing)
}
