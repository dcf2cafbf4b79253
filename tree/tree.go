// Package tree: lists of things that have lists of such things in them. What they are, and how to look into them, is handed in.
//
// Such things may be deeper than calls can be open: so there is a list of what is still to be done, and no function here calls itself.
// They may also be in themselves, or share lists so often that they have more parts than there is time for:
// of these, too, there is an end to all but Search.
package tree

const (
	most     = 1 << 26 // more things than the greatest answer has room for
	patience = 1 << 18 // after so many things it is likely that some are looked at again and again
)

// list is a list in memory, as one that may be met again.
type list[T any] struct {
	first *T
	size  int
}

func listOf[T any](l []T) list[T] {
	if len(l) == 0 {
		return list[T]{}
	}
	return list[T]{&l[0], len(l)}
}

// HasMore tells whether a list has more than so many things, with those that are in them.
// It looks at no more of them than it needs for that.
func HasMore[T any](l []T, than int, in func(T) []T) bool {
	things := len(l)
	todo := [][]T{l}
	for things <= than && len(todo) > 0 {
		l := todo[len(todo)-1]
		todo = todo[:len(todo)-1]
		for _, thing := range l {
			if inner := in(thing); len(inner) > 0 {
				things += len(inner)
				todo = append(todo, inner)
			}
		}
	}
	return things > than
}

// IsDeeper tells whether something in a list stands in more than so many others.
// It goes level by level, and takes no list of a level twice.
func IsDeeper[T any](l []T, than int, in func(T) []T) bool {
	level := [][]T{l}
	for range than + 1 {
		var below [][]T
		met := make(map[list[T]]struct{})
		for _, l := range level {
			for _, thing := range l {
				inner := in(thing)
				if _, ok := met[listOf(inner)]; !ok && len(inner) > 0 {
					met[listOf(inner)] = struct{}{}
					below = append(below, inner)
				}
			}
		}
		level = below
	}
	return len(level) > 0
}

// Search goes through a thing and what is in it, the outer one first, from the left, until one is found.
// Its end must be known: it is not for what may be in itself.
func Search[T any](thing T, in func(T) []T, found func(T) bool) bool {
	todo := []T{thing}
	for len(todo) > 0 {
		thing := todo[len(todo)-1]
		todo = todo[:len(todo)-1]
		if found(thing) {
			return true
		}
		inner := in(thing)
		for i := range inner {
			todo = append(todo, inner[len(inner)-1-i])
		}
	}
	return false
}

// twins are two lists that stand at the same place.
type twins[T any] struct {
	a, b []T
}

// Same tells whether two lists are the same, at any depth, where alike tells it of two things without what is in them.
// From some number of things on it takes no twins twice, so that there is an end to it.
func Same[T any](a, b []T, in func(T) []T, alike func(a, b T) bool) bool {
	things := 0
	met := make(map[[2]list[T]]struct{})
	todo := []twins[T]{{a, b}}
	for len(todo) > 0 {
		t := todo[len(todo)-1]
		todo = todo[:len(todo)-1]
		if len(t.a) != len(t.b) {
			return false
		}
		things += len(t.a)
		if things > patience {
			both := [2]list[T]{listOf(t.a), listOf(t.b)}
			if _, ok := met[both]; ok {
				continue
			}
			met[both] = struct{}{}
		}
		for i := range t.a {
			if !alike(t.a[i], t.b[i]) {
				return false
			}
			if a, b := in(t.a[i]), in(t.b[i]); len(a) > 0 || len(b) > 0 {
				todo = append(todo, twins[T]{a, b})
			}
		}
	}
	return true
}

// Own tells a list like that in memory of its own, where with tells a thing like another one, but with that list in it.
// No two lists of it share memory; but if there are more things than an answer can have,
// each list is made only once: so there is an end to it.
func Own[T any](l []T, in func(T) []T, with func(T, []T) T) []T {
	var made map[list[T]][]T
	if HasMore(l, patience, in) && isTooMuch(l, in) {
		made = make(map[list[T]][]T)
	}
	own := append([]T(nil), l...)
	todo := [][]T{own}
	for len(todo) > 0 {
		l := todo[len(todo)-1]
		todo = todo[:len(todo)-1]
		for i := range l {
			inner := in(l[i])
			anew, ok := made[listOf(inner)]
			if !ok && len(inner) > 0 {
				anew = append([]T(nil), inner...)
				todo = append(todo, anew)
				if made != nil {
					made[listOf(inner)] = anew
				}
			}
			l[i] = with(l[i], anew)
		}
	}
	return own
}

// isTooMuch tells whether there are more things than an answer can have, without going through them all:
// a list has its turn once, when all places in which it stands had theirs, and it is known how often it is there.
func isTooMuch[T any](l []T, in func(T) []T) bool {
	left := placesOf(l, in)
	if left[listOf(l)] > 0 {
		return true
	}
	often := map[list[T]]int{listOf(l): 1}
	things, turns := 0, 0
	todo := [][]T{l}
	for len(todo) > 0 {
		l := todo[len(todo)-1]
		todo = todo[:len(todo)-1]
		turns++
		times := often[listOf(l)]
		things += times * len(l)
		if things > most {
			return true
		}
		for _, thing := range l {
			inner := listOf(in(thing))
			often[inner] += times
			left[inner]--
			if left[inner] == 0 {
				todo = append(todo, in(thing))
			}
		}
	}
	// Lists that are in themselves have no turn.
	return turns < len(left)
}

// placesOf tells of each list in how many places of lists it stands.
func placesOf[T any](l []T, in func(T) []T) map[list[T]]int {
	places := map[list[T]]int{listOf(l): 0}
	todo := [][]T{l}
	for len(todo) > 0 {
		l := todo[len(todo)-1]
		todo = todo[:len(todo)-1]
		for _, thing := range l {
			inner := in(thing)
			if _, ok := places[listOf(inner)]; !ok {
				todo = append(todo, inner)
			}
			places[listOf(inner)]++
		}
	}
	return places
}
