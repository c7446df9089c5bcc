package lens

import "container/heap"

// thing is a letter, or what stands above two things.
type thing struct {
	weight int
	number int // of two that weigh the same the one of the lesser number is the lesser one
}

// things are a heap, as the library asks for one.
type things []thing

// Len is how many things there are.
func (t things) Len() int { return len(t) }

// Swap lets two things change their places.
func (t things) Swap(i, j int) { t[i], t[j] = t[j], t[i] }

// Less tells whether the thing at i is less than the one at j.
func (t things) Less(i, j int) bool {
	if t[i].weight != t[j].weight {
		return t[i].weight < t[j].weight
	}
	return t[i].number < t[j].number
}

// Push lays a thing behind the others; what is none is left out, as the library may be handed anything.
func (t *things) Push(x any) {
	if one, ok := x.(thing); ok {
		*t = append(*t, one)
	}
}

// Pop takes the last thing away.
func (t *things) Pop() any {
	last := len(*t) - 1
	one := (*t)[last]
	*t = (*t)[:last]
	return one
}

// come lets a thing come.
func (t *things) come(one thing) {
	heap.Push(t, one)
}

// least lets the least thing go. There must be one.
func (t *things) least() thing {
	return heap.Pop(t).(thing) // nothing else was ever pushed
}
