package content_test

import (
	"fmt"

	"evergreen/api"
	"evergreen/content"
)

// Example is the example of README.md.
func Example() {
	d := api.Doc{
		Lines: []api.Line{{Text: "To be"}, {Text: "or not", Mark: 3}},
		Cells: []api.Cell{{Value: 5}, {Col: 1, Value: 7}, {Row: 1, Col: 1, Sum: true}},
	}
	n, found := content.Value(d, 1, 1)
	fmt.Println(n, found)
	marks, e := content.Property(d, api.PMarks)
	fmt.Printf("%x %d\n", marks, e)
	all, _ := content.All(d)
	root := content.Root(all)
	s, _ := content.Encode(d)
	same, _ := content.Decode(s)
	fmt.Println(content.Same(d, same))
	same.Lines[1].Mark = 4
	all, _ = content.All(same)
	fmt.Println(content.Root(all) == root)
	_, e = content.Decode(s + "\x00")
	fmt.Println(e)
	d.Lines[1].Mark = 8
	fmt.Println(content.Valid(d))
	// Output:
	// 12 true
	// 040006 0
	// true
	// false
	// 10
	// false
}
