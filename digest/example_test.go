package digest_test

import (
	"fmt"

	"evergreen/digest"
)

// Example is the example of README.md.
func Example() {
	l := []string{"first", "second", "third"}
	root := digest.Root(l)
	proof, _ := digest.Proof(l, 1)
	fmt.Println(digest.Verify(root, 3, 1, "second", proof))
	fmt.Println(digest.Verify(root, 3, 1, "another", proof))
	longer, _ := digest.Extension(l, 2)
	fmt.Println(digest.VerifyExtension(digest.Root(l[:2]), 2, root, 3, longer))
	// Output:
	// true
	// false
	// true
}
