"""What README.md shows of the program: its rows of code print what stands behind them."""

import contextlib
import io
import pathlib
import re
import unittest

README = pathlib.Path(__file__).resolve().parent.parent / "README.md"


class ReadmeTest(unittest.TestCase):
    def test_examples_print_what_they_say(self):
        blocks = re.findall(r"```python\n(.*?)```", README.read_text(encoding="utf-8"), re.DOTALL)
        self.assertTrue(blocks)
        for block in blocks:
            told = io.StringIO()
            with contextlib.redirect_stdout(told):
                exec(block, {})
            self.assertEqual(told.getvalue().splitlines(), re.findall(r"^print.*# (.*)$", block, re.MULTILINE))


if __name__ == "__main__":
    unittest.main()
